/- The walk of GroupsNames. -/
import Derived.Test.YtmhobdcnohhaaaaGKnown
import Derived.Laws.BytesArg
import Derived.Laws.BytesString
namespace Go.Proofs.Ytmhobdcnohhaaaa
open Go.RowKit

set_option maxRecDepth 100000 in
theorem conv_seg {w : World} {ao : Option Addr} {xs : List Int} (h : Seg w .u8 ao xs) (cap : Nat) : (convert 63 9 (.slice ao xs.length cap)).run Try.prog w = .ok (.string (strOfNums xs)) w := by
  cases ao with
  | none =>
    rw [h.none rfl]
    exact run_convert_bytes_nil w _ _ Try.underlying63 Try.underlying5 _ _ _ Try.underlying9
  | some a =>
    by_cases hx : xs = []
    · subst hx
      rw [run_convert_bytes_string w _ _ _ _ _ _ Try.underlying63 Try.underlying5 Try.underlying9]
      exact (run_bytesToString w a 0 cap [] (by rfl))
    · obtain ⟨b, off, e⟩ := h.addr (List.length_pos_iff.2 hx)
      cases e
      exact run_convert_bytes_arg w _ _ Try.underlying63 Try.underlying5 b off _ cap xs rfl (fun i hi => h.at i hi) _ Try.underlying9

/-- 'make([]byte, n)': n noughts. -/
theorem wpList_make_zeros {P : Program} (w : World) {ops : Array Oper} {rest : List Oper} {o : Oper} {a : Act} {Q : Exit → Act → World → Prop}
    (hg : o.guard = none) (l c : Operand) (t : TypeId) (hop : o.op = Op.makeSlice t l c)
    (e : TypeId) (i : TypeInfo) (h1 : P.underlying t = some (.slice e)) (h2 : P.info? e = some i) (h3 : i.zero = some (.int .u8 0)) (h4 : i.size = 1) (h5 : i.bytes = 1)
    (L : Int) (n : Nat) (hl : a.eval l = .int .i64 L) (hc : a.eval c = .int .i64 L) (hL : L = (n : Int)) (b2 : n ≤ 281474976710656) (b3 : n ≤ maxLen) (zs : List Int) (hzs : zs = List.replicate n 0)
    (hK : ∀ w', Row w' e .u8 (.slice (some ⟨w.heap.size, 0, none⟩) n n) zs → Touch (fun _ => False) w w' → wpList P ops Q rest (a.put o.dst (.slice (some ⟨w.heap.size, 0, none⟩) n n)) w') :
    wpList P ops Q (o :: rest) a w := by
  refine wpList_make_full w hg l c t hop 0 e i _ 1 h1 h2 h3 h4 .i64 .i64 L L n hl hc hL hL (by rw [h5]; omega) b3 (Nat.zero_le _) fun w' hown hgr => ?_
  refine hK w' ?_ ((Touch.of_grownBy hgr).mono (fun k _ h => by simp at h))
  have e1 : (madeCells (Value.cells (.int .u8 0)) (n * 1)).toList = (List.replicate n (0 : Int)).map (Value.int .u8) := by
    rw [List.map_replicate]
    show (madeCells #[.int .u8 0] (n * 1)).toList = _
    apply List.ext_getElem?
    intro i
    by_cases h : i < n
    · simp [madeCells, h, Nat.mod_one]
    · simp [madeCells, h]
  rw [e1] at hown
  subst hzs
  unfold Row
  rw [List.length_replicate]
  exact hown

theorem info_parts {P : Program} {e : TypeId} {z : Value} {s b : Nat} (h : (P.info? e).map (fun i => (i.zero, i.size, i.bytes)) = some (some z, s, b)) : ∃ i, P.info? e = some i ∧ i.zero = some z ∧ i.size = s ∧ i.bytes = b := info_parts2 h

theorem infoU8 : (Try.prog.info? 5).map (fun i => (i.zero, i.size, i.bytes)) = some (some (.int .u8 0), 1, 1) := by kernel_rfl

theorem strOfNums_size (xs : List Int) : (strOfNums xs).size = xs.length := by
  show (strOfNums xs).data.size = _
  have := congrArg List.length (strOfNums_data xs)
  simpa using this

def zeros257 : List Int := List.replicate 257 0
theorem zeros_len : zeros257.length = 257 := List.length_replicate

theorem Seg.front {w : World} {k : IntKind} {ao : Option Addr} {xs : List Int} (h : Seg w k ao xs) (n : Nat) : Seg w k ao (xs.take n) :=
  ⟨fun e => by rw [h.none e]; simp, fun a e hx => h.spot a e (fun hx' => hx (by rw [hx']; simp)), fun a e j hj => by
    have hj' : j < xs.length := by simp at hj; omega
    have := h.cell a e j hj'
    rw [this, List.getElem_take]⟩

set_option maxRecDepth 100000 in
set_option maxHeartbeats 2000000 in
theorem names_walk (w : World) : Calls Try.prog 7 #[] w fun e w' => e = .returned (.bool true) ∧ Touch (fun _ => False) w w' := by
  obtain ⟨i0, hi, hz0, hz1, hz2⟩ := info_parts infoU8
  have HL := hide zeros_len
  go_enter Try.func7, Try.ntmps7
  go_wp2_with (at_make; refine wpList_make_zeros _ rfl (.const (.int .i64 257)) (.const (.int .i64 257)) 63 rfl 5 i0 Try.underlying63 hi hz0 hz1 hz2 257 257 rfl rfl (by omega) (by omega) (by unfold maxLen; omega) zeros257 rfl ?nx)
  case nx =>
    intro w1 R1 T1
    generalize zeros257 = xs at *
    generalize w.heap.size = g1 at R1 ⊢
    have SG := Seg.of_row R1
    obtain ⟨s1, CV1, hs1⟩ : ∃ s1 : ByteArray, (convert 63 9 (.slice (some ⟨g1, 0, none⟩) 256 257)).run Try.prog w1 = .ok (.string s1) w1 ∧ s1.size = 256 := by
      have hl : (xs.take 256).length = 256 := by rw [List.length_take, HL.out]; rfl
      have := conv_seg (SG.front 256) 257
      rw [hl] at this
      exact ⟨_, this, by rw [strOfNums_size, hl]⟩
    obtain ⟨s2, CV2, hs2⟩ : ∃ s2 : ByteArray, (convert 63 9 (.slice (some ⟨g1, 0, none⟩) 257 257)).run Try.prog w1 = .ok (.string s2) w1 ∧ s2.size = 257 := by
      have := conv_seg SG 257
      rw [HL.out] at this
      exact ⟨_, this, by rw [strOfNums_size, HL.out]⟩
    have m1 : mayG ((32768 : Nat) : Int) = true := by decide
    have K1 : Hid (∀ W, Calls Try.prog 8 #[.string s1, .int .i64 32768] W fun e w' => e = .returned (.tuple #[.int .i64 (hsh s1 % 32768 : Nat), .int .i64 0]) ∧ w' = W) := hide (fun W => by
      have := group_any s1 ⟨by omega⟩ ((32768 : Nat) : Int) W
      rw [(gA_yes m1 (by omega)).1, (gA_yes m1 (by omega)).2] at this
      exact this)
    have K2 : Hid (∀ W, Calls Try.prog 8 #[.string s2, .int .i64 32768] W fun e w' => e = .returned (.tuple #[.int .i64 0, .int .i64 3]) ∧ w' = W) := hide (fun W => by
      have := group_any s2 ⟨by omega⟩ ((32768 : Nat) : Int) W
      rw [(gA_long m1 (by omega)).1, (gA_long m1 (by omega)).2] at this
      exact this)
    have my : May 32768 32768 := ⟨by omega, by omega, by omega, by omega⟩
    have K3 : Hid (∀ W, Calls Try.prog 10 #[.int .i64 32767, .int .i64 32768, .int .i64 32768] W fun e w' => e = .returned (.tuple #[.int .i64 32767, .int .i64 32768, .int .i64 0]) ∧ Touch (fun _ => False) W w') := hide (stretch0_yes 32767 32768 32768 my (by omega))
    have K4 := hide (fun W => stretch0_no 0 32769 32769 (by decide) W)
    have K5 : Hid (∀ W, Calls Try.prog 12 #[.int .i64 32767, .int .i64 32768, .int .i64 32768] W fun e w' => e = .returned (.tuple #[.int .i64 32767, .int .i64 0]) ∧ w' = W) := hide (worker0_yes 32767 32768 32768 my (by omega))
    have HT1 := hide T1
    generalize (hsh s1 % 32768 : Nat) = y1 at *
    clear SG R1 T1 hs1 hs2 m1 my
    go_wp2_with fail
    refine (K1.out _).mono ?_
    rintro e w' ⟨rfl, rfl⟩
    go_wp2_with fail
    refine (K2.out _).mono ?_
    rintro e w' ⟨rfl, rfl⟩
    go_wp2_with fail
    refine (K3.out _).mono ?_
    rintro e w3 ⟨rfl, t3⟩
    have HT3 := hide (HT1.out.trans t3 (fun _ _ h => h))
    clear t3 HT1 CV1 CV2
    go_wp2_with fail
    refine (K4.out _).mono ?_
    rintro e w' ⟨rfl, rfl⟩
    go_wp2_with fail
    refine (K5.out _).mono ?_
    rintro e w' ⟨rfl, rfl⟩
    go_wp2_with (first | (go_at_call 18; refine (num_any _ _).mono ?_; rintro e w' ⟨rfl, rfl⟩) | (go_at_call 19; refine (known_any _).mono ?_; rintro e w5 ⟨rfl, t5⟩))
    go_ret
    exact ⟨rfl, HT3.out.trans t5 (fun _ _ h => h)⟩

end Go.Proofs.Ytmhobdcnohhaaaa
