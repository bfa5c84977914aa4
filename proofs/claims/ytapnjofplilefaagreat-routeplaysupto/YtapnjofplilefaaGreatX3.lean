/- RoutePlays: any step; how it begins. RoutePlays: the law, its beginning. -/
import Derived.Test.YtapnjofplilefaaGreatZX4
import Derived.Test.YtapnjofplilefaaGreatZX6
import Derived.Test.YtapnjofplilefaaGreatX5
import Derived.Test.YtapnjofplilefaaGreatX2
import Derived.Deep.CutRange
namespace Go.Proofs.YtapnjofplilefaaGreat
open Go.RowKit

theorem on_two (on : Int) : ∃ k : Nat, k < 2 ∧ (wrap64 (on.tmod 2 + 2)).tmod 2 = (k : Int) := by
  have h1 : on.tmod 2 = -1 ∨ on.tmod 2 = 0 ∨ on.tmod 2 = 1 := by
    have := Int.tmod_lt_of_pos on (show (0 : Int) < 2 by decide)
    have := Int.lt_tmod_of_pos on (show (0 : Int) < 2 by decide)
    omega
  rcases h1 with h | h | h <;> rw [h]
  · exact ⟨1, by decide, by kernel_rfl⟩
  · exact ⟨0, by decide, by kernel_rfl⟩
  · exact ⟨1, by decide, by kernel_rfl⟩

theorem stepZ_any {c : Cf} {p g b Wb : Nat} {th : Nat → Th} {m : Nat} {T : Int} {oo : Option Addr} {oc : Nat} {wo : Option Addr} {wc : Nat} {w : World} (h : Wl c p g b Wb th m T oo oc wo wc w) (kd on : Int) (M : List It) (mo : Option Addr) (mc : Nat) (ke : ByteArray) (hM : encI.Sl w mo mc M) (hb : ∀ a, mo = some a → M ≠ [] → a.block < b) (hm : m ≤ 10) (hx : ke.size < 9223372036854775808) (hl9 : M.length ≤ 10000000) (hT9 : T + M.length ≤ 4611686018427387904) : Calls Tryz.prog 7 #[cp Wb, .agg #[.int .i64 kd, .int .i64 on, .slice mo M.length mc, .string ke]] w (RetW c p g b Wb (T + M.length) w) := by
  obtain ⟨k, hk2, hk⟩ := on_two on
  by_cases e1 : kd = 1
  · subst e1
    by_cases hn : M.length = 0
    · exact stepZ_1e h on k hk2 hk M mo mc ke hm hn
    · cases hz : itemZ c (M.getD 0 it0) with
      | false => exact stepZ_1n h on k hk2 hk M mo mc ke hM hb hm (by omega) hz
      | true => exact stepZ_1y h on k hk2 hk M mo mc ke hM hb hm (by omega) hz hT9
  by_cases e2 : kd = 2
  · subst e2; exact stepZ_2 h on k hk2 hk M mo mc ke hM hb hm hl9 hT9
  by_cases e3 : kd = 3
  · subst e3
    by_cases hl : ke.size ≤ 256
    · exact stepZ_3s h on k hk2 hk M mo mc ke hm hx hl
    · exact stepZ_3l h on k hk2 hk M mo mc ke hm hx hl
  by_cases e4 : kd = 4
  · subst e4; exact stepZ_4 h on k hk2 hk M mo mc ke hm
  by_cases e5 : kd = 5
  · subst e5; exact stepZ_5 h on k hk2 hk M mo mc ke hm (by omega)
  by_cases e6 : kd = 6
  · subst e6
    by_cases hm9 : m < 10
    · exact stepZ_6b h on k hk2 hk M mo mc ke hm hm9
    · exact stepZ_6a h on k hk2 hk M mo mc ke hm hm9
  exact stepZ_o h kd on k hk2 hk M mo mc ke hm e1 e2 e3 e4 e5 e6

/-- The first i pairs have been made. -/
abbrev begC (i : Nat) (th : Nat → Th) : Array Value := #[if 0 < i then cp (th 0).a else .pointer none, if 1 < i then cp (th 2).a else .pointer none, if 0 < i then cp (th 1).a else .pointer none, if 1 < i then cp (th 3).a else .pointer none, .slice none 0 0, .slice none 0 0]
structure Beg (c : Cf) (p g b Wb i : Nat) (th : Nat → Th) (w : World) : Prop where
  own : w.heap[Wb]? = some (.cells (begC i th) 34 (0, 0))
  tb : Tb Pr c p b (fun d => d = Wb) th (2 * i) w
  al : ∀ j, j < i → Al c p g 0 (th (2 * j)) (th (2 * j + 1))
  lo : b ≤ Wb
theorem beg_cell {w : World} {B : Nat} {v0 v1 v2 v3 v4 v5 : Value} {ty : TypeId} (h : w.heap[B]? = some (.cells #[v0, v1, v2, v3, v4, v5] ty (0, 0))) : (w.cell? ⟨B, 0, none⟩ = some v0 ∧ w.cell? ⟨B, 1, none⟩ = some v1 ∧ w.cell? ⟨B, 2, none⟩ = some v2 ∧ w.cell? ⟨B, 3, none⟩ = some v3) ∧ ∀ o, w.frozen? ⟨B, o, none⟩ = false := by simp [World.cell?, World.frozen?, h]
theorem Beg.next {c : Cf} {p g b Wb i : Nat} {th : Nat → Th} {w w3 : World} (h : Beg c p g b Wb i th w) (hi : i < 2) (hjob : jobB c = true) (hg : c.gr = (g : Int)) (hmay : May p g) {q r : Nat} {G F : Nat → Prop} (ht : Calm w w3) (hp : Pr w3 q G c p (List.replicate c.so.toNat minT) 0) (hr : Rr w3 r F c p (List.replicate c.so.toNat minT) 0) (hG : ∀ d, G d → w.heap.size ≤ d) (hF : ∀ d, F d → w.heap.size ≤ d) (hGF : ∀ d, G d → ¬ F d) :
    ∃ th', Beg c p g b Wb (i + 1) th' ((w3.setCell ⟨Wb, i, none⟩ (cp q)).setCell ⟨Wb, 2 + i, none⟩ (cp r)) := by
  classical
  have hWb := lt_of_heap h.own
  have o3 := ht.at h.own
  have P1 := heap_setCell_row (i := i) o3 (cp q)
  have P2 := heap_setCell_row (i := 2 + i) P1 (cp r)
  have T2 := ((Touch.refl (fun d => d = Wb) w3).setCell (p := ⟨Wb, i, none⟩) (fun _ => rfl) (cp q)).setCell (p := ⟨Wb, 2 + i, none⟩) (fun _ => rfl) (cp r)
  have TT : Touch (fun d => d = Wb) w ((w3.setCell ⟨Wb, i, none⟩ (cp q)).setCell ⟨Wb, 2 + i, none⟩ (cp r)) := (ht.mono fun _ _ h => h.elim).trans T2 fun _ _ h => h
  have hso : 1 ≤ c.so ∧ c.so ≤ 64 := by
    have hjj : jobP c := of_decide_eq_true hjob
    unfold jobP at hjj
    omega
  refine ⟨fun d => if d = 2 * i then ⟨true, q, List.replicate c.so.toNat minT, 0⟩ else if d = 2 * i + 1 then ⟨false, r, List.replicate c.so.toNat minT, 0⟩ else th d, ?_, ?_, fun j hj => ?_, h.lo⟩
  · rw [P2]
    rcases (show i = 0 ∨ i = 1 by omega) with rfl | rfl <;> simp [begC]
  · obtain ⟨col, h1, h2⟩ := h.tb
    refine ⟨fun d => if d < w.heap.size then col d else if G d then 2 * i + 2 else if F d then 2 * i + 1 + 2 else 1, fun x hx => ?_, fun d hd => ?_⟩
    · by_cases x1 : x = 2 * i
      · subst x1
        refine ⟨G, by dsimp only; rw [if_pos rfl]; unfold Ho15; rw [if_pos rfl]; exact hp.touch T2 (fun d hd e => by have := hG d hd; have e : d = Wb := e; omega), fun d hd => ?_⟩
        have := hG d hd
        have := h.lo
        dsimp only
        rw [if_neg (by omega), if_pos hd]
        exact ⟨rfl, by omega⟩
      · by_cases x2 : x = 2 * i + 1
        · subst x2
          refine ⟨F, by dsimp only; rw [if_neg (by omega), if_pos rfl]; unfold Ho15; rw [if_neg (by simp)]; exact hr.touch T2 (fun d hd e => by have := hF d hd; have e : d = Wb := e; omega), fun d hd => ?_⟩
          have := hF d hd
          have := h.lo
          dsimp only
          rw [if_neg (by omega), if_neg (fun hg9 => hGF d hg9 hd), if_pos hd]
          exact ⟨rfl, by omega⟩
        · obtain ⟨G9, h3, h4⟩ := h1 x (by omega)
          refine ⟨G9, by dsimp only; rw [if_neg x1, if_neg x2]; exact h3.touch router_all TT (fun d hd e => by have := (h4 d hd).1; have := (h2 d e).1; omega), fun d hd => ?_⟩
          dsimp only
          rw [if_pos (h3.lt router_all d hd)]
          exact h4 d hd
    · have e : d = Wb := hd
      obtain ⟨a1, a2, a3⟩ := h2 d hd
      have := TT.size
      dsimp only
      rw [if_pos a2]
      exact ⟨a1, by omega, a3⟩
  · by_cases e : j = i
    · subst e
      rw [if_pos rfl, if_neg (by omega), if_pos rfl]
      refine ⟨rfl, rfl, rfl, rfl, Int.le_refl _, Int.le_refl _, ⟨hg, hmay, by rw [List.length_replicate]; omega⟩, ?_⟩
      unfold allT
      rw [List.all_eq_true]
      intro x hx
      rw [List.mem_range, List.length_replicate] at hx
      show timZ ((List.replicate c.so.toNat minT).getD x 0) = true
      rw [List.getD_eq_getElem?_getD, List.getElem?_replicate, if_pos hx]
      rfl
    · rw [if_neg (by omega), if_neg (by omega), if_neg (by omega), if_neg (by omega)]
      exact h.al j (by omega)
theorem Beg.done {c : Cf} {p g b Wb : Nat} {th : Nat → Th} {w : World} (h : Beg c p g b Wb 2 th w) : ∃ th', Wl c p g b Wb th' 0 0 none 0 none 0 w := by
  have tb := h.tb.swap 1 2 (by omega) (by omega)
  refine ⟨fun r => if r = 1 then th 2 else if r = 2 then th 1 else th r, ?_, Rc.Own.nil _ _ _, Rc.Own.nil _ _ _, ?_, ?_, ?_, fun i hi => (nomatch hi), h.lo⟩
  · have := h.own
    simpa [begC] using this
  · obtain ⟨col, h1, h2⟩ := tb
    refine ⟨col, h1, fun d hd => ?_⟩
    rcases hd with hd | hd | hd
    · exact h2 d hd
    · simp [Value.ownBlock] at hd
    · simp [Value.ownBlock] at hd
  · exact h.al 0 (by omega)
  · exact h.al 1 (by omega)

end Go.Proofs.YtapnjofplilefaaGreat

namespace Go.Proofs.YtapnjofplilefaaGreat
open Go.RowKit

/-- A step of the script. -/
structure St15 where
  kd : Int
  on : Int
  M : List It
  mo : Option Addr
  mc : Nat
  ke : ByteArray
def encS15 : Rc.Enc St15 := ⟨4, fun x => [.int .i64 x.kd, .int .i64 x.on, .slice x.mo x.M.length x.mc, .string x.ke], fun _ => rfl, fun _ u hu => by
  simp at hu
  rcases hu with rfl | rfl | rfl | rfl <;> rfl, by decide⟩
abbrev st15 : St15 := ⟨0, 0, [], none, 0, ⟨#[]⟩⟩
theorem cell_lt {w : World} {a : Addr} {u : Value} (h : w.cell? a = some u) : a.block < w.heap.size := by
  cases e : w.heap[a.block]? with
  | none => simp [World.cell?, e] at h
  | some o => exact lt_of_heap e
theorem mem_lt {α : Type} {E : Rc.Enc α} {w : World} {ao : Option Addr} {L : List α} (h : E.Mem w ao L) : ∀ a, ao = some a → L ≠ [] → a.block < w.heap.size := fun a ha hne => by
  have hl : 0 < L.length := List.length_pos_iff.2 hne
  obtain ⟨b, off, e, k⟩ := Rc.Mem.at h 0 hl
  have h0 : 0 < (E.cells L[0]).length := by rw [E.len]; exact E.pos
  have := cell_lt (k 0 _ (List.getElem?_eq_getElem h0))
  rw [ha] at e
  injection e with e
  subst e
  exact this
theorem steps_W {w : World} {F : Nat → Prop} {ao : Option Addr} {N : List St15} (h : encS15.Mem w ao N) (hF : ∀ a, ao = some a → N ≠ [] → ¬ F a.block) (j : Nat) (hj : j < N.length) : ∃ gs off, ao = some ⟨gs, off, none⟩ ∧ ∀ W, Touch F w W →
    W.cell? ⟨gs, off + j * 4, none⟩ = some (.int .i64 (N.getD j st15).kd) ∧ W.cell? ⟨gs, off + j * 4 + 1, none⟩ = some (.int .i64 (N.getD j st15).on) ∧ W.cell? ⟨gs, off + j * 4 + 2, none⟩ = some (.slice (N.getD j st15).mo (N.getD j st15).M.length (N.getD j st15).mc) ∧ W.cell? ⟨gs, off + j * 4 + 3, none⟩ = some (.string (N.getD j st15).ke) := by
  obtain ⟨gs, off, e, -⟩ := Rc.Mem.at h j hj
  refine ⟨gs, off, e, fun W hW => ?_⟩
  obtain ⟨g2, off2, e2, k⟩ := Rc.Mem.at (Rc.Mem.touch h hW hF) j hj
  rw [e] at e2
  injection e2 with e2
  injection e2 with e3 e4
  subst e3 e4
  rw [List.getD_eq_getElem?_getD, List.getElem?_eq_getElem hj]
  exact ⟨k 0 _ rfl, k 1 _ rfl, k 2 _ rfl, k 3 _ rfl⟩
/-- So many items up to there. -/
def totN (N : List St15) (i : Nat) : Nat := ((N.take i).map fun x => x.M.length).sum
def tot (N : List St15) (i : Nat) : Int := (totN N i : Nat)
theorem tot_succ (N : List St15) (i : Nat) (h : i < N.length) : tot N (i + 1) = tot N i + (N.getD i st15).M.length := by
  have e : totN N (i + 1) = totN N i + (N.getD i st15).M.length := by
    unfold totN
    rw [List.take_add_one, List.getElem?_eq_getElem h, List.map_append, List.sum_append]
    simp [List.getD_eq_getElem?_getD, List.getElem?_eq_getElem h]
  unfold tot
  omega
theorem tot_le (N : List St15) (i : Nat) : tot N i ≤ ((N.map fun x => x.M.length).sum : Nat) := by
  have := List.take_append_drop i N
  have h : (N.map fun x => x.M.length).sum = totN N i + ((N.drop i).map fun x => x.M.length).sum := by
    unfold totN
    rw [← List.sum_append, ← List.map_append, this]
  unfold tot
  omega
theorem tot_zero (N : List St15) : tot N 0 = 0 := rfl

set_option maxRecDepth 100000 in
set_option maxHeartbeats 2000000 in
/-- A job that may not be, or workers. -/
theorem plays15_no (c : Cf) (wk : Int) (n nc : Nat) (no : Option Addr) (w : World) (hne : newE c wk ≠ 0) : Calls Tryz.prog 3 #[cfv c, .int .i64 wk, .slice no n nc] w fun e w' => e = .returned (.bool true) ∧ Calm w w' := by
  have CY := hide (fun W => router_all.new_no c wk W hne)
  have CX := hide (fun W => rnewZ_no c wk W hne)
  have KN := hide (fun W => known15_any router_all W)
  have EN : Hid ((newE c wk : Nat) ≠ 0) := hide hne
  have A0 := hide (al_old (al_new w (.cells (cfc c) 24)) (.cells #[.pointer none, .pointer none, .pointer none, .pointer none, .slice none 0 0, .slice none 0 0] 34))
  have T0 := hide (((Touch.refl (fun _ => False) w).alloc (.cells (cfc c) 24)).alloc (.cells #[.pointer none, .pointer none, .pointer none, .pointer none, .slice none 0 0, .slice none 0 0] 34))
  generalize newE c wk = E at *
  clear hne
  go_enter Tryz.func3, Tryz.ntmps3
  go_wp2_with fail
  generalize (w.alloc (.cells (cfc c) 24)).alloc (.cells #[.pointer none, .pointer none, .pointer none, .pointer none, .slice none 0 0, .slice none 0 0] 34) = w1 at *
  go_loopw [8, 9, 10, 11, 12] (fun s8 s9 s10 s11 s12 wr => s8 = .int .i64 0 ∧ wr = w1) (fun _ _ _ _ _ _ => 0)
  case atStart => exact ⟨rfl, rfl⟩
  case round =>
    obtain ⟨rfl, rfl⟩ := hrel
    obtain ⟨⟨c0, c1, c2, c3, c4, c5, c6⟩, c7, c8, c9⟩ := cf_cells A0.out
    go_wp2_with fail
    refine (CY.out _).mono ?_
    rintro e w2 ⟨rfl, t2⟩
    have A2 := hide (t2.at A0.out)
    have T2 := hide (T0.out.tr t2)
    clear c0 c1 c2 c3 c4 c5 c6 c7 c8 c9 t2 A0 T0 CY
    obtain ⟨⟨c0, c1, c2, c3, c4, c5, c6⟩, c7, c8, c9⟩ := cf_cells A2.out
    go_wp2_with fail
    refine (CX.out _).mono ?_
    rintro e w3 ⟨rfl, t3⟩
    have T3 := hide (T2.out.tr t3)
    clear c0 c1 c2 c3 c4 c5 c6 c7 c8 c9 t3 A2 T2 CX
    go_wp2_with fail
    refine (KN.out _).mono ?_
    rintro e w4 ⟨rfl, t4⟩
    have T4 := hide (T3.out.tr t4)
    clear t4 T3 KN
    go_wp2_with fail
    go_ret
    exact ⟨rfl, T4.out⟩

end Go.Proofs.YtapnjofplilefaaGreat
