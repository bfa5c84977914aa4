/- The document's Set. -/
import Derived.Test.YtlnblhajcbmmkaaTRHas
namespace Go.Proofs.Ytlnblhajcbmmkaa
open Go.RowKit

/-- A list of the document's in memory. -/
structure Rl (w : World) (ao : Option Addr) (cap : Nat) (L : List Tm) : Prop where
  tms : Tms w ao L
  spot : ∀ a, ao = some a → a.spot = none
  nil : ao = none → cap = 0
  cap : L.length ≤ cap ∧ cap ≤ maxLen

theorem Rl.calm {w w' : World} {ao : Option Addr} {cap : Nat} {L : List Tm} (h : Rl w ao cap L) (ht : Calm w w') : Rl w' ao cap L := ⟨h.tms.calm ht, h.spot, h.nil, h.cap⟩
theorem Rl.none (w : World) : Rl w none 0 [] := ⟨Tms.nil _ _, fun _ h => (nomatch h), fun _ => rfl, Nat.le_refl _, Nat.zero_le _⟩

theorem OwnT.rl {w : World} {base n cap : Nat} {ao : Option Addr} {L : List Tm} (h : OwnT w base (.slice ao n cap) L) : Rl w ao cap L ∧ ∀ a, ao = some a → base ≤ a.block := by
  obtain ⟨_, h2, h3, h4, h5, h6⟩ := h.prs
  exact ⟨⟨h2, fun a ha => (h3 a ha).1, h6, h4, h5⟩, fun a ha => (h3 a ha).2.2.1⟩

theorem tslice_from {w : World} {ao : Option Addr} {cap k : Nat} {L : List Tm} (h : Rl w ao cap L) (hk : k ≤ L.length) :
    ∃ so sc, (∀ W, (Instr.slice 22 (.slice ao L.length cap) (some (.int .i64 (k : Nat))) none none).run Try.prog W = .ok (.slice so (L.length - k) sc) W) ∧ Tms w so (L.drop k) ∧ (so = none → sc = 0) := by
  obtain ⟨i, hi, hz, hs, hby⟩ := info_parts2 infoTimer
  have hc := h.cap.1
  have he : Try.prog.elem 22 = 35 := by kernel_rfl
  refine ⟨if cap = k then ao else ao.map fun x => x.add (k * 4), cap - k, fun W => ?_, ?_, ?_⟩
  · rw [run_slice_l W 22 ao L.length cap (by rw [he]; exact Try.underlying22) .i64 (k : Nat) (by omega) (by omega), he]
    simp only [sizeOf, typeInfo]
    simp [hi, hs, sliced]
  · by_cases hck : cap = k
    · rw [if_pos hck, List.drop_of_length_le (by omega)]; exact Tms.nil _ _
    · rw [if_neg hck]; exact h.tms.drop k
  · intro h'
    by_cases hck : cap = k
    · omega
    · rw [if_neg hck] at h'
      have := h.nil (by simpa using h')
      omega

/-- The list with a timer more. -/
def setT (t : Tm) (L : List Tm) : List Tm := if t ∈ L then L else L.take (leadT t L) ++ [t] ++ L.drop (leadT t L)

theorem setT_mem (t : Tm) (L : List Tm) (x : Tm) : x ∈ setT t L ↔ x ∈ L ∨ x = t := by
  unfold setT
  by_cases ht : t ∈ L
  · rw [if_pos ht]
    exact ⟨.inl, fun h => h.elim id (fun e => e ▸ ht)⟩
  · rw [if_neg ht, List.mem_append, List.mem_append, List.mem_singleton]
    have e : x ∈ L ↔ x ∈ L.take (leadT t L) ∨ x ∈ L.drop (leadT t L) := by rw [← List.mem_append, List.take_append_drop]
    rw [e]
    constructor
    · rintro ((h | h) | h)
      · exact .inl (.inl h)
      · exact .inr h
      · exact .inl (.inr h)
    · rintro ((h | h) | h)
      · exact .inl (.inl h)
      · exact .inr h
      · exact .inl (.inr h)

theorem nth_drop (L : List Tm) (k i : Nat) : nth (L.drop k) i = nth L (k + i) := by simp [nth, List.getElem?_drop]
theorem nth_take {L : List Tm} {k i : Nat} (h : i < k) : nth (L.take k) i = nth L i := by simp [nth, h]

theorem Srt.set {L : List Tm} (h : Srt L) (t : Tm) : Srt (setT t L) := by
  unfold setT
  by_cases ht : t ∈ L
  · rw [if_pos ht]; exact h
  · rw [if_neg ht]
    have hlo : ∀ x ∈ L.take (leadT t L), cmpT x t < 0 := fun x hx => by
      obtain ⟨i, hi, e⟩ := mem_nth.1 hx
      rw [List.length_take] at hi
      rw [← e, nth_take (by omega)]
      exact leadT_lt (by omega)
    have hhi : ∀ x ∈ L.drop (leadT t L), cmpT t x < 0 := fun x hx => by
      obtain ⟨i, hi, e⟩ := mem_nth.1 hx
      rw [List.length_drop] at hi
      rw [nth_drop] at e
      have hl : leadT t L < L.length := by omega
      have h1 : cmpT t (nth L (leadT t L)) < 0 := cgt (leadT_at hl) (fun e2 => ht (e2 ▸ mem_nth.2 ⟨_, hl, rfl⟩))
      rw [← e]
      by_cases h0 : i = 0
      · subst h0; exact h1
      · exact clt h1 (h.lt (by omega) (by omega))
    have hd : Srt (L.take (leadT t L)) := List.Pairwise.sublist (List.take_sublist _ _) h
    have hu : Srt (L.drop (leadT t L)) := List.Pairwise.sublist (List.drop_sublist _ _) h
    refine List.pairwise_append.2 ⟨List.pairwise_append.2 ⟨hd, List.pairwise_singleton _ _, fun a ha b hb => by rw [List.mem_singleton.1 hb]; exact hlo a ha⟩, hu, fun a ha b hb => ?_⟩
    rcases List.mem_append.1 ha with ha | ha
    · exact clt (hlo a ha) (hhi b hb)
    · rw [List.mem_singleton.1 ha]; exact hhi b hb

/-- What the document's calls that answer a list do. -/
def ListR (w : World) (ao : Option Addr) (l L : List Tm) (e : Ending) (w' : World) : Prop :=
  ∃ ao' cap', e = .returned (.slice ao' L.length cap') ∧ Rl w' ao' cap' L ∧ (∀ a, ao' = some a → (ao = some a ∧ L = l) ∨ w.heap.size ≤ a.block) ∧ Calm w w'

set_option maxRecDepth 100000 in
set_option maxHeartbeats 2000000 in
theorem rset_any (ao : Option Addr) (cap : Nat) (l : List Tm) (t : Tm) (w : World) (h : Rl w ao cap l) (hs : Srt l) (hb : l.length < 3518437208790) :
    Calls Try.prog 10 #[.slice ao l.length cap, tv t] w (ListR w ao l (setT t l)) := by
  have tA : Calm w (w.alloc (.cells (tc t) 35)) := (Touch.refl _ _).alloc _
  have HS := hide (rhas_any ao cap l t _ (h.tms.calm tA) hs (by omega))
  have PL := hide (fun W (hW : Calm w W) => place_any ao cap l t W (h.tms.calm hW) (by omega))
  have H := hide h
  have TA := hide tA
  have HA := hide (heap_alloc_last w (.cells (tc t) 35))
  have HB := hide hb
  have HK := hide (leadT_le t l)
  obtain ⟨⟨c0, c1, c2, c3⟩, -⟩ := cells4 HA.out
  clear h hs hb tA
  by_cases ht : t ∈ l
  · have hd : decide (t ∈ l) = true := decide_eq_true ht
    have hset : setT t l = l := by unfold setT; rw [if_pos ht]
    rw [hd] at HS
    rw [hset]
    clear hset hd ht
    generalize hL : l.length = L at *
    have HL := hide hL
    clear hL
    go_enter Try.func10, Try.ntmps10
    go_wp2_with fail
    refine HS.out.mono ?_
    rintro e w2 ⟨rfl, t2⟩
    have T2 := hide (TA.out.tr t2)
    clear t2 c0 c1 c2 c3
    go_wp2_with fail
    go_ret
    exact ⟨ao, cap, by rw [HL.out]; rfl, H.out.calm T2.out, fun a ha => .inl ⟨ha, rfl⟩, T2.out⟩
  · have hd : decide (t ∈ l) = false := decide_eq_false ht
    have hset : setT t l = l.take (leadT t l) ++ [t] ++ l.drop (leadT t l) := by unfold setT; rw [if_neg ht]
    rw [hd] at HS
    rw [hset]
    obtain ⟨so, sc, hsf, pf, nf⟩ := tslice_from H.out HK.out
    have SF := hide hsf
    have PF := hide pf
    have NF := hide nf
    have ST := hide (fun W => tslice_to (ao := ao) (cap := cap) (k := leadT t l) (n := l.length) H.out.spot (by have := HK.out; have := H.out.cap.1; omega) W)
    have PT := hide (H.out.tms.take (leadT t l))
    have HTL : Hid ((l.take (leadT t l)).length = leadT t l) := hide (by rw [List.length_take]; have := HK.out; omega)
    have HDL : Hid ((l.drop (leadT t l)).length = l.length - leadT t l) := hide List.length_drop
    clear hset hd ht hsf pf nf
    generalize l.take (leadT t l) = lt at *
    generalize l.drop (leadT t l) = ld at *
    generalize leadT t l = k at *
    generalize hL : l.length = L at *
    have HL := hide hL
    clear hL
    obtain ⟨M, hM⟩ : ∃ M, L - k = M := ⟨_, rfl⟩
    have HMM := hide hM
    rw [hM] at SF HDL
    clear hM
    go_enter Try.func10, Try.ntmps10
    go_wp2_with fail
    refine HS.out.mono ?_
    rintro e w2 ⟨rfl, t2⟩
    have T2 := hide (TA.out.tr t2)
    have A2 := hide (t2.at HA.out)
    obtain ⟨⟨d0, d1, d2, d3⟩, -⟩ := cells4 A2.out
    clear t2 c0 c1 c2 c3 HA
    go_wp2_with fail
    refine (PL.out _ T2.out).mono ?_
    rintro e w3 ⟨rfl, t3⟩
    have T3 := hide (T2.out.tr t3)
    have A3 := hide (t3.at A2.out)
    have sl3 := ST.out w3
    have P3 := hide (PT.out.calm T3.out)
    have HS3 := hide T3.out.size
    have HB3 : Hid (([] : List Tm).length + lt.length ≤ 3518437208800) := hide (by have := HTL.out; have := HK.out; have := HB.out; simp; omega)
    clear t3 d0 d1 d2 d3 A2 T2
    go_wp2_with (at_builtin; refine wpList_tapp rfl (.tmp 14) (.tmp 17) rfl w.heap.size _ [] rfl (World.ownsRow_nil _ _ _ _) ao k cap lt HTL.out rfl P3.out H.out.nil HB3.out HS3.out ?ny)
    case ny =>
      intro ao4 cap4 w4 ow4 t4
      have T4 : Hid (Calm w w4) := hide (T3.out.trans t4 (fun g hg hs => by simp [Value.ownBlock] at hs))
      have A4 := hide (t4.heap A3.out (fun hs => by simp [Value.ownBlock] at hs))
      have OW4 : Hid (OwnT w4 w.heap.size (.slice ao4 k cap4) lt) := hide (by simpa [HTL.out] using ow4)
      obtain ⟨⟨d0, d1, d2, d3⟩, -⟩ := cells4 A4.out
      have e4 : lt.length = k := HTL.out
      clear ow4 t4 sl3 A3 T3
      rw [e4]
      have tB : Calm w4 (w4.alloc (.cells (tc t) 35)) := (Touch.refl _ _).alloc _
      have O5 := hide (OW4.out.calm tB)
      have P5 := hide (tms_one w4 t)
      have HS5 := hide (Nat.le_trans T4.out.size tB.size)
      have HB5 : Hid (lt.length + [t].length ≤ 3518437208800) := hide (by have := HTL.out; have := HK.out; have := HB.out; simp; omega)
      have TB := hide (T4.out.tr tB)
      clear tB e4
      go_wp2_with (at_builtin; refine wpList_tapp rfl (.tmp 19) (.tmp 21) rfl w.heap.size _ lt rfl O5.out (some ⟨w4.heap.size, 0, none⟩) 1 1 [t] rfl rfl P5.out (fun h => (nomatch h)) HB5.out HS5.out ?nz)
      case nz =>
        intro ao6 cap6 w6 ow6 t6
        have T6 : Hid (Calm w w6) := hide (TB.out.trans t6 (fun g hg hs => by have := (own_block O5.out hs).1; omega))
        have e6 : (lt ++ [t]).length = lt.length + 1 := by simp
        have OW6 : Hid (OwnT w6 w.heap.size (.slice ao6 (lt.length + 1) cap6) (lt ++ [t])) := hide (by first | exact ow6 | (rw [e6] at ow6; exact ow6))
        have sl6 := SF.out w6
        have P6 := hide (PF.out.calm T6.out)
        have HB6 : Hid ((lt ++ [t]).length + ld.length ≤ 3518437208800) := hide (by have := HTL.out; have := HK.out; have := HB.out; have := HDL.out; have := HMM.out; rw [e6]; omega)
        obtain ⟨N1, hN1⟩ : ∃ N1, lt.length + 1 = N1 := ⟨_, rfl⟩
        rw [hN1] at OW6
        try rw [e6]
        rw [hN1]
        clear ow6 t6 d0 d1 d2 d3 e6 hN1
        go_wp2_with (at_builtin; refine wpList_tapp rfl (.tmp 23) (.tmp 26) rfl w.heap.size _ (lt ++ [t]) rfl OW6.out so M sc ld HDL.out rfl P6.out NF.out HB6.out T6.out.size ?nx)
        case nx =>
          intro ao8 cap8 w8 ow8 t8
          have T8 : Hid (Calm w w8) := hide (T6.out.trans t8 (fun g hg hs => by have := (own_block OW6.out hs).1; omega))
          have e8 : (lt ++ [t] ++ ld).length = (lt ++ ([t] ++ ld)).length := by simp
          obtain ⟨N2, hN2⟩ : ∃ N2, (lt ++ [t] ++ ld).length = N2 := ⟨_, rfl⟩
          have OW8 : Hid (OwnT w8 w.heap.size (.slice ao8 N2 cap8) (lt ++ [t] ++ ld)) := hide (by rw [← hN2]; simpa using ow8)
          have HN2 := hide hN2
          have hN3 : lt.length + (ld.length + 1) = N2 := by rw [← hN2]; simp
          try simp only [List.length_append, List.length_cons, List.length_nil, Nat.zero_add] at hN2 ⊢
          try rw [hN3]
          try rw [hN2]
          clear ow8 t8 hN2 hN3 e8 sl6
          go_wp2_with fail
          go_ret
          refine ⟨ao8, cap8, ?_, OW8.out.rl.1, fun a ha => .inr (OW8.out.rl.2 a ha), T8.out⟩
          rw [HN2.out]
          rfl

end Go.Proofs.Ytlnblhajcbmmkaa
