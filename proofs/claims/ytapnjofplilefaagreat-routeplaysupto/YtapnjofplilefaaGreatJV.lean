/- The program's pile: rising. -/
import Derived.Test.YtapnjofplilefaaGreatJU
namespace Go.Proofs.YtapnjofplilefaaGreat
open Go.RowKit

theorem infoR : (Tryz.prog.info? 149).map (fun i => (i.zero, i.size, i.bytes)) = some (some (.agg #[.string ⟨#[]⟩, .int .i64 0, .int .i64 0]), 3, 32) := by kernel_rfl

/-- The holds as records. -/
def recV (V : List Ho) : List Hr := (List.range V.length).map fun i => ⟨(nh V i).n, (nh V i).t, (i : Int)⟩
theorem recV_len (V : List Ho) : (recV V).length = V.length := by simp [recV]
theorem recV_at {V : List Ho} {i : Nat} (hi : i < V.length) : (recV V).getD i default = ⟨(nh V i).n, (nh V i).t, (i : Int)⟩ := by simp [recV, hi]
theorem recV_hd (V : List Ho) : (recV V).map hdR = V.map hdO := by
  apply List.ext_getElem?
  intro i
  simp only [recV, List.map_map, List.getElem?_map]
  by_cases hi : i < V.length
  · rw [List.getElem?_eq_getElem hi, List.getElem?_range hi]
    simp only [Option.map_some, Function.comp]
    rw [nh_eq hi]
    rfl
  · rw [List.getElem?_eq_none (l := List.range V.length) (by simp; omega), List.getElem?_eq_none (l := V) (by omega)]
    rfl

/-- The first i of the row are written. -/
def Rz (w0 : World) (g n i : Nat) (V : List Ho) (wr : World) : Prop := ∃ cur : Array Value, wr.heap[g]? = some (.cells cur 149 (0, 0)) ∧ cur.size = n * 3 ∧ (∀ j, j < i → ∀ c, c < 3 → cur[j * 3 + c]? = some ((enc3 ((recV V).getD j default))[c]!)) ∧ Calm w0 wr

theorem Rz.free {w0 wr : World} {g n i : Nat} {V : List Ho} (h : Rz w0 g n i V wr) (hi : i < n) : (∃ u, wr.cell? ⟨g, i * 3, none⟩ = some u) ∧ (∃ u, wr.cell? ⟨g, i * 3 + 1, none⟩ = some u) ∧ (∃ u, wr.cell? ⟨g, i * 3 + 2, none⟩ = some u) ∧ ∀ o, wr.frozen? ⟨g, o, none⟩ = false := by
  obtain ⟨cur, h1, h2, -, -⟩ := h
  refine ⟨⟨cur[i * 3]'(by omega), ?_⟩, ⟨cur[i * 3 + 1]'(by omega), ?_⟩, ⟨cur[i * 3 + 2]'(by omega), ?_⟩, fun o => by simp [World.frozen?, h1]⟩ <;> simp [World.cell?, h1]
theorem Rz.next {w0 wr : World} {g n i : Nat} {V : List Ho} (h : Rz w0 g n i V wr) (hi : i < n) (hv : i < V.length) (hg : w0.heap.size ≤ g) : Rz w0 g n (i + 1) V (((wr.setCell ⟨g, i * 3, none⟩ (.string (nh V i).n)).setCell ⟨g, i * 3 + 1, none⟩ (.int .i64 (nh V i).t)).setCell ⟨g, i * 3 + 2, none⟩ (.int .i64 (i : Int))) := by
  obtain ⟨cur, h1, h2, h3, h4⟩ := h
  have k0 := heap_setCell_row (i := i * 3) h1 (.string (nh V i).n)
  have k1 := heap_setCell_row (i := i * 3 + 1) k0 (.int .i64 (nh V i).t)
  have k2 := heap_setCell_row (i := i * 3 + 2) k1 (.int .i64 (i : Int))
  have T : Touch (fun d => d = g) wr (((wr.setCell ⟨g, i * 3, none⟩ (.string (nh V i).n)).setCell ⟨g, i * 3 + 1, none⟩ (.int .i64 (nh V i).t)).setCell ⟨g, i * 3 + 2, none⟩ (.int .i64 (i : Int))) := (((Touch.refl (fun k => k = g) wr).setCell (p := ⟨g, i * 3, none⟩) (fun _ => rfl) _).setCell (p := ⟨g, i * 3 + 1, none⟩) (fun _ => rfl) _).setCell (p := ⟨g, i * 3 + 2, none⟩) (fun _ => rfl) _
  refine ⟨_, k2, by simpa using h2, fun j hj c hc => ?_, h4.trans T (fun d hd e => by omega)⟩
  simp only [Array.getElem?_setIfInBounds, Array.size_setIfInBounds, h2]
  by_cases e : j = i
  · subst e
    rw [recV_at hv]
    rcases (show c = 0 ∨ c = 1 ∨ c = 2 by omega) with rfl | rfl | rfl
    · rw [if_neg (by omega), if_neg (by omega), if_pos (by omega), if_pos (by omega)]; rfl
    · rw [if_neg (by omega), if_pos rfl, if_pos (by omega)]; rfl
    · rw [if_pos rfl, if_pos (by omega)]; rfl
  · rw [if_neg (by omega), if_neg (by omega), if_neg (by omega)]
    exact h3 j (by omega) c hc

theorem srt_of {R : List Hr} {H : List Hd} {V : List Ho} (hp : R.Perm (recV V)) (hk : Lk V H) (hs : ∀ i j, i < j → j < R.length → ¬ cmpR (R.getD j default) (R.getD i default) < 0) : R.map hdR = H := by
  have hperm : (R.map hdR).Perm H := ((hp.map hdR).trans (by rw [recV_hd])).trans hk.same
  refine sorted_eq ?_ hk.srt hperm
  have nd : (R.map hdR).Pairwise fun a b => a.n ≠ b.n := by
    refine (hperm.pairwise_iff (fun {_ _} h e => h e.symm)).2 (hk.srt.imp fun {a b} h e => ?_)
    rw [e, ltN_irr] at h; cases h
  rw [List.pairwise_iff_getElem] at nd
  unfold Srt
  rw [List.pairwise_iff_getElem]
  intro i j hi hj hij
  have ne := nd i j hi hj hij
  simp only [List.length_map] at hi hj
  have := hs i j hij hj
  unfold cmpR at this
  rw [List.getD_eq_getElem?_getD, List.getD_eq_getElem?_getD, List.getElem?_eq_getElem hi, List.getElem?_eq_getElem hj] at this
  simp only [Option.getD_some] at this
  simp only [List.getElem_map] at ne ⊢
  have a := Sc.cmpS_ord.anti R[i].n R[j].n
  have h2 : Sc.cmpS R[i].n R[j].n < 0 := by
    rcases Int.lt_trichotomy (Sc.cmpS R[i].n R[j].n) 0 with h | h | h
    · exact h
    · exact absurd (Sc.cmpS_same.1 h) ne
    · omega
  have h3 := Sc.cmpS_lt.1 h2
  show ltN R[i].n R[j].n = true
  unfold ltN
  rw [Sc.less_eq]
  exact decide_eq_true h3

set_option maxRecDepth 100000 in
set_option maxHeartbeats 1000000 in
theorem rising_any (V : List Ho) (H : List Hd) (po : Option Addr) (pc : Nat) (w : World) (hm : encV.Mem w po V) (hs : Hs w V) (hk : Lk V H) (hl : V.length ≤ 4600000000000) : Calls Tryz.prog 71 #[.slice po V.length pc] w fun e w' => ∃ g R, e = .returned (.slice (some ⟨g, 0, none⟩) V.length V.length) ∧ R.map hdR = H ∧ w.heap.size ≤ g ∧ g < w'.heap.size ∧ Rv w' g R ∧ Calm w w' := by
  obtain ⟨i0, hi, hz0, hz1, hz2⟩ := Rc.info_parts infoR
  obtain ⟨M, hM, hMs⟩ : ∃ M : Array Value, (∀ W : World, (Instr.makeSlice 146 (.int .i64 (V.length : Int)) (.int .i64 (V.length : Int))).run Tryz.prog W = .ok (.slice (some ⟨W.heap.size, 0, none⟩) V.length V.length) (W.alloc (.cells M 149))) ∧ M.size = V.length * 3 :=
    ⟨madeCells (Value.agg #[.string ⟨#[]⟩, .int .i64 0, .int .i64 0]).cells (((V.length : Nat) : Int).toNat * i0.size), fun W => by
      have h := run_make (P := Tryz.prog) W 146 149 i0 (.agg #[.string ⟨#[]⟩, .int .i64 0, .int .i64 0]) Tryz.underlying146 hi hz0 .i64 .i64 (V.length : Int) (V.length : Int) (by omega) (by omega) (by rw [hz2]; omega) (by omega)
      simpa using h, by rw [size_madeCells, hz1]; simp⟩
  have Z0 : Hid (Rz w w.heap.size V.length 0 V (w.alloc (.cells M 149))) := hide ⟨M, al_new _ _, hMs, fun j hj => (nomatch hj), (Touch.refl _ _).alloc _⟩
  have SEE : Hid (∀ W j, Calm w W → j < V.length → ∃ b off, po = some ⟨b, off, none⟩ ∧ W.cell? ⟨b, off + j, none⟩ = some (cp (nh V j).b) ∧ W.cell? ⟨(nh V j).b, 0, none⟩ = some (.string (nh V j).n) ∧ W.cell? ⟨(nh V j).b, 1, none⟩ = some (.int .i64 (nh V j).t) ∧ W.cell? ⟨(nh V j).b, 2, none⟩ = some (.int .i64 (j : Int))) := hide fun W j hW hj => (hs.touch hW fun _ _ h => h).see (Rc.Mem.calm hm hW) j hj
  have NXT : Hid (∀ i wr, Rz w w.heap.size V.length i V wr → i < V.length → Rz w w.heap.size V.length (i + 1) V (((wr.setCell ⟨w.heap.size, i * 3, none⟩ (.string (nh V i).n)).setCell ⟨w.heap.size, i * 3 + 1, none⟩ (.int .i64 (nh V i).t)).setCell ⟨w.heap.size, i * 3 + 2, none⟩ (.int .i64 (i : Int)))) := hide fun i wr h hi => h.next hi hi (Nat.le_refl _)
  have SRT : Hid (∀ wr, Rz w w.heap.size V.length V.length V wr → Calls Tryz.prog 73 #[.slice (some ⟨w.heap.size, 0, none⟩) V.length V.length, .func (.func 74) #[] #[]] wr fun e w' => e = .returned (.tuple #[]) ∧ ∃ R, R.map hdR = H ∧ w.heap.size < w'.heap.size ∧ Rv w' w.heap.size R ∧ Calm w w') := hide fun wr hr => by
    obtain ⟨cur, h1, h2, h3, h4⟩ := hr
    have rh : Rh wr w.heap.size (recV V) := ⟨cur, h1, fun j hj c hc => h3 j (by rw [recV_len] at hj; exact hj) c hc⟩
    have C := sortR_any (cap := V.length) rh (by rw [recV_len]; omega)
    rw [recV_len] at C
    refine C.mono fun e w' ⟨e1, R', hp, hq, hv, ht⟩ => ⟨e1, R', srt_of hp hk (fun i j a b => hq i j a (by rw [hp.length_eq, recV_len] at b; exact b)), ?_, hv, h4.trans ht (fun d hd e => by omega)⟩
    have := lt_of_heap h1
    have := ht.size
    omega
  have CALM : Hid (∀ i wr, Rz w w.heap.size V.length i V wr → Calm w wr) := hide fun i wr ⟨_, _, _, _, h⟩ => h
  have FRZ : Hid (∀ i wr, Rz w w.heap.size V.length i V wr → i < V.length → (∃ u, wr.cell? ⟨w.heap.size, i * 3, none⟩ = some u) ∧ (∃ u, wr.cell? ⟨w.heap.size, i * 3 + 1, none⟩ = some u) ∧ (∃ u, wr.cell? ⟨w.heap.size, i * 3 + 2, none⟩ = some u) ∧ ∀ o, wr.frozen? ⟨w.heap.size, o, none⟩ = false) := hide fun i wr h hi => h.free hi
  have NEB : Hid (∀ j, j < V.length → (nh V j).b < w.heap.size) := hide fun j hj => lt_of_heap (hs.at_ j hj)
  clear hm hs hk hi hz0 hz1 hz2 hMs
  generalize hn : V.length = n at *
  have HL := hide hl
  clear hl
  go_enter Tryz.func71, Tryz.ntmps71
  go_wp2_with fail
  clear hM
  generalize w.alloc (.cells M 149) = w1 at *
  generalize hg : w.heap.size = g at *
  go_loopw [4, 5, 11] (fun s4 s5 s11 wr => ∃ i : Nat, s11 = .int .i64 (i : Int) ∧ i ≤ n ∧ Hid (Rz w g n i V wr)) (fun _ _ s11 _ => n - (intOf s11).toNat)
  case atStart => exact ⟨0, rfl, by omega, Z0⟩
  case round =>
    obtain ⟨i, rfl, hin, HA⟩ := hrel
    clear Z0
    by_cases hlt : i < n
    · have hltz : (i : Int) < (n : Int) := by omega
      obtain ⟨b, off, rfl, c0, c1, c2, c3⟩ := SEE.out wr i (CALM.out i wr HA.out) hlt
      obtain ⟨⟨u0, f0⟩, ⟨u1, f1⟩, ⟨u2, f2⟩, fz⟩ := FRZ.out i wr HA.out hlt
      have NX := hide (NXT.out i wr HA.out hlt)
      have zw : IntKind.i64.wrap ((i : Int) + 1) = ((i + 1 : Nat) : Int) := by rw [IntKind.wrap_i64]; have := HL.out; omega
      have g0 := fz (i * 3)
      have g1 := fz (i * 3 + 1)
      have g2 := fz (i * 3 + 2)
      generalize nh V i = y at *
      clear fz SEE NXT CALM FRZ HA NEB SRT
      go_wp2_with fail
      go_roundw
      case rel => exact ⟨i + 1, by first | rfl | go_num, by omega, NX⟩
      case measure => simp [intOf]; omega
    · have hltz : ¬ (i : Int) < (n : Int) := by omega
      obtain rfl : i = n := by omega
      have C := hide (SRT.out wr HA.out)
      clear SEE NXT CALM FRZ HA NEB SRT
      go_wp2_with fail
      refine C.out.mono ?_
      rintro e w' ⟨rfl, R, h1, h2, h3, h4⟩
      have F : Hid (R.map hdR = H ∧ g < w'.heap.size ∧ Rv w' g R ∧ Calm w w') := hide ⟨h1, h2, h3, h4⟩
      clear h1 h2 h3 h4 C
      go_wp2_with fail
      go_ret
      exact ⟨g, R, rfl, F.out.1, by omega, F.out.2⟩

end Go.Proofs.YtapnjofplilefaaGreat
