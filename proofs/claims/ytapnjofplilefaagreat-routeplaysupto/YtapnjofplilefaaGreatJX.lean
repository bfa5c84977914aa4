/- The program's clock: Copy. -/
import Derived.Test.YtapnjofplilefaaGreatJW
import Derived.Test.YtapnjofplilefaaGreatS2
namespace Go.Proofs.YtapnjofplilefaaGreat
open Go.RowKit
attribute [local go_sem] Oper.semAt_some

/-- A name behind all others. -/
theorem pl_end {A : List Hd} {x : ByteArray} (h : ∀ y ∈ A, ltN y.n x = true) : plN A x = A.length := by
  induction A with
  | nil => rfl
  | cons y A ih =>
    rw [pl_cons, if_pos (h y (by simp)), ih (fun z hz => h z (by simp [hz]))]
    rfl
theorem hold_end {A : List Hd} {x : ByteArray} (t : Int) (h : ∀ y ∈ A, ltN y.n x = true) : hasH A x = false ∧ holdH A x t = A ++ [⟨x, t⟩] := by
  have e := pl_end h
  have hh : hasH A x = false := by unfold hasH; rw [e]; simp
  refine ⟨hh, ?_⟩
  unfold holdH
  rw [free_none hh, e]
  simp
theorem srt_next {H : List Hd} (hs : Srt H) {k : Nat} {y : Hd} (hy : H[k]? = some y) : hasH (H.take k) y.n = false ∧ holdH (H.take k) y.n y.t = H.take (k + 1) := by
  have hk : k < H.length := (List.getElem?_eq_some_iff.1 hy).1
  have := hold_end (A := H.take k) (x := y.n) y.t (fun z hz => by
    obtain ⟨i, hi, e⟩ := List.mem_iff_getElem.1 hz
    rw [List.length_take] at hi
    have := List.pairwise_iff_getElem.1 hs i k (by omega) hk (by omega)
    rw [List.getElem_take] at e
    rw [e] at this
    rw [List.getElem?_eq_getElem hk] at hy
    injection hy with hy
    rw [hy] at this
    exact this)
  refine ⟨this.1, this.2.trans ?_⟩
  rw [List.take_add_one, hy]
  rfl

theorem Clk.wide {w : World} {q : Nat} {G G' : Nat → Prop} {L : List Int} {H : List Hd} (c : Clk w q G L H) (hg : ∀ g, G g → G' g) (hl : ∀ g, G' g → g < w.heap.size) : Clk w q G' L H := by
  obtain ⟨V, p, m, f, lo, lc, Gp, c1, c2, c3, c4, cg, c5, c6, c7⟩ := c.ex
  exact ⟨⟨V, p, m, f, lo, lc, Gp, c1, c2, fun g h => hg g (c3 g h), c4, fun g h => ⟨hg g (cg g h).1, (cg g h).2⟩, c5, hg m c6, c7⟩, hg q c.at_, hl, c.ne, c.len⟩

/-- While a copy is being made. -/
structure Cpy (w : World) (B q N T : Nat) (L : List Int) (H : List Hd) (W : World) : Prop where
  calm : Calm w W
  b : W.heap[B]? = some (.cells #[cp q] 84 (0, 0))
  ck : ∃ G, Clk W q G L H ∧ ∀ g, G g → w.heap.size ≤ g ∧ g ≠ B ∧ (g < N ∨ T ≤ g)
  lo : w.heap.size ≤ B ∧ B < N ∧ w.heap.size ≤ N
  sz : T ≤ W.heap.size
theorem Cpy.turn {w W W' : World} {B q N T : Nat} {L : List Int} {H : List Hd} {S : Nat → Prop} (h : Cpy w B q N T L H W) (ht : Touch S W W') (hS : ∀ g, S g → N ≤ g ∧ g < T) : Cpy w B q N T L H W' := by
  obtain ⟨G, c, hg⟩ := h.ck
  exact ⟨h.calm.trans ht (fun g hl s => by have := (hS g s).1; have := h.lo; omega), ht.heap h.b (fun s => by have := (hS _ s).1; have := h.lo; omega), ⟨G, c.touch ht (fun g hgg s => by have := hS g s; have := hg g hgg; omega), hg⟩, h.lo, Nat.le_trans h.sz ht.size⟩
theorem Cpy.still {w W W' : World} {B q N T : Nat} {L : List Int} {H : List Hd} (h : Cpy w B q N T L H W) (ht : Calm W W') : Cpy w B q N T L H W' := h.turn ht fun _ h => h.elim

set_option maxRecDepth 100000 in
set_option maxHeartbeats 4000000 in
theorem copy_any {w : World} {q : Nat} {G : Nat → Prop} {L : List Int} {H : List Hd} (h : Clk w q G L H) (hl : H.length ≤ capH) (hok : ofB L = true) (hgd : ∀ y ∈ H, y.n.size ≤ capX) : Calls Tryz.prog 59 #[cp q] w fun e w' => ∃ q', e = .returned (cp q') ∧ Clk w' q' (fun g => w.heap.size ≤ g ∧ g < w'.heap.size) L H ∧ Calm w w' := by
  have hsr : Srt H := by obtain ⟨V, p, m, f, lo, lc, Gp, h1, h2, h3, h4, hg, h5, h6, h7, h8, h9, h10⟩ := h.ex; exact h8.srt
  obtain ⟨V, p, m, f, lo, lc, Gp, h1, h2, -⟩ := h.ex
  have CT := hide (there_any q lo L.length lc w h.pos (clk_cells h1).1)
  have c0 := (clk_cells h1).1
  have CO := hide (of_any L lo lc w (Rc.Own.sl h2) (by have := h.len; omega))
  have CH : Hid (∀ W, Calm w W → Calls Tryz.prog 67 #[cp q] W fun e w' => ∃ fv, e = .returned fv ∧ Calm W w' ∧ Tells w' fv H) := hide fun W hW => holds_any (h.calm hW) hl
  have HOK := hide hok
  have HGD := hide hgd
  have HSR := hide hsr
  have HL := hide hl
  clear h h1 h2 hok hgd hsr hl
  refine (callsIn_wide (n := 3)).1 (callsIn_of_wp_marks Tryz.func59 rfl trivial ?_ rfl)
  simp only [Tryz.ntmps59, List.size_toArray, List.length_cons, List.length_nil, Nat.reduceAdd, Nat.reduceSub, Array.replicate_succ, Array.replicate_zero, List.push_toArray, List.append_toArray, List.nil_append, List.cons_append]
  generalize hn : L.length = n at *
  gi_wp2
  refine ⟨trivial, (callsIn_wide.2 CT.out).mono ?_⟩
  rintro e w1 ⟨rfl, hq⟩
  subst hq
  clear CT
  gi_wp2
  refine ⟨trivial, (callsIn_wide.2 CO.out).mono ?_⟩
  rintro e w2 hcase
  obtain ⟨q1, rfl, c2, t2⟩ : ∃ q1, e = .returned (.tuple #[cp q1, .int .i64 0]) ∧ Clk w2 q1 (fun g => w1.heap.size ≤ g ∧ g < w2.heap.size) L [] ∧ Calm w1 w2 := by
    rcases hcase with ⟨h, -⟩ | ⟨-, h⟩
    · rw [HOK.out] at h; cases h
    · exact h
  have tA : Calm w2 (w2.alloc (.cells #[cp q1] 84)) := (Touch.refl _ _).alloc _
  have K2 : Hid (Cpy w1 w2.heap.size q1 (w2.heap.size + 1) (w2.heap.size + 1) L [] (w2.alloc (.cells #[cp q1] 84))) := hide ⟨t2.tr tA, al_new _ _, ⟨_, c2.calm tA, fun g hg => ⟨hg.1, by omega, by omega⟩⟩, by have := t2.size; omega, by rw [al_size]; exact Nat.le_refl _⟩
  have CH3 := hide (CH.out (w2.alloc (.cells #[cp q1] 84)) (t2.tr tA))
  clear c2 t2 tA CO hcase c0 CH
  gi_wp2
  refine ⟨trivial, (callsIn_wide.2 CH3.out).mono ?_⟩
  rintro e w3 ⟨fv, rfl, t3, gf, lb, rfl, eg, A, hA, sq⟩
  have s3 := t3.size
  rw [al_size] at s3
  obtain ⟨B, eB⟩ : ∃ B, B = w2.heap.size := ⟨_, rfl⟩
  rw [← eB] at K2 s3
  have K3 : Hid (∀ W, Calm w3 W → w3.heap.size + 2 ≤ W.heap.size → Cpy w1 B q1 w3.heap.size W.heap.size L [] W) := hide fun W hW hz => by
    have k := (K2.out.still t3).still hW
    obtain ⟨G, c, hg⟩ := k.ck
    have c3 := (K2.out.still t3)
    have lo := K2.out.lo
    obtain ⟨G0, c0, hg0⟩ := c3.ck
    refine ⟨k.calm, k.b, ⟨G0, c0.calm hW, fun g hh => ⟨(hg0 g hh).1, (hg0 g hh).2.1, .inl (c0.lt g hh)⟩⟩, by omega, Nat.le_refl _⟩
  have LO : Hid (w1.heap.size ≤ B ∧ B < w3.heap.size ∧ w1.heap.size ≤ w3.heap.size) := hide (by have := K2.out.lo; omega)
  have SQ := hide sq
  have EG := hide eg
  have HA := hide hA
  rw [← eB]
  clear sq eg hA t3 s3 K2 CH3 eB
  gi_wp2
  refine wpIn_rangeT (gf := gf) (lb := lb) rfl EG.out SQ.out (fun _ => rfl) (fun g => w1.heap.size ≤ g ∧ g < w3.heap.size) (fun g h => h.2) (fun W h => HA.out W h)
    (fun T k W => Cpy w1 B q1 w3.heap.size T L (H.take k) W) (fun c k W => False)
    (fun T _ x a' W => a' = { tmps := #[cp q, undef, .pointer none, .pointer (some ⟨B, 0, none⟩), .int .i64 0, .string x.n, .int .i64 x.t, cp q, .bool true, .bool false, .tuple #[cp q1, .int .i64 0], cp q, .pointer (some ⟨q, 0, none⟩), .pointer (some ⟨q, 0, none⟩), .slice lo n lc, .tuple #[cp q1, .int .i64 0], cp q1, .int .i64 0, cp q, .func (.func gf) #[] lb, .string x.n, .int .i64 x.t, undef, undef, undef, undef, undef], defers := [] })
    (fun W h hz => K3.out W h hz) (fun T k W W' h ht => h.still ht)
    (fun T k W o hT h => h.turn (touch_put W _ o) (fun g e => by omega)) (fun c k W o h => h.elim) (fun T k x a' W o _ h => h) ?assign ?body ?done ?stop
  case assign =>
    rintro l T k x W K hT hi hkm hx hK
    have HK := hide hK
    have HI := hide hi
    clear hK hi
    simp only [encY]
    gi_wp2
    exact HK.out _ _ (Touch.refl _ _) HI.out rfl
  case body =>
    rintro l T k x a' W hT hi hkm hx rfl
    obtain ⟨G, c, hg⟩ := hi.ck
    obtain ⟨hh, eh⟩ := srt_next HSR.out hx
    have CP := put_any x.n x.t c (HGD.out x (List.mem_of_getElem? hx)) hh (by have := HL.out; rw [List.length_take]; omega)
    rw [eh] at CP
    have HI := hide hi
    obtain ⟨cB, -⟩ := one_cell hi.b
    have FIN : Hid (∀ W', Next W q1 G L (H.take (k + 1)) W' → Touch (fun g => (w1.heap.size ≤ g ∧ g < w3.heap.size) ∨ T ≤ g) W W' ∧ Cpy w1 B q1 w3.heap.size T L (H.take (k + 1)) W') := hide fun W' ⟨t, G', c', g'⟩ => by
      have lo := HI.out.lo
      have szT : T ≤ W.heap.size := HI.out.sz
      refine ⟨t.mono fun g hl hgg => ?_, HI.out.calm.trans t (fun g hgl hgg => by have := (hg g hgg).1; omega), t.heap HI.out.b (fun hgg => (hg _ hgg).2.1 rfl), ⟨G', c', fun g hgg => ?_⟩, lo, Nat.le_trans szT t.size⟩
      · have := hg g hgg
        have := HI.out.calm.size
        omega
      · rcases g' g hgg with h | h
        · exact hg g h
        · have := HI.out.calm.size
          refine ⟨by omega, by omega, by omega⟩
    have HCP := hide CP
    clear CP hi c hg hh eh hx K3 SQ HA EG
    gi_wp2
    refine ⟨trivial, CallsIn.inRound _ ((callsIn_wide.2 HCP.out).mono ?_)⟩
    rintro e W' ⟨rfl, nx⟩
    have FX := hide (FIN.out W' nx)
    clear FIN nx HCP
    gi_wp2
    exact FX.out
  case done =>
    rintro T W hT hi hd
    rw [List.take_of_length_le (Nat.le_refl _)] at hi
    have HI := hide hi
    have HD := hide hd
    obtain ⟨cB, -⟩ := one_cell hi.b
    clear hi hd K3 SQ HA EG
    gi_wp2
    refine leaves_marks [w3.heap.size] _ (fun D hD => by rw [List.mem_singleton.1 hD]; exact HD.out) (by simp) (fun W2 tw => ?_)
    have F : Clk W2 q1 (fun g => w1.heap.size ≤ g ∧ g < W2.heap.size) L H ∧ Calm w1 W2 := by
      obtain ⟨G, c, hg⟩ := HI.out.ck
      have c2 := c.touch tw (fun g hgg hm => by
        have := hg g hgg
        have := List.mem_singleton.1 hm
        omega)
      refine ⟨c2.wide (fun g hgg => ⟨(hg g hgg).1, c2.lt g hgg⟩) (fun g hgg => hgg.2), HI.out.calm.trans tw (fun g hgl hm => ?_)⟩
      have := List.mem_singleton.1 hm
      have := LO.out
      omega
    exact ⟨cp q1, by simp [results, Tryz.results59, go_sem], q1, rfl, F⟩
  case stop =>
    rintro c k W hk hi
    exact hi.elim

end Go.Proofs.YtapnjofplilefaaGreat
