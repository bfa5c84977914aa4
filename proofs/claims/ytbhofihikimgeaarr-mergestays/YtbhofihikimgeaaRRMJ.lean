/- A window put among others: the notions of Join. -/
import Derived.Test.YtbhofihikimgeaaRRMC
import Derived.Test.YtbhofihikimgeaaRRMQ
import Derived.Test.YtbhofihikimgeaaRRYR3
namespace Go.Proofs.YtbhofihikimgeaaRR
open Go.RowKit

/-- One window more is taken in (its tally aside). -/
def accW (m : Int) (x y : Wn) : Wn := ⟨min x.a y.a, max x.b y.b, if m < y.b then min x.h y.h else x.h, x.t, cnt x.n y.n, cnt x.p y.p⟩
/-- The window that is made of a span and of those that it overlaps. -/
def accL (m : Int) (s : Sp) (h : Int) (M : List Wn) : Wn := M.foldl (accW m) ⟨s.a, s.b, h, tl0, 0, 0⟩
def madeW (m : Int) (s : Sp) (h : Int) (M : List Wn) : Wn := { accL m s h M with t := joinT (M.map Wn.t) }
/-- Those that it overlaps. -/
def midR (L : List Wn) (s : Sp) : List Wn := (L.drop (fromR L s)).take (ovR L s)
/-- The row behind it. -/
def joinL (L : List Wn) (s : Sp) (m h : Int) : List Wn := L.take (fromR L s) ++ [madeW m s h (midR L s)] ++ L.drop (fromR L s + ovR L s)

theorem fromR_ovR : ∀ (L : List Wn) (s : Sp), fromR L s + ovR L s ≤ L.length
  | [], _ => by simp [fromR, ovR]
  | x :: L, s => by
    have ih := fromR_ovR L s
    unfold fromR ovR at ih ⊢
    simp only [List.filter_cons, List.length_cons]
    cases over x.sp s <;> simp <;> (try split) <;> (try simp only [List.length_cons]) <;> omega

theorem cnt_in (a b : Int) (ha : inC a = true) (hb : inC b = true) : inC (cnt a b) = true := by
  unfold inC cnt at *; simp at *; omega

theorem accL_next (m : Int) (s : Sp) (h : Int) (L : List Wn) (f k : Nat) (hk : f + k < L.length) : accL m s h ((L.drop f).take (k + 1)) = accW m (accL m s h ((L.drop f).take k)) (L.getD (f + k) wn0) := by
  unfold accL
  have h1 : k < (L.drop f).length := by rw [List.length_drop]; omega
  rw [List.take_succ_eq_append_getElem h1, List.foldl_append, List.getD_eq_getElem?_getD, List.getElem?_eq_getElem hk, List.getElem_drop]
  rfl
theorem map_next (L : List Wn) (f k : Nat) (hk : f + k < L.length) : ((L.drop f).take (k + 1)).map Wn.t = ((L.drop f).take k).map Wn.t ++ [(L.getD (f + k) wn0).t] := by
  have h1 : k < (L.drop f).length := by rw [List.length_drop]; omega
  rw [List.take_succ_eq_append_getElem h1, List.map_append, List.getD_eq_getElem?_getD, List.getElem?_eq_getElem hk, List.getElem_drop]
  rfl
theorem accL_in (m : Int) (s : Sp) (h : Int) : ∀ (M : List Wn) (_ : ∀ x ∈ M, inC x.n = true ∧ inC x.p = true) (x : Wn) (_ : inC x.n = true ∧ inC x.p = true), inC (M.foldl (accW m) x).n = true ∧ inC (M.foldl (accW m) x).p = true
  | [], _, _, hx => hx
  | y :: M, hM, x, hx => accL_in m s h M (fun z hz => hM z (by simp [hz])) (accW m x y) ⟨cnt_in _ _ hx.1 (hM y (by simp)).1, cnt_in _ _ hx.2 (hM y (by simp)).2⟩
theorem accL_t (m : Int) (s : Sp) (h : Int) (M : List Wn) : (accL m s h M).t = tl0 := by
  have : ∀ (M : List Wn) (x : Wn), (M.foldl (accW m) x).t = x.t := by
    intro M
    induction M with
    | nil => intro x; rfl
    | cons y M ih => intro x; rw [List.foldl_cons, ih]; rfl
  exact this M _
theorem apart_in {L : List Wn} (h : apartR L = true) : ∀ x ∈ L, inC x.n = true ∧ inC x.p = true := fun x hx => by
  obtain ⟨k, hk, rfl⟩ := List.mem_iff_getElem.1 hx
  unfold apartR at h
  rw [List.all_eq_true] at h
  have := h k (List.mem_range.2 hk)
  unfold rowAt at this
  rw [List.getD_eq_getElem?_getD, List.getElem?_eq_getElem hk] at this
  unfold okW at this
  simp only [Bool.and_eq_true, Option.getD_some] at this
  exact this.1.2.2

/-- A window in its block: one number of it turned. -/
theorem wn_set {w : World} {b : Nat} {x : Wn} {ty : TypeId} (r : Wn) (o : Nat) (v : Int) (h : w.heap[b]? = some (.cells (wnc x) ty (0, 0))) (hr : (wnc x).setIfInBounds o (.int .i64 v) = wnc r) :
    (w.setCell ⟨b, o, none⟩ (.int .i64 v)).heap[b]? = some (.cells (wnc r) ty (0, 0)) ∧ Touch (fun k => k = b) w (w.setCell ⟨b, o, none⟩ (.int .i64 v)) := by
  have k1 := heap_setCell_row (i := o) h (.int .i64 v)
  rw [hr] at k1
  exact ⟨k1, (Touch.refl (fun k => k = b) w).setCell (p := ⟨b, o, none⟩) (fun _ => rfl) _⟩
/-- Its tally turned. -/
theorem wn_tally {w : World} {b : Nat} {x : Wn} {ty : TypeId} (t : Tl) (h : w.heap[b]? = some (.cells (wnc x) ty (0, 0))) :
    ((((w.setCell ⟨b, 3, none⟩ (.int .i64 t.c)).setCell ⟨b, 4, none⟩ (.int .i64 t.s)).setCell ⟨b, 5, none⟩ (.int .i64 t.m)).setCell ⟨b, 6, none⟩ (.int .i64 t.x)).heap[b]? = some (.cells (wnc { x with t := t }) ty (0, 0)) ∧
    Touch (fun k => k = b) w ((((w.setCell ⟨b, 3, none⟩ (.int .i64 t.c)).setCell ⟨b, 4, none⟩ (.int .i64 t.s)).setCell ⟨b, 5, none⟩ (.int .i64 t.m)).setCell ⟨b, 6, none⟩ (.int .i64 t.x)) := by
  obtain ⟨a1, t1⟩ := wn_set { x with t := ⟨t.c, x.t.s, x.t.m, x.t.x⟩ } 3 t.c h rfl
  obtain ⟨a2, t2⟩ := wn_set { x with t := ⟨t.c, t.s, x.t.m, x.t.x⟩ } 4 t.s a1 rfl
  obtain ⟨a3, t3⟩ := wn_set { x with t := ⟨t.c, t.s, t.m, x.t.x⟩ } 5 t.m a2 rfl
  obtain ⟨a4, t4⟩ := wn_set { x with t := t } 6 t.x a3 rfl
  exact ⟨a4, ((((Touch.refl (fun k => k = b) w).setCell (p := ⟨b, 3, none⟩) (fun _ => rfl) _).setCell (p := ⟨b, 4, none⟩) (fun _ => rfl) _).setCell (p := ⟨b, 5, none⟩) (fun _ => rfl) _).setCell (p := ⟨b, 6, none⟩) (fun _ => rfl) _⟩
theorem wn_frozen {w : World} {b : Nat} {c : Array Value} {ty : TypeId} (h : w.heap[b]? = some (.cells c ty (0, 0))) (o : Nat) : w.frozen? ⟨b, o, none⟩ = false := by simp [World.frozen?, h]

theorem infoTally : (Try.prog.info? 41).map (fun i => (i.zero, i.size, i.bytes)) = some (some (.agg #[.int .i64 0, .int .i64 0, .int .i64 0, .int .i64 0]), 4, 32) := by kernel_rfl
theorem infoWin : (Try.prog.info? 43).map (fun i => (i.zero, i.size, i.bytes)) = some (some (.agg #[.int .i64 0, .int .i64 0, .int .i64 0, .int .i64 0, .int .i64 0, .int .i64 0, .int .i64 0, .int .i64 0, .int .i64 0]), 9, 72) := by kernel_rfl
theorem elemWin : Try.prog.elem 22 = 43 := by kernel_rfl

theorem tls_of {w : World} {ao : Option Addr} {L : List Tl} (h : encT.Mem w ao L) : Tls w ao L := fun j hj => by
  obtain ⟨b, off, e, g⟩ := Rc.Mem.at h j hj
  rw [List.getD_eq_getElem?_getD, List.getElem?_eq_getElem hj]
  exact ⟨b, off, e, g 0 _ rfl, g 1 _ rfl, g 2 _ rfl, g 3 _ rfl⟩

/-- One tally more behind those that were gathered. -/
theorem tl_app {w : World} {D : Nat} {ra : Option Addr} {rc : Nat} {R : List Tl} (x : Tl) (h : encT.Own 41 w (D + 1) (.slice ra R.length rc) R) (hD : D < w.heap.size) (hn : R.length ≤ 1000000) {w0 : World} (h0 : Calm w0 w) (hb : w0.heap.size ≤ D) :
    ∃ a2 p2 w4, (Builtin.append_ #[52, 52] 52 #[.slice ra R.length rc, .slice (some ⟨w.heap.size, 0, none⟩) 1 1]).run Try.prog (w.alloc (.cells #[.int .i64 x.c, .int .i64 x.s, .int .i64 x.m, .int .i64 x.x] 41)) = .ok (.slice a2 (R.length + 1) p2) w4 ∧
      encT.Own 41 w4 (D + 1) (.slice a2 (R ++ [x]).length p2) (R ++ [x]) ∧ (∀ d o, d ≤ D → w.heap[d]? = some o → w4.heap[d]? = some o) ∧ Calm w0 w4 := by
  obtain ⟨i0, hi, hz, hs, hby⟩ := Rc.info_parts infoTally
  have own := Rc.Own.calm h ((Touch.refl (fun _ => False) w).alloc (.cells (tlc x) 41))
  have hs1 := ((Touch.refl (fun _ => False) w).alloc (.cells (tlc x) 41)).size
  obtain ⟨a2, p2, w4, hr, ow, t2, -⟩ := Rc.Own.app (E := encT) (ty := 52) Try.underlying52 hi hz hs hby rfl own (some ⟨w.heap.size, 0, none⟩) 1 [x] (Rc.Mem.new w [x] 41) (fun h => (nomatch h)) (by simp; unfold maxLen; omega) (by simp; omega) (by omega)
  have e3 : (R ++ [x]).length = R.length + 1 := by simp
  refine ⟨a2, p2, w4, ?_, ow, ?_, ?_⟩
  · rw [← e3]; exact hr
  · intro d o hd hA
    refine t2.heap (al_old hA _) fun hg => ?_
    have := (Rc.own_block own hg).1
    omega
  · exact Rc.Own.fresh own t2 (fun _ h => h) (h0.alloc _) (by omega)

/-- What Join answers. -/
def RetJ (w : World) (e : Ending) (w' : World) (L : List Wn) (s : Sp) (m h : Int) : Prop :=
  (badT L s = true → e = .returned (.tuple #[.slice none 0 0, .int .i64 0, .int .i64 190]) ∧ Calm w w') ∧
  (badT L s = false → ∃ ao cap, e = .returned (.tuple #[.slice ao (joinL L s m h).length cap, .int .i64 (fromR L s : Nat), .int .i64 0]) ∧ encW.Own 43 w' w.heap.size (.slice ao (joinL L s m h).length cap) (joinL L s m h) ∧ Calm w w')

end Go.Proofs.YtbhofihikimgeaaRR
