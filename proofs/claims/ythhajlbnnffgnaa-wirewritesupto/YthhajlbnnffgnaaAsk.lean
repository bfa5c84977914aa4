/- Walks: asks: what wire's reader answers is what the document's answers. -/
import Derived.Test.YthhajlbnnffgnaaRefU
import Derived.Laws.OwnMore
namespace Go.Proofs.Ythhajlbnnffgnaa
open Go.RowKit

theorem Row.set {w : World} {e : TypeId} {k : IntKind} {g n cap : Nat} {xs : List Int} (h : Row w e k (.slice (some ⟨g, 0, none⟩) n cap) xs) (i : Nat) (y : Int) : Row (w.setCell ⟨g, i, none⟩ (.int k y)) e k (.slice (some ⟨g, 0, none⟩) n cap) (xs.set i y) := by
  rcases h.form with ⟨hv, _⟩ | ⟨g', cap', cur, hv, hc, hl, hm, hs, ht⟩
  · cases hv
  · injection hv with h1 h2 h3
    injection h1 with h1
    injection h1 with h1 _ _
    subst h1 h2 h3
    have hlt : g < w.heap.size := (Array.getElem?_eq_some_iff.1 hc).1
    have hg : w.heap[g] = .cells cur e (0, 0) := (Array.getElem?_eq_some_iff.1 hc).2
    have hb : (w.setCell ⟨g, i, none⟩ (.int k y)).heap[g]? = some (.cells (cur.setIfInBounds i (.int k y)) e (0, 0)) := by
      simp [World.setCell, Array.getElem_modify, hlt, hg]
    have := Row.mk (xs := xs.set i y) (k := k) hb (by simpa using hl) hm (by simpa using hs) (by
      rw [List.length_set, Array.toList_setIfInBounds, List.take_set, ht, List.map_set])
    simpa using this

theorem Row.frozen {w : World} {e : TypeId} {k : IntKind} {g n cap : Nat} {xs : List Int} (h : Row w e k (.slice (some ⟨g, 0, none⟩) n cap) xs) (i : Nat) : w.frozen? ⟨g, i, none⟩ = false := by
  rcases h.form with ⟨hv, _⟩ | ⟨g', cap', cur, hv, hc, _⟩
  · cases hv
  · injection hv with h1 _ _
    injection h1 with h1
    injection h1 with h1 _ _
    subst h1
    simp [World.frozen?, hc]

theorem rd_keep {w w' : World} {rb db : Nat} {ra ao : Option Addr} {rc cap : Nat} {bs : List Int} {p q : Nat} (h : Rd w rb ra rc bs p) (g : Rr w db ao cap bs q) (ht : Touch (fun k => k = db) w w') : Rd w' rb ra rc bs p :=
  h.touch ht (fun e => by
    have e : rb = db := e
    have := h.cell
    rw [e, g.cell] at this
    simp at this) (fun j hj e => by
    have e : j = db := e
    obtain ⟨cur, hc⟩ := h.row.block hj
    rw [e, g.cell] at hc
    simp at hc)

theorem rr_keep {w w' : World} {rb db : Nat} {ra ao : Option Addr} {rc cap : Nat} {bs : List Int} {p q : Nat} (h : Rd w rb ra rc bs p) (g : Rr w db ao cap bs q) (ht : Touch (fun k => k = rb) w w') : Rr w' db ao cap bs q :=
  g.touch ht (fun e => by
    have e : db = rb := e
    have := h.cell
    rw [← e, g.cell] at this
    simp at this) (seg_ne g.seg h.cell)

/-- Both readers, at one place. -/
structure Both (w : World) (rb db : Nat) (ra ao : Option Addr) (rc cap : Nat) (bs : List Int) (p : Nat) : Prop where
  rd : Rd w rb ra rc bs p
  rr : Rr w db ao cap bs p

theorem Both.none {w w' : World} {rb db : Nat} {ra ao : Option Addr} {rc cap : Nat} {bs : List Int} {p : Nat} (h : Both w rb db ra ao rc cap bs p) (ht : Touch (fun _ => False) w w') : Both w' rb db ra ao rc cap bs p :=
  ⟨h.rd.touch ht (fun h => h) (fun _ _ h => h), h.rr.touch ht (fun h => h) (fun _ _ _ h => h)⟩

/-- What a question leaves. -/
def Asked (w : World) (rb db : Nat) (ra ao : Option Addr) (rc cap : Nat) (bs : List Int) (r : Ending) (w' : World) : Prop :=
  r = .returned (.bool true) ∧ (∃ q, Both w' rb db ra ao rc cap bs q) ∧ Touch (fun k => k = rb ∨ k = db) w w'

theorem t_l {w w' : World} {rb db : Nat} (h : Touch (fun k => k = rb) w w') : Touch (fun k => k = rb ∨ k = db) w w' := h.mono fun _ _ e => .inl e
theorem t_r {w w' : World} {rb db : Nat} (h : Touch (fun k => k = db) w w') : Touch (fun k => k = rb ∨ k = db) w w' := h.mono fun _ _ e => .inr e
theorem t_0 {w w' : World} {rb db : Nat} (h : Touch (fun _ => False) w w') : Touch (fun k => k = rb ∨ k = db) w w' := h.mono fun _ _ e => e.elim
theorem t_t {w w1 w' : World} {rb db : Nat} (h : Touch (fun k => k = rb ∨ k = db) w w1) (g : Touch (fun k => k = rb ∨ k = db) w1 w') : Touch (fun k => k = rb ∨ k = db) w w' := h.trans g fun _ _ e => e

set_option maxRecDepth 100000 in
set_option maxHeartbeats 400000 in
theorem ask_other (rb db : Nat) (ra ao : Option Addr) (rc cap : Nat) (bs : List Int) (p : Nat) (kind n : Int) (w : World) (h : Both w rb db ra ao rc cap bs p) (hk : kind < 1 ∨ 7 < kind) :
    Calls Try.prog 18 #[.pointer (some ⟨rb, 0, none⟩), .pointer (some ⟨db, 0, none⟩), .agg #[.int .i64 kind, .int .i64 n]] w (Asked w rb db ra ao rc cap bs) := by
  have t1 : (kind == 1) = false := by simp; omega
  have t2 : (kind == 2) = false := by simp; omega
  have t3 : (kind == 3) = false := by simp; omega
  have t4 : (kind == 4) = false := by simp; omega
  have t5 : (kind == 5) = false := by simp; omega
  have t6 : (kind == 6) = false := by simp; omega
  have t7 : (kind == 7) = false := by simp; omega
  go_enter Try.func18, Try.ntmps18
  go_wp2
  go_ret
  exact ⟨rfl, ⟨p, h.none ((Touch.refl _ _).alloc _)⟩, t_0 ((Touch.refl _ _).alloc _)⟩

set_option maxRecDepth 100000 in
set_option maxHeartbeats 400000 in
theorem ask_byte (rb db : Nat) (ra ao : Option Addr) (rc cap : Nat) (bs : List Int) (p : Nat) (n : Int) (w : World) (h : Both w rb db ra ao rc cap bs p) (hb : bs.length ≤ 1048576) :
    Calls Try.prog 18 #[.pointer (some ⟨rb, 0, none⟩), .pointer (some ⟨db, 0, none⟩), .agg #[.int .i64 1, .int .i64 n]] w (Asked w rb db ra ao rc cap bs) := by
  have h0 := h.none ((Touch.refl _ w).alloc (.cells #[.int .i64 1, .int .i64 n] 51))
  by_cases hl : bs.length - p = 0
  · go_enter Try.func18, Try.ntmps18
    go_wp2_with fail
    refine (rbyte_no rb ra rc bs p _ h0.rd (by omega) hl).mono ?_
    rintro r w1 ⟨rfl, n1, rfl⟩
    go_wp2_with fail
    refine (refByte_no db ao cap bs p _ (h0.rr.drewN n1) hb hl).mono ?_
    rintro r w2 ⟨rfl, n2, rfl⟩
    go_wp2_with (go_at_call 24; refine (num_any _ _).mono ?_; rintro e w' ⟨rfl, rfl⟩)
    go_ret
    exact ⟨rfl, ⟨p, h0.rd.drewN _, h0.rr.drewN _⟩, t_0 (((Touch.refl _ _).alloc _).drewN _)⟩
  · have hlt : p < bs.length := by omega
    have hc : (bs.drop p).take 1 = [bs[p]] := by rw [List.drop_eq_getElem_cons hlt, List.take_succ_cons]; simp
    obtain ⟨c, hcc⟩ : ∃ c, bs[p] = c := ⟨_, rfl⟩
    rw [hcc] at hc
    clear hcc
    have A := hide (rbyte_yes rb ra rc bs p c _ h0.rd (by omega) hc)
    have B := hide (fun W (g : Rr W db ao cap bs p) => refByte_yes db ao cap bs p c W g hb hc)
    clear hc
    go_enter Try.func18, Try.ntmps18
    go_wp2_with fail
    refine A.out.mono ?_
    rintro r w1 ⟨rfl, hrd1, ht1⟩
    have hrr1 := rr_keep h0.rd h0.rr ht1
    go_wp2_with fail
    refine (B.out _ hrr1).mono ?_
    rintro r w2 ⟨rfl, hrr2, ht2⟩
    have hrd2 := rd_keep hrd1 hrr1 ht2
    go_wp2_with (go_at_call 24; refine (num_any _ _).mono ?_; rintro e w' ⟨rfl, rfl⟩)
    go_ret
    exact ⟨rfl, ⟨p + 1, hrd2, hrr2⟩, t_t (t_t (t_0 ((Touch.refl _ _).alloc _)) (t_l ht1)) (t_r ht2)⟩

end Go.Proofs.Ythhajlbnnffgnaa
