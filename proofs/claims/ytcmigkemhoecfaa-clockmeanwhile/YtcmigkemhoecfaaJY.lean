/- The program's clock: one that is not there, or a zero one; and what a clock is to answer, all of it. -/
import Derived.Test.YtcmigkemhoecfaaJX
import Derived.Test.YtcmigkemhoecfaaKZc
namespace Go.Proofs.Ytcmigkemhoecfaa
open Go.RowKit
attribute [local go_sem] Oper.semAt_some

/-- No clock stands there. -/
def Non (w0 : World) (o : Option Addr) : Prop := ∀ w, Calm w0 w → Calls Try.prog 36 #[.pointer o] w fun e w' => e = .returned (.bool false) ∧ w' = w
theorem Non.calm {w0 w : World} {o : Option Addr} (h : Non w0 o) (ht : Calm w0 w) : Non w o := fun W hW => h W (ht.tr hW)

theorem no_Set {w0 : World} {o : Option Addr} (h : Non w0 o) (s t : Int) (w : World) (hw : Calm w0 w) : Calls Try.prog 27 #[.pointer o, .int .i64 s, .int .i64 t] w fun e w' => e = .returned (.tuple #[.int .i64 0, .int .i64 0, .int .i64 1]) ∧ w' = w := by
  have C := hide (h w hw)
  clear h hw
  go_enter Try.func27, Try.ntmps27
  go_wp2_with fail
  refine C.out.mono ?_
  rintro e w9 ⟨rfl, rfl⟩
  clear C
  go_wp2_with fail
  go_ret3
  exact ⟨rfl, rfl⟩

theorem no_Hold {w0 : World} {o : Option Addr} (h : Non w0 o) (x : ByteArray) (t : Int) (w : World) (hw : Calm w0 w) : Calls Try.prog 21 #[.pointer o, .string x, .int .i64 t] w fun e w' => e = .returned (.int .i64 1) ∧ w' = w := by
  have C := hide (h w hw)
  clear h hw
  go_enter Try.func21, Try.ntmps21
  go_wp2_with fail
  refine C.out.mono ?_
  rintro e w9 ⟨rfl, rfl⟩
  clear C
  go_wp2_with fail
  go_ret
  exact ⟨rfl, rfl⟩

theorem no_Free {w0 : World} {o : Option Addr} (h : Non w0 o) (x : ByteArray) (w : World) (hw : Calm w0 w) : Calls Try.prog 28 #[.pointer o, .string x] w fun e w' => e = .returned (.bool false) ∧ w' = w := by
  have C := hide (h w hw)
  clear h hw
  go_enter Try.func28, Try.ntmps28
  go_wp2_with fail
  refine C.out.mono ?_
  rintro e w9 ⟨rfl, rfl⟩
  clear C
  go_wp2_with fail
  go_ret
  exact ⟨rfl, rfl⟩

theorem no_Mark {w0 : World} {o : Option Addr} (h : Non w0 o)  (w : World) (hw : Calm w0 w) : Calls Try.prog 24 #[.pointer o] w fun e w' => e = .returned (.int .i64 0) ∧ w' = w := by
  have C := hide (h w hw)
  clear h hw
  go_enter Try.func24, Try.ntmps24
  go_wp2_with fail
  refine C.out.mono ?_
  rintro e w9 ⟨rfl, rfl⟩
  clear C
  go_wp2_with fail
  go_ret
  exact ⟨rfl, rfl⟩

theorem no_Marks {w0 : World} {o : Option Addr} (h : Non w0 o)  (w : World) (hw : Calm w0 w) : Calls Try.prog 26 #[.pointer o] w fun e w' => e = .returned (.slice none 0 0) ∧ w' = w := by
  have C := hide (h w hw)
  clear h hw
  go_enter Try.func26, Try.ntmps26
  go_wp2_with fail
  refine C.out.mono ?_
  rintro e w9 ⟨rfl, rfl⟩
  clear C
  go_wp2_with fail
  go_ret
  exact ⟨rfl, rfl⟩

theorem no_Len {w0 : World} {o : Option Addr} (h : Non w0 o)  (w : World) (hw : Calm w0 w) : Calls Try.prog 43 #[.pointer o] w fun e w' => e = .returned (.int .i64 0) ∧ w' = w := by
  have C := hide (h w hw)
  clear h hw
  go_enter Try.func43, Try.ntmps43
  go_wp2_with fail
  refine C.out.mono ?_
  rintro e w9 ⟨rfl, rfl⟩
  clear C
  go_wp2_with fail
  go_ret
  exact ⟨rfl, rfl⟩

theorem no_Copy {w0 : World} {o : Option Addr} (h : Non w0 o) (w : World) (hw : Calm w0 w) : Calls Try.prog 15 #[.pointer o] w fun e w' => e = .returned (.pointer none) ∧ w' = w := by
  have C := hide (h w hw)
  clear h hw
  go_enter Try.func15, Try.ntmps15
  go_wp2_with fail
  refine C.out.mono ?_
  rintro e w9 ⟨rfl, rfl⟩
  clear C
  go_wp2_with fail
  go_ret
  exact ⟨rfl, rfl⟩
theorem no_First {w0 : World} {o : Option Addr} (h : Non w0 o) (w : World) (hw : Calm w0 w) : Calls Try.prog 40 #[.pointer o] w fun e w' => e = .returned (firV []) ∧ w' = w := by
  have C := hide (no_Len h w hw)
  clear h hw
  go_enter Try.func40, Try.ntmps40
  go_wp2_with fail
  refine C.out.mono ?_
  rintro e w9 ⟨rfl, rfl⟩
  clear C
  go_wp2_with fail
  go_ret3
  exact ⟨rfl, rfl⟩
theorem no_Outward {w0 : World} {o : Option Addr} (h : Non w0 o) (w : World) (hw : Calm w0 w) : Calls Try.prog 25 #[.pointer o] w fun e w' => e = .returned (.int .i64 0) ∧ w' = w := by
  have C := hide (no_Len h w hw)
  have D := hide (no_Mark h w hw)
  clear h hw
  go_enter Try.func25, Try.ntmps25
  go_wp2_with fail
  refine C.out.mono ?_
  rintro e w9 ⟨rfl, rfl⟩
  clear C
  go_wp2_with fail
  refine D.out.mono ?_
  rintro e w9 ⟨rfl, rfl⟩
  clear D
  go_wp2_with fail
  go_ret
  exact ⟨rfl, rfl⟩

set_option maxRecDepth 100000 in
theorem no_seqT (Bx : Nat) (o : Option Addr) :
    SeqT Try.prog 50 #[.pointer (some ⟨Bx, 0, none⟩)] encY 0 (fun k x => ([] : List Hd)[k]? = some x) (fun W => W.heap[Bx]? = some (.cells #[.pointer o] 25 (0, 0)) ∧ Non W o) := by
  rintro n l S J Jx W ⟨hbx, hn⟩ hS h0 hJ hY
  have IT := hide (hn W (Touch.refl _ _))
  have cb := (one_cell hbx).1
  have H0 := hide (h0 W (Touch.refl _ _))
  clear hbx hn hS h0 hJ hY
  show CallsIn Fence.wide n Try.prog 50 #[.func (.yield l) #[] #[], .pointer (some ⟨Bx, 0, none⟩)] W _
  refine callsIn_of_wp Try.func50 rfl trivial ?_ rfl
  simp only [Try.ntmps50, List.size_toArray, List.length_cons, List.length_nil, Nat.reduceAdd, Nat.reduceSub, Array.replicate_succ, Array.replicate_zero, List.push_toArray, List.append_toArray, List.nil_append, List.cons_append]
  gi_wp2
  refine ⟨trivial, fun h => (nomatch h), (callsIn_wide.2 IT.out).mono ?_⟩
  rintro e w1 ⟨rfl, hq⟩
  subst hq
  clear IT
  gi_wp2
  refine bodyPost_ret (results_none rfl _ _ _) rfl ?_
  exact ⟨⟨_, rfl⟩, .inl ⟨_, H0.out⟩⟩

theorem no_Holds {w0 : World} {o : Option Addr} (h : Non w0 o) (w : World) (hw : Calm w0 w) : Calls Try.prog 23 #[.pointer o] w fun e w' => ∃ fv, e = .returned fv ∧ Calm w w' ∧ Tells w' fv [] := by
  refine (holdsV o w).mono fun e w' ⟨h1, h2⟩ => ?_
  have t : Calm w w' := by rw [h2]; exact (Touch.refl _ _).alloc _
  exact ⟨_, h1, t, _, _, rfl, enters50, _, fun V hV => ⟨hV.at (by rw [h2]; exact al_new _ _), h.calm ((hw.tr t).tr hV)⟩, no_seqT w.heap.size o⟩

theorem same_calm {w w' : World} (h : w' = w) : Calm w w' := by rw [h]; exact Touch.refl _ _
theorem Non.pkw {w0 : World} {o : Option Addr} (h : Non w0 o) : Pkw w0 (.pointer o) :=
  ⟨fun s t w hw => (no_Set h s t w hw).mono fun _ _ hh => ⟨hh.1, same_calm hh.2⟩, fun x t w hw => (no_Hold h x t w hw).mono fun _ _ hh => ⟨hh.1, same_calm hh.2⟩, fun x w hw => (no_Free h x w hw).mono fun _ _ hh => ⟨hh.1, same_calm hh.2⟩, fun w hw => (no_First h w hw).mono fun _ _ hh => ⟨hh.1, same_calm hh.2⟩, fun w hw => (no_Mark h w hw).mono fun _ _ hh => ⟨hh.1, same_calm hh.2⟩, fun w hw => (no_Marks h w hw).mono fun _ _ hh => ⟨none, 0, hh.1, Rc.Own.nil _ _ _, same_calm hh.2⟩, fun w hw => (no_Len h w hw).mono fun _ _ hh => ⟨hh.1, same_calm hh.2⟩, fun w hw => (no_Outward h w hw).mono fun _ _ hh => ⟨hh.1, same_calm hh.2⟩, fun w hw => no_Holds h w hw, fun w hw => (no_Copy h w hw).mono fun _ _ hh => ⟨hh.1, same_calm hh.2⟩⟩

theorem non_nil (w0 : World) : Non w0 none := fun w _ => there_nil w
theorem clock_nil : Pkn (.pointer none) :=
  ⟨fun s t w => (non_nil w).pkw.set s t w (Touch.refl _ _), fun x t w => (non_nil w).pkw.hold x t w (Touch.refl _ _), fun x w => (non_nil w).pkw.free x w (Touch.refl _ _), fun w => (non_nil w).pkw.first w (Touch.refl _ _), fun w => (non_nil w).pkw.mark w (Touch.refl _ _), fun w => (non_nil w).pkw.marks w (Touch.refl _ _), fun w => (non_nil w).pkw.size w (Touch.refl _ _), fun w => (non_nil w).pkw.out w (Touch.refl _ _), fun w => (non_nil w).pkw.holds w (Touch.refl _ _), fun w => (non_nil w).pkw.copy w (Touch.refl _ _)⟩
theorem clock_zero (w : World) : Pkw (w.alloc (.cells zC 69)) (cp w.heap.size) :=
  Non.pkw fun W hW => there_zero _ W (clk_cells (hW.at (al_new w (.cells zC 69)))).1

theorem ofB_set {L : List Int} {i : Nat} {t : Int} (h : ofB L = true) (ht : timC t = true) : ofB (L.set i (max (L.getD i 0) t)) = true := by
  unfold ofB at *
  simp only [Bool.and_eq_true, decide_eq_true_eq, List.all_eq_true, List.mem_range, List.length_set] at h ⊢
  refine ⟨h.1, h.2.1, fun j hj => ?_⟩
  rw [List.getD_eq_getElem?_getD, List.getElem?_set]
  split
  · rename_i e
    subst e
    have := h.2.2 i hj
    simp only [hj, if_true, Option.getD_some]
    unfold timC at *
    simp only [Bool.and_eq_true, decide_eq_true_eq] at *
    omega
  · have := h.2.2 j hj
    rw [List.getD_eq_getElem?_getD] at this
    exact this

/-- The program's clock. -/
def Pc (w : World) (q : Nat) (G : Nat → Prop) (L : List Int) (H : List Hd) : Prop := Clk w q G L H ∧ ofB L = true
theorem Clk.names {w : World} {q : Nat} {G : Nat → Prop} {L : List Int} {H : List Hd} (h : Clk w q G L H) : ∀ y ∈ H, y.n.size ≤ capX := fun y hy => by
  obtain ⟨V, p, m, f, lo, lc, Gp, h1, h2, h3, h4, hg, h5, h6, h7, h8, h9, h10⟩ := h.ex
  obtain ⟨v, hv, e⟩ := (h8.mem y).1 hy
  rw [← e]; exact h10 v hv
theorem clock_all : Pki Pc where
  touch h ht hS := ⟨h.1.touch ht hS, h.2⟩
  lt h := h.1.lt
  len h := h.1.len
  set_bad s t h hb := set_bad s t h.1 hb
  set_ok i t h hi ht := (set_ok i t h.1 hi ht).mono fun _ _ ⟨a, b, G', c, d⟩ => ⟨a, b, G', ⟨c, ofB_set h.2 ht⟩, d⟩
  hold_bad x t h ht := hold_bad x t h.1 ht
  hold_ok x t h ht hl hx := (hold_ok x t h.1 ht hl hx).mono fun _ _ ⟨a, b, G', c, d⟩ => ⟨a, b, G', ⟨c, h.2⟩, d⟩
  free x h hl hx := (free_any x h.1 hl hx).mono fun _ _ ⟨a, b, G', c, d⟩ => ⟨a, b, G', ⟨c, h.2⟩, d⟩
  first h _ := first_any h.1
  mark h := (mark_any h.1).mono fun _ _ hh => ⟨hh.1, same_calm hh.2⟩
  marks h := marks_any h.1
  size h _ := (len_any h.1).mono fun _ _ hh => ⟨hh.1, same_calm hh.2⟩
  out h _ := outward_any h.1
  holds h hl := holds_any h.1 hl
  copy h hl := (copy_any h.1 hl h.2 h.1.names).mono fun _ _ ⟨q', a, b, c⟩ => ⟨q', a, ⟨b, h.2⟩, c⟩
  new_bad n w h := new_bad n w h
  new_ok n w h1 h2 := (new_ok n w h1 h2).mono fun _ _ ⟨q', a, b, c⟩ => ⟨q', a, ⟨b, ofB_min n h1 h2⟩, c⟩
  of M mo mc w hM hl := (of_any M mo mc w hM hl).mono fun _ _ hh => hh.imp id fun ⟨a, q', b, c, d⟩ => ⟨a, q', b, ⟨c, a⟩, d⟩

end Go.Proofs.Ytcmigkemhoecfaa
