/- The program's way: the nodes on the way to the nearest key that is within. -/
import Derived.Test.YtegiinnhknfjjaaILook
import Derived.Test.YtegiinnhknfjjaaSOwn
namespace Go.Proofs.Ytegiinnhknfjjaa.IM
open Go.RowKit

/-- So many keys fit into a row of pointers. -/
structure Few (n : Nat) : Prop where
  le : n ≤ 8796093022208

theorem Few.low {n : Nat} (h : Few n) : Low n := ⟨Nat.le_trans h.le (by omega)⟩

/-- In the order in which a walk from side s tells. -/
def dir (s : Nat) (X : List (Int × Int)) : List (Int × Int) := if s = 0 then X else X.reverse

theorem dir0 (X : List (Int × Int)) : dir 0 X = X := rfl
theorem dir1 (X : List (Int × Int)) : dir 1 X = X.reverse := rfl

/-- Where one is within, so are all behind it. -/
def Mon (g : Int → Bool) (X : List (Int × Int)) : Prop := X.Pairwise fun a b => g a.1 = true → g b.1 = true

theorem Mon.in {g : Int → Bool} {A B : List (Int × Int)} {x : Int × Int} (h : Mon g (A ++ x :: B)) (hx : g x.1 = true) : Mon g A ∧ (A ++ x :: B).filter (fun a => g a.1) = A.filter (fun a => g a.1) ++ x :: B := by
  unfold Mon at *
  rw [List.pairwise_append, List.pairwise_cons] at h
  refine ⟨h.1, ?_⟩
  rw [List.filter_append, List.filter_cons, if_pos hx, List.filter_eq_self.2 fun b hb => h.2.1.1 b hb hx]

theorem Mon.out {g : Int → Bool} {A B : List (Int × Int)} {x : Int × Int} (h : Mon g (A ++ x :: B)) (hx : g x.1 = false) : Mon g B ∧ (A ++ x :: B).filter (fun a => g a.1) = B.filter (fun a => g a.1) := by
  unfold Mon at *
  rw [List.pairwise_append, List.pairwise_cons] at h
  refine ⟨h.2.1.2, ?_⟩
  rw [List.filter_append, List.filter_cons, if_neg (by simp [hx]), List.filter_eq_nil_iff.2 fun a ha => ?_]
  · rfl
  · intro hg
    have := h.2.2 a ha x (by simp) hg
    rw [hx] at this
    cases this

/-- A function that tells whether a key is within, with what it holds. -/
structure Wi (f : Nat) (lb : Array Value) (g : Int → Bool) (Y : World → Prop) : Prop where
  enter : ∀ args w, (callFunc f args).run Try.prog w = .ok (.enter f args) w
  calls : ∀ a w, Y w → Calls Try.prog f (#[.int .i64 a] ++ lb) w fun e w' => e = .returned (.bool (g a)) ∧ Calm w w'
  calm : ∀ w w', Y w → Calm w w' → Y w'

/-- A stack of nodes, the next one last, told by what a walk has yet to tell. -/
inductive Stk (w : World) (s : Nat) : List Value → List (Int × Int) → Prop
  | nil : Stk w s [] []
  | push {b : Nat} {k : Int} {v : Int} {p q : Option Addr} {F A : List (Int × Int)} {vs : List Value}
      (hn : Nd w b k v p q) (hf : TL w (.pointer (if s = 0 then q else p)) F) (hs : Stk w s vs A) : Stk w s (vs ++ [.pointer (some ⟨b, 0, none⟩)]) ((k, v) :: dir s F ++ A)

theorem Stk.len {w : World} {s : Nat} {vs : List Value} {A : List (Int × Int)} (h : Stk w s vs A) : vs.length ≤ A.length := by
  induction h with
  | nil => simp
  | push _ _ _ ih => simp; omega

theorem infoPtr : (Try.prog.info? 39).map (fun i => (i.zero, i.size, i.bytes)) = some (some (.pointer none), 1, 8) := by kernel_rfl

set_option maxRecDepth 100000 in
set_option maxHeartbeats 1000000 in
theorem way0_any {f : Nat} {lb : Array Value} {g : Int → Bool} {Y : World → Prop} (hW : Wi f lb g Y) (w : World) (p : Option Addr) (X : List (Int × Int)) (h : TL w (.pointer p) X) (hY : Y w) (mon : Mon g (dir 0 X)) (few : Few X.length) :
    Calls Try.prog 68 #[.pointer p, .int .i64 0, .func (.func f) #[] lb] w fun e w' =>
      ∃ ao n cap vs, e = .returned (.slice ao n cap) ∧ w'.ownsRow w.heap.size 39 1 (.slice ao n cap) n vs ∧ Stk w 0 vs ((dir 0 X).filter fun a => g a.1) ∧ Calm w w' := by
  obtain ⟨i1, hj, hy0, hy1, hy2⟩ := info_parts2 infoPtr
  have HW := hide hW
  have HY := hide hY
  have H := hide h
  have MON := hide mon
  have FEW := hide few
  clear hW hY h mon few
  go_enter Try.func68, Try.ntmps68
  go_wp2_with fail
  go_loopw [0, 7] (fun i j wr => ∃ (o : Option Addr) (Z A : List (Int × Int)) (ao : Option Addr) (n cap : Nat) (vs : List Value), i = .pointer o ∧ j = .slice ao n cap ∧ TL w (.pointer o) Z ∧ Mon g (dir 0 Z) ∧
    wr.ownsRow w.heap.size 39 1 (.slice ao n cap) n vs ∧ Stk w 0 vs A ∧ (dir 0 X).filter (fun a => g a.1) = (dir 0 Z).filter (fun a => g a.1) ++ A ∧ Calm w wr) (fun i _ _ => cnt w i)
  case atStart => exact ⟨p, X, [], none, 0, 0, [], rfl, rfl, H.out, MON.out, World.ownsRow_nil _ _ _ _, .nil, by simp, Touch.refl _ _⟩
  case round =>
    obtain ⟨o, Z, A, ao, n, cap, vs, rfl, rfl, htl, hmon, own, stk, hfil, tr⟩ := hrel
    have FIL := hide hfil
    have TR := hide tr
    have OWN := hide own
    have STK := hide stk
    have HMON := hide hmon
    clear hfil tr own stk hmon
    cases htl with
    | nil =>
      go_wp2_with fail
      go_ret
      refine ⟨ao, n, cap, vs, rfl, OWN.out, ?_, TR.out⟩
      have e := FIL.out
      simp only [dir] at e
      simp at e
      simp only [dir]
      simp
      rw [e]
      exact STK.out
    | @node b k v p1 q1 L R hb g1 g2 =>
      obtain ⟨c0, -, -, c3, c4⟩ := cells5 (TR.out.at hb)
      have CA := hide (HW.out.calls k wr (HW.out.calm _ _ HY.out TR.out))
      have EN := HW.out.enter
      have HB := hide hb
      have G1 := hide g1
      have G2 := hide g2
      have CN := hide (TL.node hb g1 g2).cnt
      have hdz : dir 0 (L ++ (k, v) :: R) = dir 0 L ++ (k, v) :: dir 0 R := by simp [dir]
      have HDZ := hide hdz
      have MZ : Hid (Mon g (dir 0 L ++ (k, v) :: dir 0 R)) := hide (by rw [← HDZ.out]; exact HMON.out)
      have FZ : Hid ((dir 0 X).filter (fun a => g a.1) = (dir 0 L ++ (k, v) :: dir 0 R).filter (fun a => g a.1) ++ A) := hide (by rw [← HDZ.out]; exact FIL.out)
      clear hb g1 g2 hdz
      cases hg : g k with
      | true =>
        rw [hg] at CA
        have hin := hide (MZ.out.in (x := (k, v)) hg)
        have hx1 : Hid (n + 1 ≤ maxLen) := hide (by
          have h1 := STK.out.len
          have h2 := OWN.out.1
          have h3 := congrArg List.length FZ.out
          have h4 := List.length_filter_le (fun a : Int × Int => g a.1) (dir 0 X)
          have h5 : (dir 0 X).length = X.length := by simp [dir]
          have h6 := FEW.out.le
          simp only [List.length_append] at h3
          unfold maxLen; omega)
        have hx2 : Hid ((n + 1) * 8 ≤ 140737488355328) := hide (by
          have h1 := STK.out.len
          have h2 := OWN.out.1
          have h3 := congrArg List.length FZ.out
          have h4 := List.length_filter_le (fun a : Int × Int => g a.1) (dir 0 X)
          have h5 : (dir 0 X).length = X.length := by simp [dir]
          have h6 := FEW.out.le
          simp only [List.length_append] at h3
          omega)
        have HG := hide hg
        clear hg c3 c4
        go_wp2_with fail
        refine CA.out.mono ?_
        rintro e w2 ⟨rfl, t2⟩
        have T2 := hide (TR.out.tr t2)
        have own2 := own_touch OWN.out t2 (fun _ _ h => h)
        have OW2 : Hid ((w2.alloc (.cells #[.pointer (some ⟨b, 0, none⟩)] 39)).ownsRow w.heap.size 39 1 (.slice ao n cap) n vs) := hide (own_touch own2 ((Touch.refl (fun _ => False) w2).alloc _) (fun _ _ h => h))
        have TZ := hide (T2.out.alloc (.cells #[.pointer (some ⟨b, 0, none⟩)] 39))
        clear own2 t2 c0
        go_wp2_with (at_builtin; refine wpList_append_sep _ rfl (.tmp 19) (.tmp 21) 109 rfl w.heap.size 39 i1 (.pointer none) 1 8 Try.underlying109 hj hy0 hy1 hy2 rfl (by decide) _ n vs rfl OW2.out ⟨w2.heap.size, 0, none⟩ 1 1 [.pointer (some ⟨b, 0, none⟩)] rfl rfl (new_cells1 w2 _ _) (one_cells1 rfl) hx1.out hx2.out TZ.out.size (by omega) ?ny)
        case ny =>
          intro ao3 c3' w3 own3 t3 _
          have T3 := hide (TZ.out.trans t3 (fun g' hg' hs => by have := (own_block OW2.out hs).1; omega))
          obtain ⟨-, -, -, d3, d4⟩ := cells5 (T3.out.at HB.out)
          have OW3 := hide own3
          clear own3 t3
          go_wp2_with fail
          go_roundw
          case rel => exact ⟨p1, L, _, _, _, _, _, rfl, rfl, G1.out, hin.out.1, OW3.out, .push (s := 0) ⟨_, HB.out⟩ G2.out STK.out, by rw [FZ.out, hin.out.2]; simp, T3.out⟩
          case measure =>
            rw [CN.out, G1.out.cnt]
            simp only [List.length_append, List.length_cons]
            omega
      | false =>
        rw [hg] at CA
        have hout := hide (MZ.out.out (x := (k, v)) hg)
        clear hg c3 c4
        go_wp2_with fail
        refine CA.out.mono ?_
        rintro e w2 ⟨rfl, t2⟩
        have T2 := hide (TR.out.tr t2)
        have OW2 := hide (own_touch OWN.out t2 (fun _ _ h => h))
        obtain ⟨-, -, -, d3, d4⟩ := cells5 (T2.out.at HB.out)
        clear t2 c0
        go_wp2_with fail
        go_roundw
        case rel => exact ⟨q1, R, A, ao, n, cap, vs, rfl, rfl, G2.out, hout.out.1, OW2.out, STK.out, by rw [FZ.out, hout.out.2], T2.out⟩
        case measure =>
          rw [CN.out, G2.out.cnt]
          simp only [List.length_append, List.length_cons]
          omega

set_option maxRecDepth 100000 in
set_option maxHeartbeats 1000000 in
theorem way1_any {f : Nat} {lb : Array Value} {g : Int → Bool} {Y : World → Prop} (hW : Wi f lb g Y) (w : World) (p : Option Addr) (X : List (Int × Int)) (h : TL w (.pointer p) X) (hY : Y w) (mon : Mon g (dir 1 X)) (few : Few X.length) :
    Calls Try.prog 68 #[.pointer p, .int .i64 1, .func (.func f) #[] lb] w fun e w' =>
      ∃ ao n cap vs, e = .returned (.slice ao n cap) ∧ w'.ownsRow w.heap.size 39 1 (.slice ao n cap) n vs ∧ Stk w 1 vs ((dir 1 X).filter fun a => g a.1) ∧ Calm w w' := by
  obtain ⟨i1, hj, hy0, hy1, hy2⟩ := info_parts2 infoPtr
  have HW := hide hW
  have HY := hide hY
  have H := hide h
  have MON := hide mon
  have FEW := hide few
  clear hW hY h mon few
  go_enter Try.func68, Try.ntmps68
  go_wp2_with fail
  go_loopw [0, 7] (fun i j wr => ∃ (o : Option Addr) (Z A : List (Int × Int)) (ao : Option Addr) (n cap : Nat) (vs : List Value), i = .pointer o ∧ j = .slice ao n cap ∧ TL w (.pointer o) Z ∧ Mon g (dir 1 Z) ∧
    wr.ownsRow w.heap.size 39 1 (.slice ao n cap) n vs ∧ Stk w 1 vs A ∧ (dir 1 X).filter (fun a => g a.1) = (dir 1 Z).filter (fun a => g a.1) ++ A ∧ Calm w wr) (fun i _ _ => cnt w i)
  case atStart => exact ⟨p, X, [], none, 0, 0, [], rfl, rfl, H.out, MON.out, World.ownsRow_nil _ _ _ _, .nil, by simp, Touch.refl _ _⟩
  case round =>
    obtain ⟨o, Z, A, ao, n, cap, vs, rfl, rfl, htl, hmon, own, stk, hfil, tr⟩ := hrel
    have FIL := hide hfil
    have TR := hide tr
    have OWN := hide own
    have STK := hide stk
    have HMON := hide hmon
    clear hfil tr own stk hmon
    cases htl with
    | nil =>
      go_wp2_with fail
      go_ret
      refine ⟨ao, n, cap, vs, rfl, OWN.out, ?_, TR.out⟩
      have e := FIL.out
      simp only [dir] at e
      simp at e
      simp only [dir]
      simp
      rw [e]
      exact STK.out
    | @node b k v p1 q1 L R hb g1 g2 =>
      obtain ⟨c0, -, -, c3, c4⟩ := cells5 (TR.out.at hb)
      have CA := hide (HW.out.calls k wr (HW.out.calm _ _ HY.out TR.out))
      have EN := HW.out.enter
      have HB := hide hb
      have G1 := hide g1
      have G2 := hide g2
      have CN := hide (TL.node hb g1 g2).cnt
      have hdz : dir 1 (L ++ (k, v) :: R) = dir 1 R ++ (k, v) :: dir 1 L := by simp [dir]
      have HDZ := hide hdz
      have MZ : Hid (Mon g (dir 1 R ++ (k, v) :: dir 1 L)) := hide (by rw [← HDZ.out]; exact HMON.out)
      have FZ : Hid ((dir 1 X).filter (fun a => g a.1) = (dir 1 R ++ (k, v) :: dir 1 L).filter (fun a => g a.1) ++ A) := hide (by rw [← HDZ.out]; exact FIL.out)
      clear hb g1 g2 hdz
      cases hg : g k with
      | true =>
        rw [hg] at CA
        have hin := hide (MZ.out.in (x := (k, v)) hg)
        have hx1 : Hid (n + 1 ≤ maxLen) := hide (by
          have h1 := STK.out.len
          have h2 := OWN.out.1
          have h3 := congrArg List.length FZ.out
          have h4 := List.length_filter_le (fun a : Int × Int => g a.1) (dir 1 X)
          have h5 : (dir 1 X).length = X.length := by simp [dir]
          have h6 := FEW.out.le
          simp only [List.length_append] at h3
          unfold maxLen; omega)
        have hx2 : Hid ((n + 1) * 8 ≤ 140737488355328) := hide (by
          have h1 := STK.out.len
          have h2 := OWN.out.1
          have h3 := congrArg List.length FZ.out
          have h4 := List.length_filter_le (fun a : Int × Int => g a.1) (dir 1 X)
          have h5 : (dir 1 X).length = X.length := by simp [dir]
          have h6 := FEW.out.le
          simp only [List.length_append] at h3
          omega)
        have HG := hide hg
        clear hg c3 c4
        go_wp2_with fail
        refine CA.out.mono ?_
        rintro e w2 ⟨rfl, t2⟩
        have T2 := hide (TR.out.tr t2)
        have own2 := own_touch OWN.out t2 (fun _ _ h => h)
        have OW2 : Hid ((w2.alloc (.cells #[.pointer (some ⟨b, 0, none⟩)] 39)).ownsRow w.heap.size 39 1 (.slice ao n cap) n vs) := hide (own_touch own2 ((Touch.refl (fun _ => False) w2).alloc _) (fun _ _ h => h))
        have TZ := hide (T2.out.alloc (.cells #[.pointer (some ⟨b, 0, none⟩)] 39))
        clear own2 t2 c0
        go_wp2_with (at_builtin; refine wpList_append_sep _ rfl (.tmp 19) (.tmp 21) 109 rfl w.heap.size 39 i1 (.pointer none) 1 8 Try.underlying109 hj hy0 hy1 hy2 rfl (by decide) _ n vs rfl OW2.out ⟨w2.heap.size, 0, none⟩ 1 1 [.pointer (some ⟨b, 0, none⟩)] rfl rfl (new_cells1 w2 _ _) (one_cells1 rfl) hx1.out hx2.out TZ.out.size (by omega) ?ny)
        case ny =>
          intro ao3 c3' w3 own3 t3 _
          have T3 := hide (TZ.out.trans t3 (fun g' hg' hs => by have := (own_block OW2.out hs).1; omega))
          obtain ⟨-, -, -, d3, d4⟩ := cells5 (T3.out.at HB.out)
          have OW3 := hide own3
          clear own3 t3
          go_wp2_with fail
          go_roundw
          case rel => exact ⟨q1, R, _, _, _, _, _, rfl, rfl, G2.out, hin.out.1, OW3.out, .push (s := 1) ⟨_, HB.out⟩ G1.out STK.out, by rw [FZ.out, hin.out.2]; simp, T3.out⟩
          case measure =>
            rw [CN.out, G2.out.cnt]
            simp only [List.length_append, List.length_cons]
            omega
      | false =>
        rw [hg] at CA
        have hout := hide (MZ.out.out (x := (k, v)) hg)
        clear hg c3 c4
        go_wp2_with fail
        refine CA.out.mono ?_
        rintro e w2 ⟨rfl, t2⟩
        have T2 := hide (TR.out.tr t2)
        have OW2 := hide (own_touch OWN.out t2 (fun _ _ h => h))
        obtain ⟨-, -, -, d3, d4⟩ := cells5 (T2.out.at HB.out)
        clear t2 c0
        go_wp2_with fail
        go_roundw
        case rel => exact ⟨p1, L, A, ao, n, cap, vs, rfl, rfl, G1.out, hout.out.1, OW2.out, STK.out, by rw [FZ.out, hout.out.2], T2.out⟩
        case measure =>
          rw [CN.out, G1.out.cnt]
          simp only [List.length_append, List.length_cons]
          omega

end Go.Proofs.Ytegiinnhknfjjaa.IM
