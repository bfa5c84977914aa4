/- The program's way: the nodes on the way to the nearest key that is within. The program's tell: what stands on a stack, told one by one. The program's All, From, Back: functions that tell what a map holds. The program's walks, as iterators. -/
import Derived.Test.YtamfcmmhmfhhkaaGreatDoorG29
import Derived.Test.YtamfcmmhmfhhkaaGreatDoorG21
import Derived.Test.YtamfcmmhmfhhkaaGreatDoorG22
import Derived.Stop.RegionWithIn
import Derived.Test.YtamfcmmhmfhhkaaGreatDoorG0
namespace Go.Proofs.YtamfcmmhmfhhkaaGreatDoor.PM
open Go.RowKit

/-- So many keys fit into a row of pointers. -/
structure Few (n : Nat) : Prop where
  le : n ≤ 8796093022208

theorem Few.low {n : Nat} (h : Few n) : Low n := ⟨Nat.le_trans h.le (by omega)⟩

/-- In the order in which a walk from side s tells. -/
def dir (s : Nat) (X : List (Pn × Pn)) : List (Pn × Pn) := if s = 0 then X else X.reverse

theorem dir0 (X : List (Pn × Pn)) : dir 0 X = X := rfl
theorem dir1 (X : List (Pn × Pn)) : dir 1 X = X.reverse := rfl

/-- Where one is within, so are all behind it. -/
def Mon (g : Pn → Bool) (X : List (Pn × Pn)) : Prop := X.Pairwise fun a b => g a.1 = true → g b.1 = true

theorem Mon.in {g : Pn → Bool} {A B : List (Pn × Pn)} {x : Pn × Pn} (h : Mon g (A ++ x :: B)) (hx : g x.1 = true) : Mon g A ∧ (A ++ x :: B).filter (fun a => g a.1) = A.filter (fun a => g a.1) ++ x :: B := by
  unfold Mon at *
  rw [List.pairwise_append, List.pairwise_cons] at h
  refine ⟨h.1, ?_⟩
  rw [List.filter_append, List.filter_cons, if_pos hx, List.filter_eq_self.2 fun b hb => h.2.1.1 b hb hx]

theorem Mon.out {g : Pn → Bool} {A B : List (Pn × Pn)} {x : Pn × Pn} (h : Mon g (A ++ x :: B)) (hx : g x.1 = false) : Mon g B ∧ (A ++ x :: B).filter (fun a => g a.1) = B.filter (fun a => g a.1) := by
  unfold Mon at *
  rw [List.pairwise_append, List.pairwise_cons] at h
  refine ⟨h.2.1.2, ?_⟩
  rw [List.filter_append, List.filter_cons, if_neg (by simp [hx]), List.filter_eq_nil_iff.2 fun a ha => ?_]
  · rfl
  · intro hg
    have := h.2.2 a ha x (by simp) hg
    rw [hx] at this
    cases this

/-- A function that tells whether a key is within, with what it holds. -/
structure Wi (f : Nat) (lb : Array Value) (g : Pn → Bool) (Y : World → Prop) : Prop where
  enter : ∀ args w, (callFunc f args).run Tryz.prog w = .ok (.enter f args) w
  calls : ∀ a w, Y w → Calls Tryz.prog f (#[pnv a] ++ lb) w fun e w' => e = .returned (.bool (g a)) ∧ Calm w w'
  calm : ∀ w w', Y w → Calm w w' → Y w'

/-- A stack of nodes, the next one last, told by what a walk has yet to tell. -/
inductive Stk (w : World) (s : Nat) : List Value → List (Pn × Pn) → Prop
  | nil : Stk w s [] []
  | push {b : Nat} {k : Pn} {v : Pn} {p q : Option Addr} {F A : List (Pn × Pn)} {vs : List Value}
      (hn : Nd w b k v p q) (hf : TL w (.pointer (if s = 0 then q else p)) F) (hs : Stk w s vs A) : Stk w s (vs ++ [.pointer (some ⟨b, 0, none⟩)]) ((k, v) :: dir s F ++ A)

theorem Stk.len {w : World} {s : Nat} {vs : List Value} {A : List (Pn × Pn)} (h : Stk w s vs A) : vs.length ≤ A.length := by
  induction h with
  | nil => simp
  | push _ _ _ ih => simp; omega

theorem infoPtr : (Tryz.prog.info? 110).map (fun i => (i.zero, i.size, i.bytes)) = some (some (.pointer none), 1, 8) := by kernel_rfl

set_option maxRecDepth 100000 in
set_option maxHeartbeats 1000000 in
theorem way0_any {f : Nat} {lb : Array Value} {g : Pn → Bool} {Y : World → Prop} (hW : Wi f lb g Y) (w : World) (p : Option Addr) (X : List (Pn × Pn)) (h : TL w (.pointer p) X) (hY : Y w) (mon : Mon g (dir 0 X)) (few : Few X.length) :
    Calls Tryz.prog 67 #[.pointer p, .int .i64 0, .func (.func f) #[] lb] w fun e w' =>
      ∃ ao n cap vs, e = .returned (.slice ao n cap) ∧ w'.ownsRow w.heap.size 110 1 (.slice ao n cap) n vs ∧ Stk w 0 vs ((dir 0 X).filter fun a => g a.1) ∧ Calm w w' := by
  obtain ⟨i1, hj, hy0, hy1, hy2⟩ := info_parts2 infoPtr
  have HW := hide hW
  have HY := hide hY
  have H := hide h
  have MON := hide mon
  have FEW := hide few
  clear hW hY h mon few
  go_enter Tryz.func67, Tryz.ntmps67
  go_wp2_with fail
  go_loopw [0, 7] (fun i j wr => ∃ (o : Option Addr) (Z A : List (Pn × Pn)) (ao : Option Addr) (n cap : Nat) (vs : List Value), i = .pointer o ∧ j = .slice ao n cap ∧ TL w (.pointer o) Z ∧ Mon g (dir 0 Z) ∧
    wr.ownsRow w.heap.size 110 1 (.slice ao n cap) n vs ∧ Stk w 0 vs A ∧ (dir 0 X).filter (fun a => g a.1) = (dir 0 Z).filter (fun a => g a.1) ++ A ∧ Calm w wr) (fun i _ _ => cnt w i)
  case atStart => exact ⟨p, X, [], none, 0, 0, [], rfl, rfl, H.out, MON.out, World.ownsRow_nil _ _ _ _, .nil, by simp, Touch.refl _ _⟩
  case round =>
    obtain ⟨o, Z, A, ao, n, cap, vs, rfl, rfl, htl, hmon, own, stk, hfil, tr⟩ := hrel
    have FIL := hide hfil
    have TR := hide tr
    have OWN := hide own
    have STK := hide stk
    have HMON := hide hmon
    clear hfil tr own stk hmon
    cases htl with
    | nil =>
      go_wp2_with fail
      go_ret
      refine ⟨ao, n, cap, vs, rfl, OWN.out, ?_, TR.out⟩
      have e := FIL.out
      simp only [dir] at e
      simp at e
      simp only [dir]
      simp
      rw [e]
      exact STK.out
    | @node b k v p1 q1 L R hb g1 g2 =>
      obtain ⟨⟨⟨kc0, kc1, kc2, kc3, kc4⟩, kc5, kc6, kc7, kc8⟩, -, -, c3, c4⟩ := cells21 (TR.out.at hb)
      have CA := hide (HW.out.calls k wr (HW.out.calm _ _ HY.out TR.out))
      have EN := HW.out.enter
      have HB := hide hb
      have G1 := hide g1
      have G2 := hide g2
      have CN := hide (TL.node hb g1 g2).cnt
      have hdz : dir 0 (L ++ (k, v) :: R) = dir 0 L ++ (k, v) :: dir 0 R := by simp [dir]
      have HDZ := hide hdz
      have MZ : Hid (Mon g (dir 0 L ++ (k, v) :: dir 0 R)) := hide (by rw [← HDZ.out]; exact HMON.out)
      have FZ : Hid ((dir 0 X).filter (fun a => g a.1) = (dir 0 L ++ (k, v) :: dir 0 R).filter (fun a => g a.1) ++ A) := hide (by rw [← HDZ.out]; exact FIL.out)
      clear hb g1 g2 hdz
      cases hg : g k with
      | true =>
        rw [hg] at CA
        have hin := hide (MZ.out.in (x := (k, v)) hg)
        have hx1 : Hid (n + 1 ≤ maxLen) := hide (by
          have h1 := STK.out.len
          have h2 := OWN.out.1
          have h3 := congrArg List.length FZ.out
          have h4 := List.length_filter_le (fun a : Pn × Pn => g a.1) (dir 0 X)
          have h5 : (dir 0 X).length = X.length := by simp [dir]
          have h6 := FEW.out.le
          simp only [List.length_append] at h3
          unfold maxLen; omega)
        have hx2 : Hid ((n + 1) * 8 ≤ 140737488355328) := hide (by
          have h1 := STK.out.len
          have h2 := OWN.out.1
          have h3 := congrArg List.length FZ.out
          have h4 := List.length_filter_le (fun a : Pn × Pn => g a.1) (dir 0 X)
          have h5 : (dir 0 X).length = X.length := by simp [dir]
          have h6 := FEW.out.le
          simp only [List.length_append] at h3
          omega)
        have HG := hide hg
        clear hg c3 c4
        go_wp2_with fail
        refine CA.out.mono ?_
        rintro e w2 ⟨rfl, t2⟩
        have T2 := hide (TR.out.tr t2)
        have own2 := own_touch OWN.out t2 (fun _ _ h => h)
        have OW2 : Hid ((w2.alloc (.cells #[.pointer (some ⟨b, 0, none⟩)] 110)).ownsRow w.heap.size 110 1 (.slice ao n cap) n vs) := hide (own_touch own2 ((Touch.refl (fun _ => False) w2).alloc _) (fun _ _ h => h))
        have TZ := hide (T2.out.alloc (.cells #[.pointer (some ⟨b, 0, none⟩)] 110))
        clear own2 t2 kc0 kc1 kc2 kc3 kc4 kc5 kc6 kc7 kc8
        go_wp2_with (at_builtin; refine wpList_append_sep _ rfl (.tmp 19) (.tmp 21) 119 rfl w.heap.size 110 i1 (.pointer none) 1 8 Tryz.underlying119 hj hy0 hy1 hy2 rfl (by decide) _ n vs rfl OW2.out ⟨w2.heap.size, 0, none⟩ 1 1 [.pointer (some ⟨b, 0, none⟩)] rfl rfl (new_cells1 w2 _ _) (one_cells1 rfl) hx1.out hx2.out TZ.out.size (by omega) ?ny)
        case ny =>
          intro ao3 c3' w3 own3 t3 _
          have T3 := hide (TZ.out.trans t3 (fun g' hg' hs => by have := (own_block OW2.out hs).1; omega))
          obtain ⟨-, -, -, d3, d4⟩ := cells21 (T3.out.at HB.out)
          have OW3 := hide own3
          clear own3 t3
          go_wp2_with fail
          go_roundw
          case rel => exact ⟨p1, L, _, _, _, _, _, rfl, rfl, G1.out, hin.out.1, OW3.out, .push (s := 0) ⟨_, HB.out⟩ G2.out STK.out, by rw [FZ.out, hin.out.2]; simp, T3.out⟩
          case measure =>
            rw [CN.out, G1.out.cnt]
            simp only [List.length_append, List.length_cons]
            omega
      | false =>
        rw [hg] at CA
        have hout := hide (MZ.out.out (x := (k, v)) hg)
        clear hg c3 c4
        go_wp2_with fail
        refine CA.out.mono ?_
        rintro e w2 ⟨rfl, t2⟩
        have T2 := hide (TR.out.tr t2)
        have OW2 := hide (own_touch OWN.out t2 (fun _ _ h => h))
        obtain ⟨-, -, -, d3, d4⟩ := cells21 (T2.out.at HB.out)
        clear t2 kc0 kc1 kc2 kc3 kc4 kc5 kc6 kc7 kc8
        go_wp2_with fail
        go_roundw
        case rel => exact ⟨q1, R, A, ao, n, cap, vs, rfl, rfl, G2.out, hout.out.1, OW2.out, STK.out, by rw [FZ.out, hout.out.2], T2.out⟩
        case measure =>
          rw [CN.out, G2.out.cnt]
          simp only [List.length_append, List.length_cons]
          omega

set_option maxRecDepth 100000 in
set_option maxHeartbeats 1000000 in
theorem way1_any {f : Nat} {lb : Array Value} {g : Pn → Bool} {Y : World → Prop} (hW : Wi f lb g Y) (w : World) (p : Option Addr) (X : List (Pn × Pn)) (h : TL w (.pointer p) X) (hY : Y w) (mon : Mon g (dir 1 X)) (few : Few X.length) :
    Calls Tryz.prog 67 #[.pointer p, .int .i64 1, .func (.func f) #[] lb] w fun e w' =>
      ∃ ao n cap vs, e = .returned (.slice ao n cap) ∧ w'.ownsRow w.heap.size 110 1 (.slice ao n cap) n vs ∧ Stk w 1 vs ((dir 1 X).filter fun a => g a.1) ∧ Calm w w' := by
  obtain ⟨i1, hj, hy0, hy1, hy2⟩ := info_parts2 infoPtr
  have HW := hide hW
  have HY := hide hY
  have H := hide h
  have MON := hide mon
  have FEW := hide few
  clear hW hY h mon few
  go_enter Tryz.func67, Tryz.ntmps67
  go_wp2_with fail
  go_loopw [0, 7] (fun i j wr => ∃ (o : Option Addr) (Z A : List (Pn × Pn)) (ao : Option Addr) (n cap : Nat) (vs : List Value), i = .pointer o ∧ j = .slice ao n cap ∧ TL w (.pointer o) Z ∧ Mon g (dir 1 Z) ∧
    wr.ownsRow w.heap.size 110 1 (.slice ao n cap) n vs ∧ Stk w 1 vs A ∧ (dir 1 X).filter (fun a => g a.1) = (dir 1 Z).filter (fun a => g a.1) ++ A ∧ Calm w wr) (fun i _ _ => cnt w i)
  case atStart => exact ⟨p, X, [], none, 0, 0, [], rfl, rfl, H.out, MON.out, World.ownsRow_nil _ _ _ _, .nil, by simp, Touch.refl _ _⟩
  case round =>
    obtain ⟨o, Z, A, ao, n, cap, vs, rfl, rfl, htl, hmon, own, stk, hfil, tr⟩ := hrel
    have FIL := hide hfil
    have TR := hide tr
    have OWN := hide own
    have STK := hide stk
    have HMON := hide hmon
    clear hfil tr own stk hmon
    cases htl with
    | nil =>
      go_wp2_with fail
      go_ret
      refine ⟨ao, n, cap, vs, rfl, OWN.out, ?_, TR.out⟩
      have e := FIL.out
      simp only [dir] at e
      simp at e
      simp only [dir]
      simp
      rw [e]
      exact STK.out
    | @node b k v p1 q1 L R hb g1 g2 =>
      obtain ⟨⟨⟨kc0, kc1, kc2, kc3, kc4⟩, kc5, kc6, kc7, kc8⟩, -, -, c3, c4⟩ := cells21 (TR.out.at hb)
      have CA := hide (HW.out.calls k wr (HW.out.calm _ _ HY.out TR.out))
      have EN := HW.out.enter
      have HB := hide hb
      have G1 := hide g1
      have G2 := hide g2
      have CN := hide (TL.node hb g1 g2).cnt
      have hdz : dir 1 (L ++ (k, v) :: R) = dir 1 R ++ (k, v) :: dir 1 L := by simp [dir]
      have HDZ := hide hdz
      have MZ : Hid (Mon g (dir 1 R ++ (k, v) :: dir 1 L)) := hide (by rw [← HDZ.out]; exact HMON.out)
      have FZ : Hid ((dir 1 X).filter (fun a => g a.1) = (dir 1 R ++ (k, v) :: dir 1 L).filter (fun a => g a.1) ++ A) := hide (by rw [← HDZ.out]; exact FIL.out)
      clear hb g1 g2 hdz
      cases hg : g k with
      | true =>
        rw [hg] at CA
        have hin := hide (MZ.out.in (x := (k, v)) hg)
        have hx1 : Hid (n + 1 ≤ maxLen) := hide (by
          have h1 := STK.out.len
          have h2 := OWN.out.1
          have h3 := congrArg List.length FZ.out
          have h4 := List.length_filter_le (fun a : Pn × Pn => g a.1) (dir 1 X)
          have h5 : (dir 1 X).length = X.length := by simp [dir]
          have h6 := FEW.out.le
          simp only [List.length_append] at h3
          unfold maxLen; omega)
        have hx2 : Hid ((n + 1) * 8 ≤ 140737488355328) := hide (by
          have h1 := STK.out.len
          have h2 := OWN.out.1
          have h3 := congrArg List.length FZ.out
          have h4 := List.length_filter_le (fun a : Pn × Pn => g a.1) (dir 1 X)
          have h5 : (dir 1 X).length = X.length := by simp [dir]
          have h6 := FEW.out.le
          simp only [List.length_append] at h3
          omega)
        have HG := hide hg
        clear hg c3 c4
        go_wp2_with fail
        refine CA.out.mono ?_
        rintro e w2 ⟨rfl, t2⟩
        have T2 := hide (TR.out.tr t2)
        have own2 := own_touch OWN.out t2 (fun _ _ h => h)
        have OW2 : Hid ((w2.alloc (.cells #[.pointer (some ⟨b, 0, none⟩)] 110)).ownsRow w.heap.size 110 1 (.slice ao n cap) n vs) := hide (own_touch own2 ((Touch.refl (fun _ => False) w2).alloc _) (fun _ _ h => h))
        have TZ := hide (T2.out.alloc (.cells #[.pointer (some ⟨b, 0, none⟩)] 110))
        clear own2 t2 kc0 kc1 kc2 kc3 kc4 kc5 kc6 kc7 kc8
        go_wp2_with (at_builtin; refine wpList_append_sep _ rfl (.tmp 19) (.tmp 21) 119 rfl w.heap.size 110 i1 (.pointer none) 1 8 Tryz.underlying119 hj hy0 hy1 hy2 rfl (by decide) _ n vs rfl OW2.out ⟨w2.heap.size, 0, none⟩ 1 1 [.pointer (some ⟨b, 0, none⟩)] rfl rfl (new_cells1 w2 _ _) (one_cells1 rfl) hx1.out hx2.out TZ.out.size (by omega) ?ny)
        case ny =>
          intro ao3 c3' w3 own3 t3 _
          have T3 := hide (TZ.out.trans t3 (fun g' hg' hs => by have := (own_block OW2.out hs).1; omega))
          obtain ⟨-, -, -, d3, d4⟩ := cells21 (T3.out.at HB.out)
          have OW3 := hide own3
          clear own3 t3
          go_wp2_with fail
          go_roundw
          case rel => exact ⟨q1, R, _, _, _, _, _, rfl, rfl, G2.out, hin.out.1, OW3.out, .push (s := 1) ⟨_, HB.out⟩ G1.out STK.out, by rw [FZ.out, hin.out.2]; simp, T3.out⟩
          case measure =>
            rw [CN.out, G2.out.cnt]
            simp only [List.length_append, List.length_cons]
            omega
      | false =>
        rw [hg] at CA
        have hout := hide (MZ.out.out (x := (k, v)) hg)
        clear hg c3 c4
        go_wp2_with fail
        refine CA.out.mono ?_
        rintro e w2 ⟨rfl, t2⟩
        have T2 := hide (TR.out.tr t2)
        have OW2 := hide (own_touch OWN.out t2 (fun _ _ h => h))
        obtain ⟨-, -, -, d3, d4⟩ := cells21 (T2.out.at HB.out)
        clear t2 kc0 kc1 kc2 kc3 kc4 kc5 kc6 kc7 kc8
        go_wp2_with fail
        go_roundw
        case rel => exact ⟨p1, L, A, ao, n, cap, vs, rfl, rfl, G1.out, hout.out.1, OW2.out, STK.out, by rw [FZ.out, hout.out.2], T2.out⟩
        case measure =>
          rw [CN.out, G1.out.cnt]
          simp only [List.length_append, List.length_cons]
          omega

end Go.Proofs.YtamfcmmhmfhhkaaGreatDoor.PM

namespace Go.Proofs.YtamfcmmhmfhhkaaGreatDoor.PM
open Go.RowKit
attribute [local go_sem] Oper.semAt_some

theorem YieldAt.any {n n' : Nat} {P : Program} {l : Nat} {args : Array Value} {W : World} {R : Ending → World → Prop} (h : YieldAt Fence.wide n P l args W R) : YieldAt Fence.wide n' P l args W R := by
  obtain ⟨fn, tmps, assign, body, h1, h2, h3⟩ := h
  exact ⟨fn, tmps, assign, body, h1, h2, fun c cs _ => h3 c cs (room_wide _)⟩


theorem cut_facts {m cap : Nat} (h : m + 1 ≤ cap) (hx : cap ≤ maxLen) : wrap64 (m : Int) = (m : Int) ∧ (m : Int) ≤ (cap : Int) ∧ (m : Int) + 1 ≤ (cap : Int) := by
  unfold maxLen at hx
  unfold wrap64
  omega

theorem Stk.inv {w : World} {s : Nat} {vs : List Value} {A : List (Pn × Pn)} (h : Stk w s vs A) : (vs = [] ∧ A = []) ∨ ∃ b k v p q F A' vs', vs = vs' ++ [.pointer (some ⟨b, 0, none⟩)] ∧ A = (k, v) :: (dir s F ++ A') ∧ Nd w b k v p q ∧ TL w (.pointer (if s = 0 then q else p)) F ∧ Stk w s vs' A' := by
  cases h with
  | nil => exact .inl ⟨rfl, rfl⟩
  | push hn hf hs => exact .inr ⟨_, _, _, _, _, _, _, _, rfl, rfl, hn, hf, hs⟩

/-- What tell keeps: so much is yet to do. -/
def Tl (S : Nat → Prop) (J : Nat → World → Prop) (W0 : World) (s : Nat) (Y : List (Pn × Pn)) (mu : Nat) (i j : Value) (wr : World) : Prop :=
  ∃ (k : Nat) (ao : Option Addr) (n cap : Nat) (vs : List Value) (o : Option Addr) (Z A : List (Pn × Pn)), i = .slice ao n cap ∧ j = .pointer o ∧ TL W0 (.pointer o) Z ∧
    wr.ownsRow W0.heap.size 110 1 (.slice ao n cap) n vs ∧ Stk W0 s vs A ∧ dir s Z ++ A = Y.drop k ∧ k ≤ Y.length ∧ J k wr ∧ Touch (fun g => S g ∨ W0.heap.size ≤ g) W0 wr ∧ mu + n = 2 * (Z.length + A.length)

set_option maxRecDepth 100000 in
set_option maxHeartbeats 2000000 in
theorem tell0_in (n l : Nat) (S : Nat → Prop) (J Jx : Nat → World → Prop) (W0 : World) (hS : ∀ k, S k → k < W0.heap.size ∧ ∀ cs fr, W0.heap[k]? ≠ some (.cells cs 133 fr)) (hJ : ∀ k W1 W2, J k W1 → Sly 110 W0.heap.size W1 W2 → J k W2) (Y : List (Pn × Pn))
    (hY : ∀ k W1, J k W1 → (hk : k < Y.length) → YieldAt Fence.wide (n - 1) Tryz.prog l #[pnv (Y[k].1), pnv (Y[k].2)] W1 fun e W' => Touch S W1 W' ∧ ((e = .returned (.bool true) ∧ J (k + 1) W') ∨ (e = .returned (.bool false) ∧ Jx (k + 1) W')))
    (few : Few Y.length) (ao : Option Addr) (nn cap : Nat) (vs : List Value) (W1 : World) (own : W1.ownsRow W0.heap.size 110 1 (.slice ao nn cap) nn vs) (stk : Stk W0 0 vs Y) (hT : Calm W0 W1) (h0 : J 0 W1) :
    CallsIn Fence.wide n Tryz.prog 66 #[.slice ao nn cap, .int .i64 0, .func (.yield l) #[] #[]] W1 fun e W' => (∃ v, e = .returned v) ∧ (J Y.length W' ∨ ∃ k, k ≤ Y.length ∧ Jx k W') := by
  obtain ⟨i1, hj, hy0, hy1, hy2⟩ := info_parts2 infoPtr
  have HS := hide hS
  have HJ := hide hJ
  have HY := hide hY
  have FEW := hide few
  have ST : Hid (Tl S J W0 0 Y (2 * Y.length - nn) (.slice ao nn cap) (.pointer none) W1) := hide ⟨0, ao, nn, cap, vs, none, [], Y, rfl, rfl, .nil, own, stk, by simp [dir], Nat.zero_le _, h0, hT.mono (fun _ _ h => h.elim), by
    have h1 := stk.len
    have h2 := own.1
    simp; omega⟩
  clear hS hJ hY few own stk hT h0
  refine callsIn_of_wp Tryz.func66 rfl trivial ?_ rfl
  simp only [Tryz.ntmps66, List.size_toArray, List.length_cons, List.length_nil, Nat.reduceAdd, Nat.reduceSub, Array.replicate_succ, Array.replicate_zero, List.push_toArray, List.append_toArray, List.nil_append, List.cons_append]
  gi_wp2
  refine wpIn_scope_straight ?_
  gi_wp2
  refine wpIn_label ?_
  gi_wp2
  gi_loopw [0, 6] (fun i j wr => ∃ mu, Tl S J W0 0 Y mu i j wr) (fun i j wr => least (fun mu => Tl S J W0 0 Y mu i j wr))
  case atStart => exact ⟨_, ST.out⟩
  case round =>
    obtain ⟨hls, hlm⟩ := least_spec hrel
    obtain ⟨k, ao, n', cap, vs, o, Z, A, rfl, rfl, htl, own, stk, hdr, hk, hJ, ht, hmu⟩ := hls
    have HLM := hide hlm
    have HDR := hide hdr
    have HK := hide hk
    have HT := hide ht
    have HMU := hide hmu
    have OWN := hide own
    have STK := hide stk
    have HJK := hide hJ
    clear hlm hdr hk ht hmu own stk hJ ST hrel
    generalize hmm : least (fun mu => Tl S J W0 0 Y mu (.slice ao n' cap) (.pointer o) wr) = M at *
    have hno : ∀ {b : Nat} {cs : Array Value}, W0.heap[b]? = some (.cells cs 133 (0, 0)) → wr.heap[b]? = some (.cells cs 133 (0, 0)) := fun {b cs} h => HT.out.heap h (fun hs => by
      rcases hs with hs | hs
      · exact (HS.out b hs).2 _ _ h
      · have := lt_of_heap h; omega)
    cases htl with
    | @node b k1 v1 p1 q1 L R hb g1 g2 =>
      have G1 := hide g1
      have G2 := hide g2
      have HB := hide hb
      have hx1 : Hid (n' + 1 ≤ 8796093022208 + 1) := hide (by
        have h1 := STK.out.len
        have h2 := OWN.out.1
        have h3 := congrArg List.length HDR.out
        have h6 := FEW.out.le
        simp only [List.length_append, List.length_drop] at h3
        omega)
      have hx2 : Hid (n' + 1 ≤ maxLen) := hide (by have := hx1.out; unfold maxLen; omega)
      have hx3 : Hid ((n' + 1) * 8 ≤ 140737488355328) := hide (by have := hx1.out; omega)
      have OW2 : Hid ((wr.alloc (.cells #[.pointer (some ⟨b, 0, none⟩)] 110)).ownsRow W0.heap.size 110 1 (.slice ao n' cap) n' vs) := hide (own_touch OWN.out ((Touch.refl (fun _ => False) wr).alloc _) (fun _ _ h => h))
      have TZ := hide ((Touch.refl (fun _ => False) wr).alloc (.cells #[.pointer (some ⟨b, 0, none⟩)] 110))
      have BZ : Hid (W0.heap.size ≤ (wr.alloc (.cells #[.pointer (some ⟨b, 0, none⟩)] 110)).heap.size) := hide (Nat.le_trans HT.out.size TZ.out.size)
      have HNO := hide (hno hb)
      clear hno g1 g2 hb
      refine wpIn_wide.2 ?_
      go_wp2_with (at_builtin; refine wpList_append_sep _ rfl (.tmp 40) (.tmp 42) 119 rfl W0.heap.size 110 i1 (.pointer none) 1 8 Tryz.underlying119 hj hy0 hy1 hy2 rfl (by decide) _ n' vs rfl OW2.out ⟨wr.heap.size, 0, none⟩ 1 1 [.pointer (some ⟨b, 0, none⟩)] rfl rfl (new_cells1 wr _ _) (one_cells1 rfl) hx2.out hx3.out BZ.out (by omega) ?ny)
      case ny =>
        intro ao3 c3 w3 own3 t3 _
        have SL : Hid (Sly 110 W0.heap.size wr w3) := hide ((Touch.mono TZ.out (fun _ _ h => h.elim)).trans t3 (fun g' hg' hs => by
          obtain ⟨h1, cur, h2⟩ := own_block OWN.out hs
          exact ⟨h1, cur, _, h2⟩))
        obtain ⟨-, -, -, d3, d4⟩ := cells21 (SL.out.at HNO.out (by decide))
        have OW3 := hide own3
        clear own3 t3
        have NX : Hid (Tl S J W0 0 Y (M - 1) (.slice ao3 (n' + 1) c3) (.pointer p1) w3) := hide (by
          refine ⟨k, _, _, _, _, p1, L, (k1, v1) :: dir 0 R ++ A, rfl, rfl, G1.out, OW3.out, .push (s := 0) ⟨_, HB.out⟩ G2.out STK.out, ?_, HK.out, HJ.out _ _ _ HJK.out SL.out, HT.out.trans SL.out (fun g' _ hs => .inr hs.1), ?_⟩
          · rw [← HDR.out]; simp [dir]
          · have h1 := STK.out.len
            have h2 := OWN.out.1
            have h3 := HMU.out
            simp [dir] at h3 ⊢
            omega)
        have HMP : Hid (M - 1 < M) := hide (by
          have h1 := STK.out.len
          have h2 := OWN.out.1
          have h3 := HMU.out
          simp at h3
          omega)
        go_wp2_with fail
        go_roundw
        case rel => exact ⟨_, NX.out⟩
        case measure =>
          rw [hmm]
          exact Nat.lt_of_le_of_lt ((least_spec ⟨_, NX.out⟩).2 _ NX.out) HMP.out
    | nil =>
      rcases STK.out.inv with ⟨hvs, hA⟩ | ⟨b, k1, v1, p1, q1, F, A', vs', hvs, hA, hn, hf, stk'⟩
      · have h1 := OWN.out.1
        subst hvs hA
        have hn0 : n' = 0 := by simpa using h1.symm
        subst hn0
        have HKY : Hid (k = Y.length) := hide (by
          have h3 := HDR.out
          simp [dir] at h3
          have := HK.out
          omega)
        clear h1 hno hmm
        refine wpIn_wide.2 ?_
        go_wp2_with fail
        rw [Exit.noGoto_normal]
        go_end0
        exact ⟨⟨_, rfl⟩, .inl (by have h := HJK.out; rw [HKY.out] at h; exact h)⟩
      · have h1 := OWN.out.1
        subst hvs hA
        obtain ⟨m, rfl⟩ : ∃ m, n' = m + 1 := ⟨n' - 1, by simp at h1; omega⟩
        obtain ⟨g, rfl, hg, hcap, hmax, cg, own'⟩ := own_cut OWN.out
        have HST := hide stk'
        have HF := hide hf
        have OW' := hide own'
        have hkY : k < Y.length := by
          have h3 := congrArg List.length HDR.out
          simp [dir] at h3
          omega
        have h5 : (k1, v1) :: (dir 0 F ++ A') = Y.drop k := HDR.out
        rw [List.drop_eq_getElem_cons hkY] at h5
        injection h5 with h6 hrest
        have hYk : Y[k] = (k1, v1) := h6.symm
        obtain ⟨hwm, hm1, hm2⟩ := cut_facts hcap hmax
        have HRE := hide hrest
        have HKY := hide hkY
        have YL := HY.out k wr.drew (HJ.out _ _ _ HJK.out (.of_calm (Touch.refl (fun _ => False) wr).drew)) hkY
        rw [hYk] at YL
        obtain ⟨fn, tmps, assign, body, hy, hR⟩ := YL
        have HR := hide (hR.mono (R' := fun e W' => ∃ r : Bool, e = .returned (.bool r) ∧ Touch S wr.drew W' ∧ ((r = true ∧ J (k + 1) W') ∨ (r = false ∧ Jx (k + 1) W'))) (fun e W' h => by
          rcases h with ⟨h1, ⟨h2, h3⟩ | ⟨h2, h3⟩⟩
          · exact ⟨true, h2, h1, .inl ⟨rfl, h3⟩⟩
          · exact ⟨false, h2, h1, .inr ⟨rfl, h3⟩⟩))
        have HG := hide hg
        have HMM := hide hmm
        clear hR hmax hcap hg hmm
        obtain ⟨nb, hb⟩ := hn
        have HB := hide hb
        obtain ⟨⟨⟨kc0, kc1, kc2, kc3, kc4⟩, kc5, kc6, kc7, kc8⟩, ⟨⟨vc0, vc1, vc2, vc3, vc4⟩, vc5, vc6, vc7, vc8⟩, -, c3, c4⟩ := cells21 (hno hb)
        clear h1 hno own' hf stk' hrest hkY hYk hb h6
        gi_wp2
        gi_region_with (refine ⟨fun h => (nomatch h), HR.out.mono ?_⟩; rintro e W3 ⟨r, rfl, t3, hr3⟩)
        all_goals
          have T3 : Hid (Touch (fun g => S g ∨ W0.heap.size ≤ g) W0 W3) := hide ((HT.out.drew).trans t3 (fun _ _ hs => .inl hs))
          have OW3 := hide (own_touch (OW'.out.touchD) t3 (fun g' hg' hs => by
            have h1 := (own_block OW'.out hg').1
            have h2 := (HS.out g' hs).1
            omega))
          clear kc0 kc1 kc2 kc3 kc4 kc5 kc6 kc7 kc8 vc0 vc1 vc2 vc3 vc4 vc5 vc6 vc7 vc8 c3 c4 cg hy HR t3
          obtain ⟨-, -, -, d3, d4⟩ := cells21 (show W3.heap[b]? = _ from T3.out.heap HB.out (fun hs => by
            rcases hs with hs | hs
            · exact (HS.out b hs).2 _ _ HB.out
            · have := lt_of_heap HB.out; omega))
          rcases hr3 with ⟨rfl, hJ3⟩ | ⟨rfl, hJx3⟩
          · have NX : Hid (Tl S J W0 0 Y (M - 1) (.slice (some ⟨g, 0, none⟩) m cap) (.pointer q1) W3) := hide (by
              refine ⟨k + 1, _, _, _, vs', q1, F, A', rfl, rfl, HF.out, OW3.out, HST.out, HRE.out, HKY.out, hJ3, T3.out, ?_⟩
              have h3 := HMU.out
              have h4 := HST.out.len
              have h5 := OW'.out.1
              simp [dir] at h3 ⊢
              omega)
            have HMP : Hid (M - 1 < M) := hide (by
              have h3 := HMU.out
              have h4 := HST.out.len
              have h5 := OW'.out.1
              simp [dir] at h3
              omega)
            clear hJ3
            gi_wp2
            go_roundw
            case rel => exact ⟨_, NX.out⟩
            case measure =>
              rw [HMM.out]
              exact Nat.lt_of_le_of_lt ((least_spec ⟨_, NX.out⟩).2 _ NX.out) HMP.out
          · have HX := hide hJx3
            clear hJx3
            gi_wp2
            rw [Exit.noGoto_normal]
            go_end0
            exact ⟨⟨_, rfl⟩, .inr ⟨k + 1, HKY.out, HX.out⟩⟩

set_option maxRecDepth 100000 in
set_option maxHeartbeats 2000000 in
theorem tell1_in (n l : Nat) (S : Nat → Prop) (J Jx : Nat → World → Prop) (W0 : World) (hS : ∀ k, S k → k < W0.heap.size ∧ ∀ cs fr, W0.heap[k]? ≠ some (.cells cs 133 fr)) (hJ : ∀ k W1 W2, J k W1 → Sly 110 W0.heap.size W1 W2 → J k W2) (Y : List (Pn × Pn))
    (hY : ∀ k W1, J k W1 → (hk : k < Y.length) → YieldAt Fence.wide (n - 1) Tryz.prog l #[pnv (Y[k].1), pnv (Y[k].2)] W1 fun e W' => Touch S W1 W' ∧ ((e = .returned (.bool true) ∧ J (k + 1) W') ∨ (e = .returned (.bool false) ∧ Jx (k + 1) W')))
    (few : Few Y.length) (ao : Option Addr) (nn cap : Nat) (vs : List Value) (W1 : World) (own : W1.ownsRow W0.heap.size 110 1 (.slice ao nn cap) nn vs) (stk : Stk W0 1 vs Y) (hT : Calm W0 W1) (h0 : J 0 W1) :
    CallsIn Fence.wide n Tryz.prog 66 #[.slice ao nn cap, .int .i64 1, .func (.yield l) #[] #[]] W1 fun e W' => (∃ v, e = .returned v) ∧ (J Y.length W' ∨ ∃ k, k ≤ Y.length ∧ Jx k W') := by
  obtain ⟨i1, hj, hy0, hy1, hy2⟩ := info_parts2 infoPtr
  have HS := hide hS
  have HJ := hide hJ
  have HY := hide hY
  have FEW := hide few
  have ST : Hid (Tl S J W0 1 Y (2 * Y.length - nn) (.slice ao nn cap) (.pointer none) W1) := hide ⟨0, ao, nn, cap, vs, none, [], Y, rfl, rfl, .nil, own, stk, by simp [dir], Nat.zero_le _, h0, hT.mono (fun _ _ h => h.elim), by
    have h1 := stk.len
    have h2 := own.1
    simp; omega⟩
  clear hS hJ hY few own stk hT h0
  refine callsIn_of_wp Tryz.func66 rfl trivial ?_ rfl
  simp only [Tryz.ntmps66, List.size_toArray, List.length_cons, List.length_nil, Nat.reduceAdd, Nat.reduceSub, Array.replicate_succ, Array.replicate_zero, List.push_toArray, List.append_toArray, List.nil_append, List.cons_append]
  gi_wp2
  refine wpIn_scope_straight ?_
  gi_wp2
  refine wpIn_label ?_
  gi_wp2
  gi_loopw [0, 6] (fun i j wr => ∃ mu, Tl S J W0 1 Y mu i j wr) (fun i j wr => least (fun mu => Tl S J W0 1 Y mu i j wr))
  case atStart => exact ⟨_, ST.out⟩
  case round =>
    obtain ⟨hls, hlm⟩ := least_spec hrel
    obtain ⟨k, ao, n', cap, vs, o, Z, A, rfl, rfl, htl, own, stk, hdr, hk, hJ, ht, hmu⟩ := hls
    have HLM := hide hlm
    have HDR := hide hdr
    have HK := hide hk
    have HT := hide ht
    have HMU := hide hmu
    have OWN := hide own
    have STK := hide stk
    have HJK := hide hJ
    clear hlm hdr hk ht hmu own stk hJ ST hrel
    generalize hmm : least (fun mu => Tl S J W0 1 Y mu (.slice ao n' cap) (.pointer o) wr) = M at *
    have hno : ∀ {b : Nat} {cs : Array Value}, W0.heap[b]? = some (.cells cs 133 (0, 0)) → wr.heap[b]? = some (.cells cs 133 (0, 0)) := fun {b cs} h => HT.out.heap h (fun hs => by
      rcases hs with hs | hs
      · exact (HS.out b hs).2 _ _ h
      · have := lt_of_heap h; omega)
    cases htl with
    | @node b k1 v1 p1 q1 L R hb g1 g2 =>
      have G1 := hide g1
      have G2 := hide g2
      have HB := hide hb
      have hx1 : Hid (n' + 1 ≤ 8796093022208 + 1) := hide (by
        have h1 := STK.out.len
        have h2 := OWN.out.1
        have h3 := congrArg List.length HDR.out
        have h6 := FEW.out.le
        simp only [List.length_append, List.length_drop] at h3
        omega)
      have hx2 : Hid (n' + 1 ≤ maxLen) := hide (by have := hx1.out; unfold maxLen; omega)
      have hx3 : Hid ((n' + 1) * 8 ≤ 140737488355328) := hide (by have := hx1.out; omega)
      have OW2 : Hid ((wr.alloc (.cells #[.pointer (some ⟨b, 0, none⟩)] 110)).ownsRow W0.heap.size 110 1 (.slice ao n' cap) n' vs) := hide (own_touch OWN.out ((Touch.refl (fun _ => False) wr).alloc _) (fun _ _ h => h))
      have TZ := hide ((Touch.refl (fun _ => False) wr).alloc (.cells #[.pointer (some ⟨b, 0, none⟩)] 110))
      have BZ : Hid (W0.heap.size ≤ (wr.alloc (.cells #[.pointer (some ⟨b, 0, none⟩)] 110)).heap.size) := hide (Nat.le_trans HT.out.size TZ.out.size)
      have HNO := hide (hno hb)
      clear hno g1 g2 hb
      refine wpIn_wide.2 ?_
      go_wp2_with (at_builtin; refine wpList_append_sep _ rfl (.tmp 40) (.tmp 42) 119 rfl W0.heap.size 110 i1 (.pointer none) 1 8 Tryz.underlying119 hj hy0 hy1 hy2 rfl (by decide) _ n' vs rfl OW2.out ⟨wr.heap.size, 0, none⟩ 1 1 [.pointer (some ⟨b, 0, none⟩)] rfl rfl (new_cells1 wr _ _) (one_cells1 rfl) hx2.out hx3.out BZ.out (by omega) ?ny)
      case ny =>
        intro ao3 c3 w3 own3 t3 _
        have SL : Hid (Sly 110 W0.heap.size wr w3) := hide ((Touch.mono TZ.out (fun _ _ h => h.elim)).trans t3 (fun g' hg' hs => by
          obtain ⟨h1, cur, h2⟩ := own_block OWN.out hs
          exact ⟨h1, cur, _, h2⟩))
        obtain ⟨-, -, -, d3, d4⟩ := cells21 (SL.out.at HNO.out (by decide))
        have OW3 := hide own3
        clear own3 t3
        have NX : Hid (Tl S J W0 1 Y (M - 1) (.slice ao3 (n' + 1) c3) (.pointer q1) w3) := hide (by
          refine ⟨k, _, _, _, _, q1, R, (k1, v1) :: dir 1 L ++ A, rfl, rfl, G2.out, OW3.out, .push (s := 1) ⟨_, HB.out⟩ G1.out STK.out, ?_, HK.out, HJ.out _ _ _ HJK.out SL.out, HT.out.trans SL.out (fun g' _ hs => .inr hs.1), ?_⟩
          · rw [← HDR.out]; simp [dir]
          · have h1 := STK.out.len
            have h2 := OWN.out.1
            have h3 := HMU.out
            simp [dir] at h3 ⊢
            omega)
        have HMP : Hid (M - 1 < M) := hide (by
          have h1 := STK.out.len
          have h2 := OWN.out.1
          have h3 := HMU.out
          simp at h3
          omega)
        go_wp2_with fail
        go_roundw
        case rel => exact ⟨_, NX.out⟩
        case measure =>
          rw [hmm]
          exact Nat.lt_of_le_of_lt ((least_spec ⟨_, NX.out⟩).2 _ NX.out) HMP.out
    | nil =>
      rcases STK.out.inv with ⟨hvs, hA⟩ | ⟨b, k1, v1, p1, q1, F, A', vs', hvs, hA, hn, hf, stk'⟩
      · have h1 := OWN.out.1
        subst hvs hA
        have hn0 : n' = 0 := by simpa using h1.symm
        subst hn0
        have HKY : Hid (k = Y.length) := hide (by
          have h3 := HDR.out
          simp [dir] at h3
          have := HK.out
          omega)
        clear h1 hno hmm
        refine wpIn_wide.2 ?_
        go_wp2_with fail
        rw [Exit.noGoto_normal]
        go_end0
        exact ⟨⟨_, rfl⟩, .inl (by have h := HJK.out; rw [HKY.out] at h; exact h)⟩
      · have h1 := OWN.out.1
        subst hvs hA
        obtain ⟨m, rfl⟩ : ∃ m, n' = m + 1 := ⟨n' - 1, by simp at h1; omega⟩
        obtain ⟨g, rfl, hg, hcap, hmax, cg, own'⟩ := own_cut OWN.out
        have HST := hide stk'
        have HF := hide hf
        have OW' := hide own'
        have hkY : k < Y.length := by
          have h3 := congrArg List.length HDR.out
          simp [dir] at h3
          omega
        have h5 : (k1, v1) :: (dir 1 F ++ A') = Y.drop k := HDR.out
        rw [List.drop_eq_getElem_cons hkY] at h5
        injection h5 with h6 hrest
        have hYk : Y[k] = (k1, v1) := h6.symm
        obtain ⟨hwm, hm1, hm2⟩ := cut_facts hcap hmax
        have HRE := hide hrest
        have HKY := hide hkY
        have YL := HY.out k wr.drew (HJ.out _ _ _ HJK.out (.of_calm (Touch.refl (fun _ => False) wr).drew)) hkY
        rw [hYk] at YL
        obtain ⟨fn, tmps, assign, body, hy, hR⟩ := YL
        have HR := hide (hR.mono (R' := fun e W' => ∃ r : Bool, e = .returned (.bool r) ∧ Touch S wr.drew W' ∧ ((r = true ∧ J (k + 1) W') ∨ (r = false ∧ Jx (k + 1) W'))) (fun e W' h => by
          rcases h with ⟨h1, ⟨h2, h3⟩ | ⟨h2, h3⟩⟩
          · exact ⟨true, h2, h1, .inl ⟨rfl, h3⟩⟩
          · exact ⟨false, h2, h1, .inr ⟨rfl, h3⟩⟩))
        have HG := hide hg
        have HMM := hide hmm
        clear hR hmax hcap hg hmm
        obtain ⟨nb, hb⟩ := hn
        have HB := hide hb
        obtain ⟨⟨⟨kc0, kc1, kc2, kc3, kc4⟩, kc5, kc6, kc7, kc8⟩, ⟨⟨vc0, vc1, vc2, vc3, vc4⟩, vc5, vc6, vc7, vc8⟩, -, c3, c4⟩ := cells21 (hno hb)
        clear h1 hno own' hf stk' hrest hkY hYk hb h6
        gi_wp2
        gi_region_with (refine ⟨fun h => (nomatch h), HR.out.mono ?_⟩; rintro e W3 ⟨r, rfl, t3, hr3⟩)
        all_goals
          have T3 : Hid (Touch (fun g => S g ∨ W0.heap.size ≤ g) W0 W3) := hide ((HT.out.drew).trans t3 (fun _ _ hs => .inl hs))
          have OW3 := hide (own_touch (OW'.out.touchD) t3 (fun g' hg' hs => by
            have h1 := (own_block OW'.out hg').1
            have h2 := (HS.out g' hs).1
            omega))
          clear kc0 kc1 kc2 kc3 kc4 kc5 kc6 kc7 kc8 vc0 vc1 vc2 vc3 vc4 vc5 vc6 vc7 vc8 c3 c4 cg hy HR t3
          obtain ⟨-, -, -, d3, d4⟩ := cells21 (show W3.heap[b]? = _ from T3.out.heap HB.out (fun hs => by
            rcases hs with hs | hs
            · exact (HS.out b hs).2 _ _ HB.out
            · have := lt_of_heap HB.out; omega))
          rcases hr3 with ⟨rfl, hJ3⟩ | ⟨rfl, hJx3⟩
          · have NX : Hid (Tl S J W0 1 Y (M - 1) (.slice (some ⟨g, 0, none⟩) m cap) (.pointer p1) W3) := hide (by
              refine ⟨k + 1, _, _, _, vs', p1, F, A', rfl, rfl, HF.out, OW3.out, HST.out, HRE.out, HKY.out, hJ3, T3.out, ?_⟩
              have h3 := HMU.out
              have h4 := HST.out.len
              have h5 := OW'.out.1
              simp [dir] at h3 ⊢
              omega)
            have HMP : Hid (M - 1 < M) := hide (by
              have h3 := HMU.out
              have h4 := HST.out.len
              have h5 := OW'.out.1
              simp [dir] at h3
              omega)
            clear hJ3
            gi_wp2
            go_roundw
            case rel => exact ⟨_, NX.out⟩
            case measure =>
              rw [HMM.out]
              exact Nat.lt_of_le_of_lt ((least_spec ⟨_, NX.out⟩).2 _ NX.out) HMP.out
          · have HX := hide hJx3
            clear hJx3
            gi_wp2
            rw [Exit.noGoto_normal]
            go_end0
            exact ⟨⟨_, rfl⟩, .inr ⟨k + 1, HKY.out, HX.out⟩⟩

end Go.Proofs.YtamfcmmhmfhhkaaGreatDoor.PM

namespace Go.Proofs.YtamfcmmhmfhhkaaGreatDoor.PM
open Go.RowKit

/-- The kinds of walks. -/
inductive Kd where
  | all

def Kd.sd : Kd → Nat
  | .all => 0

def Kd.g (_ : Pn → Pn → Int) : Kd → Pn → Bool
  | .all, _ => true

/-- What it tells. -/
def Kd.list (c : Pn → Pn → Int) (kd : Kd) (X : List (Pn × Pn)) : List (Pn × Pn) := (dir kd.sd X).filter fun a => kd.g c a.1

/-- The function that tells whether a key is within, and what it holds. -/
def Kd.fn : Kd → Nat
  | .all => 44

def Kd.held (_ : World) (_ : Option Addr) (lb : Array Value) : Kd → Prop
  | .all => lb = #[]

theorem Kd.held_calm {w w' : World} {mp : Option Addr} {lb : Array Value} {kd : Kd} (h : kd.held w mp lb) (_ : Calm w w') : kd.held w' mp lb := by
  cases kd with
  | all => exact h

set_option maxRecDepth 100000 in
theorem all1_any (a : Pn) (w : World) : Calls Tryz.prog 44 #[pnv a] w fun e w' => e = .returned (.bool true) ∧ Calm w w' := by
  have T := hide ((Touch.refl (fun _ => False) w).alloc (.cells (pnc a) 40))
  go_enter Tryz.func44, Tryz.ntmps44
  go_wp2_with fail
  go_ret
  exact ⟨rfl, T.out⟩

theorem Kd.wi {f : Nat} {lb : Array Value} {c : Pn → Pn → Int} {Y : World → Prop} (hC : Cmp f lb c Y) (m : Nat) (kd : Kd) (lb2 : Array Value) : Wi kd.fn lb2 (kd.g c) (fun W => kd.held W (some ⟨m, 0, none⟩) lb2 ∧ Y W ∧ ∃ ro, Mp W m f lb ro) where
  enter := by
    intro args w
    cases kd <;> simp only [Kd.fn] <;> kernel_rfl
  calls := by
    rintro a w ⟨h, hY, ro, hm⟩
    cases kd with
    | all =>
      obtain rfl : lb2 = #[] := h
      exact all1_any a w
  calm := by
    rintro w w' ⟨h, hY, ro, hm⟩ ht
    exact ⟨Kd.held_calm h ht, hC.calm _ _ hY ht, ro, ht.at hm⟩

end Go.Proofs.YtamfcmmhmfhhkaaGreatDoor.PM

namespace Go.Proofs.YtamfcmmhmfhhkaaGreatDoor.PM
open Go.RowKit

/-- A walk, with what it holds. -/
def Wl (w : World) (fv : Value) (mp : Option Addr) (kd : Kd) : Prop :=
  ∃ B1 B2 B3 lb2, fv = .func (.func 65) #[] #[.pointer (some ⟨B1, 0, none⟩), .pointer (some ⟨B2, 0, none⟩), .pointer (some ⟨B3, 0, none⟩)] ∧
    w.heap[B1]? = some (.cells #[.pointer mp] 55 (0, 0)) ∧ w.heap[B2]? = some (.cells #[.int .i64 (kd.sd : Nat)] 3 (0, 0)) ∧
    w.heap[B3]? = some (.cells #[.func (.func kd.fn) #[] lb2] 63 (0, 0)) ∧ kd.held w mp lb2

theorem Wl.calm {w w' : World} {fv : Value} {mp : Option Addr} {kd : Kd} (h : Wl w fv mp kd) (ht : Calm w w') : Wl w' fv mp kd := by
  obtain ⟨B1, B2, B3, lb2, e, h1, h2, h3, h4⟩ := h
  exact ⟨B1, B2, B3, lb2, e, ht.at h1, ht.at h2, ht.at h3, Kd.held_calm h4 ht⟩

theorem Mon.of_dec {c : Pn → Pn → Int} {X : List (Pn × Pn)} (_ : ∀ key, Dec (c key) X) (kd : Kd) : Mon (kd.g c) (dir kd.sd X) := by
  cases kd with
  | all => exact List.pairwise_of_forall fun _ _ _ => rfl

theorem walk_low {c : Pn → Pn → Int} {X : List (Pn × Pn)} (kd : Kd) : (kd.list c X).length ≤ X.length := by
  unfold Kd.list
  refine Nat.le_trans (List.length_filter_le _ _) ?_
  unfold dir
  split <;> simp

/-- What a walk hands over. -/
def encs (x : Pn × Pn) : Array Value := #[pnv (x.1), pnv (x.2)]

set_option maxRecDepth 100000 in
set_option maxHeartbeats 2000000 in
theorem walk0_go {f : Nat} {lb : Array Value} {c : Pn → Pn → Int} {Y : World → Prop} (hC : Cmp f lb c Y) (m : Nat) (kd : Kd) (hkd : kd.sd = 0) (B1 B2 B3 : Nat) (lb2 : Array Value) (X : List (Pn × Pn)) (hX : ∀ key, Dec (c key) X) (few : Few X.length)
    (n l : Nat) (S : Nat → Prop) (J Jx : Nat → World → Prop) (W : World) (h1 : W.heap[B1]? = some (.cells #[.pointer (some ⟨m, 0, none⟩)] 55 (0, 0))) (h2 : W.heap[B2]? = some (.cells #[.int .i64 0] 3 (0, 0)))
    (h3 : W.heap[B3]? = some (.cells #[.func (.func kd.fn) #[] lb2] 63 (0, 0))) (h4 : kd.held W (some ⟨m, 0, none⟩) lb2) (hM : Mt W m f lb X) (hYW : Y W)
    (hS : ∀ k, S k → k < W.heap.size ∧ ∀ cs fr, W.heap[k]? ≠ some (.cells cs 133 fr)) (hJ : ∀ k W1 W2, J k W1 → Sly 110 W.heap.size W1 W2 → J k W2)
    (hY : ∀ k x W1, J k W1 → k < (kd.list c X).length → (kd.list c X)[k]? = some x → YieldAt Fence.wide (n - 1) Tryz.prog l (encs x) W1 fun e W' => Touch S W1 W' ∧ ((e = .returned (.bool true) ∧ J (k + 1) W') ∨ (e = .returned (.bool false) ∧ Jx (k + 1) W')))
    (h0 : J 0 W) : Calls Tryz.prog 65 #[.func (.yield l) #[] #[], .pointer (some ⟨B1, 0, none⟩), .pointer (some ⟨B2, 0, none⟩), .pointer (some ⟨B3, 0, none⟩)] W
      fun e W' => (∃ v, e = .returned v) ∧ (J (kd.list c X).length W' ∨ ∃ k, k ≤ (kd.list c X).length ∧ Jx k W') := by
  obtain ⟨ro, hm, htl⟩ := hM
  have TH := hide (there_any W m f lb ro hm)
  have mon := Mon.of_dec hX kd
  have hlist : kd.list c X = (dir 0 X).filter fun a => kd.g c a.1 := by unfold Kd.list; rw [hkd]
  rw [hkd] at mon
  have WA := hide (fun W' (h : Calm W W') => way0_any (Kd.wi hC m kd lb2) W' ro X (htl.calm h) ⟨Kd.held_calm h4 h, hC.calm _ _ hYW h, ro, h.at hm⟩ mon few)
  have TE := hide (fun (W0 W' : World) (ao : Option Addr) (nn cap : Nat) (vs : List Value) (h : Calm W W0) (own : W'.ownsRow W0.heap.size 110 1 (.slice ao nn cap) nn vs) (stk : Stk W0 0 vs (kd.list c X)) (hT : Calm W0 W') =>
    callsIn_wide.1 (tell0_in n l S J Jx W0 (fun k hk => by
        obtain ⟨g1, g2⟩ := hS k hk
        refine ⟨Nat.lt_of_lt_of_le g1 h.size, fun cs fr he => g2 cs fr ?_⟩
        rw [← h.block k g1 (fun h => h)]; exact he) (fun k W1 W2 hj hs => hJ k W1 W2 hj (hs.weak h.size)) (kd.list c X)
      (fun k W1 hj hk => hY k _ W1 hj hk (List.getElem?_eq_getElem hk)) ⟨Nat.le_trans (walk_low kd) few.le⟩ ao nn cap vs W' own stk hT (hJ 0 _ _ h0 (.of_calm (h.tr hT)))))
  rw [hlist] at TE ⊢
  have H1 := hide h1
  have H2 := hide h2
  have H3 := hide h3
  have HM := hide hm
  have c1 := (one_cell h1).1
  generalize (dir 0 X).filter (fun a => kd.g c a.1) = Yl at *
  generalize kd.fn = kf at *
  clear h1 h2 h3 h4 hm htl hX few hS hJ hY h0 mon hYW hC hlist hkd
  go_enter Tryz.func65, Tryz.ntmps65
  go_wp2_with fail
  refine TH.out.mono ?_
  rintro e w' ⟨rfl, hq⟩
  obtain rfl := hq.symm
  clear hq TH
  clear c1
  go_wp2_with fail
  refine wp_region_z 9 (Calm W) (by kernel_rfl) ?_
  have hT0 : Calm W { W with drawn := W.drawn + 1 } := (Touch.refl (fun _ => False) W).drew
  refine wpAnyZ_yield 0 7 (.pointer (some ⟨m, 0, none⟩)) [1, 2, 3, 6, 9] rfl rfl (by kernel_rfl) (by kernel_rfl) (by kernel_rfl) (by kernel_rfl) (by kernel_rfl) (fun _ _ _ h => h) (by kernel_rfl) (fun W hW => by have c0 := (one_cell (hW.at H1.out)).1; go_simp) (by assumption) rfl rfl ?_
  simp only [Act.put, List.setIfInBounds_toArray, List.set_cons_zero, List.set_cons_succ]
  refine wpAnyZ_yield 1 8 (.pointer (some ⟨m, 0, none⟩)) [2, 3, 6, 9] rfl rfl (by kernel_rfl) (by kernel_rfl) (by kernel_rfl) (by kernel_rfl) (by kernel_rfl) (fun _ _ _ h => h) (by kernel_rfl) (fun W hW => by kernel_rfl) (by assumption) rfl rfl ?_
  simp only [Act.put, List.setIfInBounds_toArray, List.set_cons_zero, List.set_cons_succ]
  refine wpAnyZ_yield 2 9 (.pointer (some ⟨m, 1, none⟩)) [3, 6, 9] rfl rfl (by kernel_rfl) (by kernel_rfl) (by kernel_rfl) (by kernel_rfl) (by kernel_rfl) (fun _ _ _ h => h) (by kernel_rfl) (fun W hW => by go_simp) (by assumption) rfl rfl ?_
  simp only [Act.put, List.setIfInBounds_toArray, List.set_cons_zero, List.set_cons_succ]
  refine wpAnyZ_yield 3 10 (.pointer ro) [6, 9] rfl rfl (by kernel_rfl) (by kernel_rfl) (by kernel_rfl) (by kernel_rfl) (by kernel_rfl) (fun _ _ _ h => h) (by kernel_rfl) (fun W hW => by obtain ⟨c0, c1⟩ := cells2 (hW.at HM.out); go_simp) (by assumption) rfl rfl ?_
  simp only [Act.put, List.setIfInBounds_toArray, List.set_cons_zero, List.set_cons_succ]
  refine wpAnyZ_yield 4 11 (.int .i64 0) [6, 9] rfl rfl (by kernel_rfl) (by kernel_rfl) (by kernel_rfl) (by kernel_rfl) (by kernel_rfl) (fun _ _ _ h => h) (by kernel_rfl) (fun W hW => by have c0 := (one_cell (hW.at H2.out)).1; go_simp) (by assumption) rfl rfl ?_
  simp only [Act.put, List.setIfInBounds_toArray, List.set_cons_zero, List.set_cons_succ]
  refine wpAnyZ_yield 5 12 (.func (.func kf) #[] lb2) [6, 9] rfl rfl (by kernel_rfl) (by kernel_rfl) (by kernel_rfl) (by kernel_rfl) (by kernel_rfl) (fun _ _ _ h => h) (by kernel_rfl) (fun W hW => by have c0 := (one_cell (hW.at H3.out)).1; go_simp) (by assumption) rfl rfl ?_
  simp only [Act.put, List.setIfInBounds_toArray, List.set_cons_zero, List.set_cons_succ]
  refine wpAnyZ_yield 7 14 (.int .i64 0) [9] rfl rfl (by kernel_rfl) (by kernel_rfl) (by kernel_rfl) (by kernel_rfl) (by kernel_rfl) (fun _ _ _ h => h) (by kernel_rfl) (fun W hW => by have c0 := (one_cell (hW.at H2.out)).1; go_simp) (by assumption) rfl rfl ?_
  simp only [Act.put, List.setIfInBounds_toArray, List.set_cons_zero, List.set_cons_succ]
  refine wpAnyZ_yield 8 15 (.func (.yield l) #[] #[]) [9] rfl rfl (by kernel_rfl) (by kernel_rfl) (by kernel_rfl) (by kernel_rfl) (by kernel_rfl) (fun _ _ _ h => h) (by kernel_rfl) (fun W hW => by kernel_rfl) (by assumption) rfl rfl ?_
  simp only [Act.put, List.setIfInBounds_toArray, List.set_cons_zero, List.set_cons_succ]
  refine wpAnyZ_enter 6 13 67 #[.pointer ro, .int .i64 0, .func (.func kf) #[] lb2] rfl rfl (by decide) (by kernel_rfl) (by kernel_rfl) (by kernel_rfl) ?_
  refine (WA.out _ hT0).mono ?_
  rintro e w2 ⟨ao, nn, cap, vs, rfl, own2, stk2, t2⟩
  refine ⟨_, rfl, hT0.tr t2, ?_⟩
  simp only [Act.put, List.setIfInBounds_toArray, List.set_cons_zero, List.set_cons_succ]
  refine wpAnyZ_last 16 66 #[.slice ao nn cap, .int .i64 0, .func (.yield l) #[] #[]] rfl rfl (by kernel_rfl) (by kernel_rfl) (by kernel_rfl) (by kernel_rfl) ?_
  refine (TE.out _ w2 ao nn cap vs hT0 own2 stk2 t2).mono ?_
  rintro e w3 ⟨⟨v, rfl⟩, hp⟩
  refine ⟨v, rfl, ?_⟩
  have HP := hide hp
  clear hp own2 stk2 t2 hT0
  simp only [Act.put, List.setIfInBounds_toArray, List.set_cons_zero, List.set_cons_succ]
  go_wp2_with fail
  go_end0
  exact ⟨⟨_, rfl⟩, HP.out⟩

set_option maxRecDepth 100000 in
set_option maxHeartbeats 2000000 in
theorem walk1_go {f : Nat} {lb : Array Value} {c : Pn → Pn → Int} {Y : World → Prop} (hC : Cmp f lb c Y) (m : Nat) (kd : Kd) (hkd : kd.sd = 1) (B1 B2 B3 : Nat) (lb2 : Array Value) (X : List (Pn × Pn)) (hX : ∀ key, Dec (c key) X) (few : Few X.length)
    (n l : Nat) (S : Nat → Prop) (J Jx : Nat → World → Prop) (W : World) (h1 : W.heap[B1]? = some (.cells #[.pointer (some ⟨m, 0, none⟩)] 55 (0, 0))) (h2 : W.heap[B2]? = some (.cells #[.int .i64 1] 3 (0, 0)))
    (h3 : W.heap[B3]? = some (.cells #[.func (.func kd.fn) #[] lb2] 63 (0, 0))) (h4 : kd.held W (some ⟨m, 0, none⟩) lb2) (hM : Mt W m f lb X) (hYW : Y W)
    (hS : ∀ k, S k → k < W.heap.size ∧ ∀ cs fr, W.heap[k]? ≠ some (.cells cs 133 fr)) (hJ : ∀ k W1 W2, J k W1 → Sly 110 W.heap.size W1 W2 → J k W2)
    (hY : ∀ k x W1, J k W1 → k < (kd.list c X).length → (kd.list c X)[k]? = some x → YieldAt Fence.wide (n - 1) Tryz.prog l (encs x) W1 fun e W' => Touch S W1 W' ∧ ((e = .returned (.bool true) ∧ J (k + 1) W') ∨ (e = .returned (.bool false) ∧ Jx (k + 1) W')))
    (h0 : J 0 W) : Calls Tryz.prog 65 #[.func (.yield l) #[] #[], .pointer (some ⟨B1, 0, none⟩), .pointer (some ⟨B2, 0, none⟩), .pointer (some ⟨B3, 0, none⟩)] W
      fun e W' => (∃ v, e = .returned v) ∧ (J (kd.list c X).length W' ∨ ∃ k, k ≤ (kd.list c X).length ∧ Jx k W') := by
  obtain ⟨ro, hm, htl⟩ := hM
  have TH := hide (there_any W m f lb ro hm)
  have mon := Mon.of_dec hX kd
  have hlist : kd.list c X = (dir 1 X).filter fun a => kd.g c a.1 := by unfold Kd.list; rw [hkd]
  rw [hkd] at mon
  have WA := hide (fun W' (h : Calm W W') => way1_any (Kd.wi hC m kd lb2) W' ro X (htl.calm h) ⟨Kd.held_calm h4 h, hC.calm _ _ hYW h, ro, h.at hm⟩ mon few)
  have TE := hide (fun (W0 W' : World) (ao : Option Addr) (nn cap : Nat) (vs : List Value) (h : Calm W W0) (own : W'.ownsRow W0.heap.size 110 1 (.slice ao nn cap) nn vs) (stk : Stk W0 1 vs (kd.list c X)) (hT : Calm W0 W') =>
    callsIn_wide.1 (tell1_in n l S J Jx W0 (fun k hk => by
        obtain ⟨g1, g2⟩ := hS k hk
        refine ⟨Nat.lt_of_lt_of_le g1 h.size, fun cs fr he => g2 cs fr ?_⟩
        rw [← h.block k g1 (fun h => h)]; exact he) (fun k W1 W2 hj hs => hJ k W1 W2 hj (hs.weak h.size)) (kd.list c X)
      (fun k W1 hj hk => hY k _ W1 hj hk (List.getElem?_eq_getElem hk)) ⟨Nat.le_trans (walk_low kd) few.le⟩ ao nn cap vs W' own stk hT (hJ 0 _ _ h0 (.of_calm (h.tr hT)))))
  rw [hlist] at TE ⊢
  have H1 := hide h1
  have H2 := hide h2
  have H3 := hide h3
  have HM := hide hm
  have c1 := (one_cell h1).1
  generalize (dir 1 X).filter (fun a => kd.g c a.1) = Yl at *
  generalize kd.fn = kf at *
  clear h1 h2 h3 h4 hm htl hX few hS hJ hY h0 mon hYW hC hlist hkd
  go_enter Tryz.func65, Tryz.ntmps65
  go_wp2_with fail
  refine TH.out.mono ?_
  rintro e w' ⟨rfl, hq⟩
  obtain rfl := hq.symm
  clear hq TH
  clear c1
  go_wp2_with fail
  refine wp_region_z 9 (Calm W) (by kernel_rfl) ?_
  have hT0 : Calm W { W with drawn := W.drawn + 1 } := (Touch.refl (fun _ => False) W).drew
  refine wpAnyZ_yield 0 7 (.pointer (some ⟨m, 0, none⟩)) [1, 2, 3, 6, 9] rfl rfl (by kernel_rfl) (by kernel_rfl) (by kernel_rfl) (by kernel_rfl) (by kernel_rfl) (fun _ _ _ h => h) (by kernel_rfl) (fun W hW => by have c0 := (one_cell (hW.at H1.out)).1; go_simp) (by assumption) rfl rfl ?_
  simp only [Act.put, List.setIfInBounds_toArray, List.set_cons_zero, List.set_cons_succ]
  refine wpAnyZ_yield 1 8 (.pointer (some ⟨m, 0, none⟩)) [2, 3, 6, 9] rfl rfl (by kernel_rfl) (by kernel_rfl) (by kernel_rfl) (by kernel_rfl) (by kernel_rfl) (fun _ _ _ h => h) (by kernel_rfl) (fun W hW => by kernel_rfl) (by assumption) rfl rfl ?_
  simp only [Act.put, List.setIfInBounds_toArray, List.set_cons_zero, List.set_cons_succ]
  refine wpAnyZ_yield 2 9 (.pointer (some ⟨m, 1, none⟩)) [3, 6, 9] rfl rfl (by kernel_rfl) (by kernel_rfl) (by kernel_rfl) (by kernel_rfl) (by kernel_rfl) (fun _ _ _ h => h) (by kernel_rfl) (fun W hW => by go_simp) (by assumption) rfl rfl ?_
  simp only [Act.put, List.setIfInBounds_toArray, List.set_cons_zero, List.set_cons_succ]
  refine wpAnyZ_yield 3 10 (.pointer ro) [6, 9] rfl rfl (by kernel_rfl) (by kernel_rfl) (by kernel_rfl) (by kernel_rfl) (by kernel_rfl) (fun _ _ _ h => h) (by kernel_rfl) (fun W hW => by obtain ⟨c0, c1⟩ := cells2 (hW.at HM.out); go_simp) (by assumption) rfl rfl ?_
  simp only [Act.put, List.setIfInBounds_toArray, List.set_cons_zero, List.set_cons_succ]
  refine wpAnyZ_yield 4 11 (.int .i64 1) [6, 9] rfl rfl (by kernel_rfl) (by kernel_rfl) (by kernel_rfl) (by kernel_rfl) (by kernel_rfl) (fun _ _ _ h => h) (by kernel_rfl) (fun W hW => by have c0 := (one_cell (hW.at H2.out)).1; go_simp) (by assumption) rfl rfl ?_
  simp only [Act.put, List.setIfInBounds_toArray, List.set_cons_zero, List.set_cons_succ]
  refine wpAnyZ_yield 5 12 (.func (.func kf) #[] lb2) [6, 9] rfl rfl (by kernel_rfl) (by kernel_rfl) (by kernel_rfl) (by kernel_rfl) (by kernel_rfl) (fun _ _ _ h => h) (by kernel_rfl) (fun W hW => by have c0 := (one_cell (hW.at H3.out)).1; go_simp) (by assumption) rfl rfl ?_
  simp only [Act.put, List.setIfInBounds_toArray, List.set_cons_zero, List.set_cons_succ]
  refine wpAnyZ_yield 7 14 (.int .i64 1) [9] rfl rfl (by kernel_rfl) (by kernel_rfl) (by kernel_rfl) (by kernel_rfl) (by kernel_rfl) (fun _ _ _ h => h) (by kernel_rfl) (fun W hW => by have c0 := (one_cell (hW.at H2.out)).1; go_simp) (by assumption) rfl rfl ?_
  simp only [Act.put, List.setIfInBounds_toArray, List.set_cons_zero, List.set_cons_succ]
  refine wpAnyZ_yield 8 15 (.func (.yield l) #[] #[]) [9] rfl rfl (by kernel_rfl) (by kernel_rfl) (by kernel_rfl) (by kernel_rfl) (by kernel_rfl) (fun _ _ _ h => h) (by kernel_rfl) (fun W hW => by kernel_rfl) (by assumption) rfl rfl ?_
  simp only [Act.put, List.setIfInBounds_toArray, List.set_cons_zero, List.set_cons_succ]
  refine wpAnyZ_enter 6 13 67 #[.pointer ro, .int .i64 1, .func (.func kf) #[] lb2] rfl rfl (by decide) (by kernel_rfl) (by kernel_rfl) (by kernel_rfl) ?_
  refine (WA.out _ hT0).mono ?_
  rintro e w2 ⟨ao, nn, cap, vs, rfl, own2, stk2, t2⟩
  refine ⟨_, rfl, hT0.tr t2, ?_⟩
  simp only [Act.put, List.setIfInBounds_toArray, List.set_cons_zero, List.set_cons_succ]
  refine wpAnyZ_last 16 66 #[.slice ao nn cap, .int .i64 1, .func (.yield l) #[] #[]] rfl rfl (by kernel_rfl) (by kernel_rfl) (by kernel_rfl) (by kernel_rfl) ?_
  refine (TE.out _ w2 ao nn cap vs hT0 own2 stk2 t2).mono ?_
  rintro e w3 ⟨⟨v, rfl⟩, hp⟩
  refine ⟨v, rfl, ?_⟩
  have HP := hide hp
  clear hp own2 stk2 t2 hT0
  simp only [Act.put, List.setIfInBounds_toArray, List.set_cons_zero, List.set_cons_succ]
  go_wp2_with fail
  go_end0
  exact ⟨⟨_, rfl⟩, HP.out⟩

/-- A walk of a map is an iterator. -/
theorem Wl.seq {f : Nat} {lb : Array Value} {c : Pn → Pn → Int} {Y : World → Prop} (hC : Cmp f lb c Y) (m : Nat) (kd : Kd) (lbv : Array Value) (X : List (Pn × Pn)) (hX : ∀ key, Dec (c key) X) (few : Few X.length) :
    Seq Tryz.prog 110 133 65 lbv encs (kd.list c X).length (fun k x => (kd.list c X)[k]? = some x)
      (fun W => Wl W (.func (.func 65) #[] lbv) (some ⟨m, 0, none⟩) kd ∧ Mt W m f lb X ∧ Y W) := by
  rintro n l S J Jx W ⟨⟨B1, B2, B3, lb2, e, h1, h2, h3, h4⟩, hM, hYW⟩ hS hJ hY h0
  injection e with _ _ e
  subst e
  refine callsIn_wide.2 ?_
  have hs : kd.sd = 0 ∨ kd.sd = 1 := by cases kd <;> simp [Kd.sd]
  rcases hs with hs | hs
  · rw [hs] at h2
    exact walk0_go hC m kd hs B1 B2 B3 lb2 X hX few n l S J Jx W h1 h2 h3 h4 hM hYW hS hJ hY h0
  · rw [hs] at h2
    exact walk1_go hC m kd hs B1 B2 B3 lb2 X hX few n l S J Jx W h1 h2 h3 h4 hM hYW hS hJ hY h0

theorem Wl.shape {w : World} {fv : Value} {mp : Option Addr} {kd : Kd} (h : Wl w fv mp kd) : ∃ lbv, fv = .func (.func 65) #[] lbv := by
  obtain ⟨B1, B2, B3, lb2, e, _⟩ := h
  exact ⟨_, e⟩

/-- A walk of nothing. -/
theorem Wl.none_seq (mp : Option Addr) (kd : Kd) (lbv : Array Value) (A : World → Prop) (hA : ∀ W, A W → Wl W (.func (.func 65) #[] lbv) mp kd ∧ Calls Tryz.prog 63 #[.pointer mp] W fun e w' => e = .returned (.bool false) ∧ w' = W) :
    Seq Tryz.prog 110 133 65 lbv encs 0 (fun _ _ => False) A := by
  rintro n l S J Jx W hAW hS hJ hY h0
  obtain ⟨⟨B1, B2, B3, lb2, e, h1, h2, h3, h4⟩, hT⟩ := hA W hAW
  injection e with _ _ e
  subst e
  refine callsIn_wide.2 ?_
  have TH := hide hT
  have H0 := hide h0
  have c1 := (one_cell h1).1
  clear h1 h2 h3 h4 hS hJ hY h0 hT hA hAW
  show Calls Tryz.prog 65 #[.func (.yield l) #[] #[], .pointer (some ⟨B1, 0, none⟩), .pointer (some ⟨B2, 0, none⟩), .pointer (some ⟨B3, 0, none⟩)] W _
  go_enter Tryz.func65, Tryz.ntmps65
  go_wp2_with fail
  refine TH.out.mono ?_
  rintro e w' ⟨rfl, hq⟩
  obtain rfl := hq.symm
  clear hq TH c1
  go_wp2_with fail
  go_end0
  exact ⟨⟨_, rfl⟩, .inl H0.out⟩

set_option maxRecDepth 100000 in
theorem walk_any (mp : Option Addr) (kd : Kd) (lb2 : Array Value) (w : World) (h : kd.held w mp lb2) : Calls Tryz.prog 43 #[.pointer mp, .int .i64 (kd.sd : Nat), .func (.func kd.fn) #[] lb2] w
    fun e w' => ∃ fv, e = .returned fv ∧ Wl w' fv mp kd ∧ Calm w w' := by
  have H := hide h
  clear h
  have F : Hid (∀ (a b : Int) (g : Nat), a = (kd.sd : Nat) → g = kd.fn → ∃ fv, Value.func (.func 65) #[] #[.pointer (some ⟨w.heap.size, 0, none⟩), .pointer (some ⟨w.heap.size + 1, 0, none⟩), .pointer (some ⟨w.heap.size + 2, 0, none⟩)] = fv ∧
      Wl (((w.alloc (.cells #[.pointer mp] 55)).alloc (.cells #[.int .i64 a] 3)).alloc (.cells #[.func (.func g) #[] lb2] 63)) fv mp kd ∧ Calm w (((w.alloc (.cells #[.pointer mp] 55)).alloc (.cells #[.int .i64 a] 3)).alloc (.cells #[.func (.func g) #[] lb2] 63))) := hide (fun a _ g ha hg => by
    subst ha hg
    have t : Calm w (((w.alloc (.cells #[.pointer mp] 55)).alloc (.cells #[.int .i64 (kd.sd : Nat)] 3)).alloc (.cells #[.func (.func kd.fn) #[] lb2] 63)) := (((Touch.refl _ _).alloc _).alloc _).alloc _
    refine ⟨_, rfl, ⟨w.heap.size, w.heap.size + 1, w.heap.size + 2, lb2, rfl, ?_, ?_, ?_, Kd.held_calm H.out t⟩, t⟩
    · exact (Below.heap_alloc _ _ _ (by simp; omega)).trans ((Below.heap_alloc _ _ _ (by simp)).trans (heap_alloc_last w _))
    · refine (Below.heap_alloc _ _ _ (by simp)).trans ?_
      have := heap_alloc_last (w.alloc (.cells #[.pointer mp] 55)) (.cells #[.int .i64 (kd.sd : Nat)] 3)
      simpa using this
    · have := heap_alloc_last ((w.alloc (.cells #[.pointer mp] 55)).alloc (.cells #[.int .i64 (kd.sd : Nat)] 3)) (.cells #[.func (.func kd.fn) #[] lb2] 63)
      simpa using this)
  generalize hsd : ((kd.sd : Nat) : Int) = sdv at *
  generalize hfn : kd.fn = fnv at *
  go_enter Tryz.func43, Tryz.ntmps43
  go_wp2_with fail
  go_ret
  obtain ⟨fv, h1, h2, h3⟩ := F.out sdv 0 fnv rfl rfl
  exact ⟨fv, by rw [← h1]; rfl, h2, h3⟩

end Go.Proofs.YtamfcmmhmfhhkaaGreatDoor.PM
