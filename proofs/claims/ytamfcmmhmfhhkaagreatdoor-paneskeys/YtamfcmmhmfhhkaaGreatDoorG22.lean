/- The program's way: the nodes on the way to the nearest key that is within. A scope that no goto leaves, inside a fence. The program's tell: what stands on a stack, told one by one. The program's All, From, Back: functions that tell what a map holds. -/
import Derived.Test.YtamfcmmhmfhhkaaGreatDoorG21
import Derived.Scope
import Derived.WalkMore
import Derived.ControlIn
import Derived.Stop.RegionWithIn
namespace Go.Proofs.YtamfcmmhmfhhkaaGreatDoor.LM
open Go.RowKit

/-- So many keys fit into a row of pointers. -/
structure Few (n : Nat) : Prop where
  le : n ≤ 8796093022208

theorem Few.low {n : Nat} (h : Few n) : Low n := ⟨Nat.le_trans h.le (by omega)⟩

/-- In the order in which a walk from side s tells. -/
def dir (s : Nat) (X : List (ByteArray × (Option Addr × Nat × Nat))) : List (ByteArray × (Option Addr × Nat × Nat)) := if s = 0 then X else X.reverse

theorem dir0 (X : List (ByteArray × (Option Addr × Nat × Nat))) : dir 0 X = X := rfl
theorem dir1 (X : List (ByteArray × (Option Addr × Nat × Nat))) : dir 1 X = X.reverse := rfl

/-- Where one is within, so are all behind it. -/
def Mon (g : ByteArray → Bool) (X : List (ByteArray × (Option Addr × Nat × Nat))) : Prop := X.Pairwise fun a b => g a.1 = true → g b.1 = true

theorem Mon.in {g : ByteArray → Bool} {A B : List (ByteArray × (Option Addr × Nat × Nat))} {x : ByteArray × (Option Addr × Nat × Nat)} (h : Mon g (A ++ x :: B)) (hx : g x.1 = true) : Mon g A ∧ (A ++ x :: B).filter (fun a => g a.1) = A.filter (fun a => g a.1) ++ x :: B := by
  unfold Mon at *
  rw [List.pairwise_append, List.pairwise_cons] at h
  refine ⟨h.1, ?_⟩
  rw [List.filter_append, List.filter_cons, if_pos hx, List.filter_eq_self.2 fun b hb => h.2.1.1 b hb hx]

theorem Mon.out {g : ByteArray → Bool} {A B : List (ByteArray × (Option Addr × Nat × Nat))} {x : ByteArray × (Option Addr × Nat × Nat)} (h : Mon g (A ++ x :: B)) (hx : g x.1 = false) : Mon g B ∧ (A ++ x :: B).filter (fun a => g a.1) = B.filter (fun a => g a.1) := by
  unfold Mon at *
  rw [List.pairwise_append, List.pairwise_cons] at h
  refine ⟨h.2.1.2, ?_⟩
  rw [List.filter_append, List.filter_cons, if_neg (by simp [hx]), List.filter_eq_nil_iff.2 fun a ha => ?_]
  · rfl
  · intro hg
    have := h.2.2 a ha x (by simp) hg
    rw [hx] at this
    cases this

/-- A function that tells whether a key is within, with what it holds. -/
structure Wi (f : Nat) (lb : Array Value) (g : ByteArray → Bool) (Y : World → Prop) : Prop where
  enter : ∀ args w, (callFunc f args).run Tryz.prog w = .ok (.enter f args) w
  calls : ∀ a w, Y w → Calls Tryz.prog f (#[.string a] ++ lb) w fun e w' => e = .returned (.bool (g a)) ∧ Calm w w'
  calm : ∀ w w', Y w → Calm w w' → Y w'

/-- A stack of nodes, the next one last, told by what a walk has yet to tell. -/
inductive Stk (w : World) (s : Nat) : List Value → List (ByteArray × (Option Addr × Nat × Nat)) → Prop
  | nil : Stk w s [] []
  | push {b : Nat} {k : ByteArray} {v : (Option Addr × Nat × Nat)} {p q : Option Addr} {F A : List (ByteArray × (Option Addr × Nat × Nat))} {vs : List Value}
      (hn : Nd w b k v p q) (hf : TL w (.pointer (if s = 0 then q else p)) F) (hs : Stk w s vs A) : Stk w s (vs ++ [.pointer (some ⟨b, 0, none⟩)]) ((k, v) :: dir s F ++ A)

theorem Stk.len {w : World} {s : Nat} {vs : List Value} {A : List (ByteArray × (Option Addr × Nat × Nat))} (h : Stk w s vs A) : vs.length ≤ A.length := by
  induction h with
  | nil => simp
  | push _ _ _ ih => simp; omega

theorem infoPtr : (Tryz.prog.info? 80).map (fun i => (i.zero, i.size, i.bytes)) = some (some (.pointer none), 1, 8) := by kernel_rfl

set_option maxRecDepth 100000 in
set_option maxHeartbeats 1000000 in
theorem way0_any {f : Nat} {lb : Array Value} {g : ByteArray → Bool} {Y : World → Prop} (hW : Wi f lb g Y) (w : World) (p : Option Addr) (X : List (ByteArray × (Option Addr × Nat × Nat))) (h : TL w (.pointer p) X) (hY : Y w) (mon : Mon g (dir 0 X)) (few : Few X.length) :
    Calls Tryz.prog 60 #[.pointer p, .int .i64 0, .func (.func f) #[] lb] w fun e w' =>
      ∃ ao n cap vs, e = .returned (.slice ao n cap) ∧ w'.ownsRow w.heap.size 80 1 (.slice ao n cap) n vs ∧ Stk w 0 vs ((dir 0 X).filter fun a => g a.1) ∧ Calm w w' := by
  obtain ⟨i1, hj, hy0, hy1, hy2⟩ := info_parts2 infoPtr
  have HW := hide hW
  have HY := hide hY
  have H := hide h
  have MON := hide mon
  have FEW := hide few
  clear hW hY h mon few
  go_enter Tryz.func60, Tryz.ntmps60
  go_wp2_with fail
  go_loopw [0, 7] (fun i j wr => ∃ (o : Option Addr) (Z A : List (ByteArray × (Option Addr × Nat × Nat))) (ao : Option Addr) (n cap : Nat) (vs : List Value), i = .pointer o ∧ j = .slice ao n cap ∧ TL w (.pointer o) Z ∧ Mon g (dir 0 Z) ∧
    wr.ownsRow w.heap.size 80 1 (.slice ao n cap) n vs ∧ Stk w 0 vs A ∧ (dir 0 X).filter (fun a => g a.1) = (dir 0 Z).filter (fun a => g a.1) ++ A ∧ Calm w wr) (fun i _ _ => cnt w i)
  case atStart => exact ⟨p, X, [], none, 0, 0, [], rfl, rfl, H.out, MON.out, World.ownsRow_nil _ _ _ _, .nil, by simp, Touch.refl _ _⟩
  case round =>
    obtain ⟨o, Z, A, ao, n, cap, vs, rfl, rfl, htl, hmon, own, stk, hfil, tr⟩ := hrel
    have FIL := hide hfil
    have TR := hide tr
    have OWN := hide own
    have STK := hide stk
    have HMON := hide hmon
    clear hfil tr own stk hmon
    cases htl with
    | nil =>
      go_wp2_with fail
      go_ret
      refine ⟨ao, n, cap, vs, rfl, OWN.out, ?_, TR.out⟩
      have e := FIL.out
      simp only [dir] at e
      simp at e
      simp only [dir]
      simp
      rw [e]
      exact STK.out
    | @node b k v p1 q1 L R hb g1 g2 =>
      obtain ⟨c0, -, -, c3, c4⟩ := cells5 (TR.out.at hb)
      have CA := hide (HW.out.calls k wr (HW.out.calm _ _ HY.out TR.out))
      have EN := HW.out.enter
      have HB := hide hb
      have G1 := hide g1
      have G2 := hide g2
      have CN := hide (TL.node hb g1 g2).cnt
      have hdz : dir 0 (L ++ (k, v) :: R) = dir 0 L ++ (k, v) :: dir 0 R := by simp [dir]
      have HDZ := hide hdz
      have MZ : Hid (Mon g (dir 0 L ++ (k, v) :: dir 0 R)) := hide (by rw [← HDZ.out]; exact HMON.out)
      have FZ : Hid ((dir 0 X).filter (fun a => g a.1) = (dir 0 L ++ (k, v) :: dir 0 R).filter (fun a => g a.1) ++ A) := hide (by rw [← HDZ.out]; exact FIL.out)
      clear hb g1 g2 hdz
      cases hg : g k with
      | true =>
        rw [hg] at CA
        have hin := hide (MZ.out.in (x := (k, v)) hg)
        have hx1 : Hid (n + 1 ≤ maxLen) := hide (by
          have h1 := STK.out.len
          have h2 := OWN.out.1
          have h3 := congrArg List.length FZ.out
          have h4 := List.length_filter_le (fun a : ByteArray × (Option Addr × Nat × Nat) => g a.1) (dir 0 X)
          have h5 : (dir 0 X).length = X.length := by simp [dir]
          have h6 := FEW.out.le
          simp only [List.length_append] at h3
          unfold maxLen; omega)
        have hx2 : Hid ((n + 1) * 8 ≤ 140737488355328) := hide (by
          have h1 := STK.out.len
          have h2 := OWN.out.1
          have h3 := congrArg List.length FZ.out
          have h4 := List.length_filter_le (fun a : ByteArray × (Option Addr × Nat × Nat) => g a.1) (dir 0 X)
          have h5 : (dir 0 X).length = X.length := by simp [dir]
          have h6 := FEW.out.le
          simp only [List.length_append] at h3
          omega)
        have HG := hide hg
        clear hg c3 c4
        go_wp2_with fail
        refine CA.out.mono ?_
        rintro e w2 ⟨rfl, t2⟩
        have T2 := hide (TR.out.tr t2)
        have own2 := own_touch OWN.out t2 (fun _ _ h => h)
        have OW2 : Hid ((w2.alloc (.cells #[.pointer (some ⟨b, 0, none⟩)] 80)).ownsRow w.heap.size 80 1 (.slice ao n cap) n vs) := hide (own_touch own2 ((Touch.refl (fun _ => False) w2).alloc _) (fun _ _ h => h))
        have TZ := hide (T2.out.alloc (.cells #[.pointer (some ⟨b, 0, none⟩)] 80))
        clear own2 t2 c0
        go_wp2_with (at_builtin; refine wpList_append_sep _ rfl (.tmp 19) (.tmp 21) 107 rfl w.heap.size 80 i1 (.pointer none) 1 8 Tryz.underlying107 hj hy0 hy1 hy2 rfl (by decide) _ n vs rfl OW2.out ⟨w2.heap.size, 0, none⟩ 1 1 [.pointer (some ⟨b, 0, none⟩)] rfl rfl (new_cells1 w2 _ _) (one_cells1 rfl) hx1.out hx2.out TZ.out.size (by omega) ?ny)
        case ny =>
          intro ao3 c3' w3 own3 t3 _
          have T3 := hide (TZ.out.trans t3 (fun g' hg' hs => by have := (own_block OW2.out hs).1; omega))
          obtain ⟨-, -, -, d3, d4⟩ := cells5 (T3.out.at HB.out)
          have OW3 := hide own3
          clear own3 t3
          go_wp2_with fail
          go_roundw
          case rel => exact ⟨p1, L, _, _, _, _, _, rfl, rfl, G1.out, hin.out.1, OW3.out, .push (s := 0) ⟨_, HB.out⟩ G2.out STK.out, by rw [FZ.out, hin.out.2]; simp, T3.out⟩
          case measure =>
            rw [CN.out, G1.out.cnt]
            simp only [List.length_append, List.length_cons]
            omega
      | false =>
        rw [hg] at CA
        have hout := hide (MZ.out.out (x := (k, v)) hg)
        clear hg c3 c4
        go_wp2_with fail
        refine CA.out.mono ?_
        rintro e w2 ⟨rfl, t2⟩
        have T2 := hide (TR.out.tr t2)
        have OW2 := hide (own_touch OWN.out t2 (fun _ _ h => h))
        obtain ⟨-, -, -, d3, d4⟩ := cells5 (T2.out.at HB.out)
        clear t2 c0
        go_wp2_with fail
        go_roundw
        case rel => exact ⟨q1, R, A, ao, n, cap, vs, rfl, rfl, G2.out, hout.out.1, OW2.out, STK.out, by rw [FZ.out, hout.out.2], T2.out⟩
        case measure =>
          rw [CN.out, G2.out.cnt]
          simp only [List.length_append, List.length_cons]
          omega

set_option maxRecDepth 100000 in
set_option maxHeartbeats 1000000 in
theorem way1_any {f : Nat} {lb : Array Value} {g : ByteArray → Bool} {Y : World → Prop} (hW : Wi f lb g Y) (w : World) (p : Option Addr) (X : List (ByteArray × (Option Addr × Nat × Nat))) (h : TL w (.pointer p) X) (hY : Y w) (mon : Mon g (dir 1 X)) (few : Few X.length) :
    Calls Tryz.prog 60 #[.pointer p, .int .i64 1, .func (.func f) #[] lb] w fun e w' =>
      ∃ ao n cap vs, e = .returned (.slice ao n cap) ∧ w'.ownsRow w.heap.size 80 1 (.slice ao n cap) n vs ∧ Stk w 1 vs ((dir 1 X).filter fun a => g a.1) ∧ Calm w w' := by
  obtain ⟨i1, hj, hy0, hy1, hy2⟩ := info_parts2 infoPtr
  have HW := hide hW
  have HY := hide hY
  have H := hide h
  have MON := hide mon
  have FEW := hide few
  clear hW hY h mon few
  go_enter Tryz.func60, Tryz.ntmps60
  go_wp2_with fail
  go_loopw [0, 7] (fun i j wr => ∃ (o : Option Addr) (Z A : List (ByteArray × (Option Addr × Nat × Nat))) (ao : Option Addr) (n cap : Nat) (vs : List Value), i = .pointer o ∧ j = .slice ao n cap ∧ TL w (.pointer o) Z ∧ Mon g (dir 1 Z) ∧
    wr.ownsRow w.heap.size 80 1 (.slice ao n cap) n vs ∧ Stk w 1 vs A ∧ (dir 1 X).filter (fun a => g a.1) = (dir 1 Z).filter (fun a => g a.1) ++ A ∧ Calm w wr) (fun i _ _ => cnt w i)
  case atStart => exact ⟨p, X, [], none, 0, 0, [], rfl, rfl, H.out, MON.out, World.ownsRow_nil _ _ _ _, .nil, by simp, Touch.refl _ _⟩
  case round =>
    obtain ⟨o, Z, A, ao, n, cap, vs, rfl, rfl, htl, hmon, own, stk, hfil, tr⟩ := hrel
    have FIL := hide hfil
    have TR := hide tr
    have OWN := hide own
    have STK := hide stk
    have HMON := hide hmon
    clear hfil tr own stk hmon
    cases htl with
    | nil =>
      go_wp2_with fail
      go_ret
      refine ⟨ao, n, cap, vs, rfl, OWN.out, ?_, TR.out⟩
      have e := FIL.out
      simp only [dir] at e
      simp at e
      simp only [dir]
      simp
      rw [e]
      exact STK.out
    | @node b k v p1 q1 L R hb g1 g2 =>
      obtain ⟨c0, -, -, c3, c4⟩ := cells5 (TR.out.at hb)
      have CA := hide (HW.out.calls k wr (HW.out.calm _ _ HY.out TR.out))
      have EN := HW.out.enter
      have HB := hide hb
      have G1 := hide g1
      have G2 := hide g2
      have CN := hide (TL.node hb g1 g2).cnt
      have hdz : dir 1 (L ++ (k, v) :: R) = dir 1 R ++ (k, v) :: dir 1 L := by simp [dir]
      have HDZ := hide hdz
      have MZ : Hid (Mon g (dir 1 R ++ (k, v) :: dir 1 L)) := hide (by rw [← HDZ.out]; exact HMON.out)
      have FZ : Hid ((dir 1 X).filter (fun a => g a.1) = (dir 1 R ++ (k, v) :: dir 1 L).filter (fun a => g a.1) ++ A) := hide (by rw [← HDZ.out]; exact FIL.out)
      clear hb g1 g2 hdz
      cases hg : g k with
      | true =>
        rw [hg] at CA
        have hin := hide (MZ.out.in (x := (k, v)) hg)
        have hx1 : Hid (n + 1 ≤ maxLen) := hide (by
          have h1 := STK.out.len
          have h2 := OWN.out.1
          have h3 := congrArg List.length FZ.out
          have h4 := List.length_filter_le (fun a : ByteArray × (Option Addr × Nat × Nat) => g a.1) (dir 1 X)
          have h5 : (dir 1 X).length = X.length := by simp [dir]
          have h6 := FEW.out.le
          simp only [List.length_append] at h3
          unfold maxLen; omega)
        have hx2 : Hid ((n + 1) * 8 ≤ 140737488355328) := hide (by
          have h1 := STK.out.len
          have h2 := OWN.out.1
          have h3 := congrArg List.length FZ.out
          have h4 := List.length_filter_le (fun a : ByteArray × (Option Addr × Nat × Nat) => g a.1) (dir 1 X)
          have h5 : (dir 1 X).length = X.length := by simp [dir]
          have h6 := FEW.out.le
          simp only [List.length_append] at h3
          omega)
        have HG := hide hg
        clear hg c3 c4
        go_wp2_with fail
        refine CA.out.mono ?_
        rintro e w2 ⟨rfl, t2⟩
        have T2 := hide (TR.out.tr t2)
        have own2 := own_touch OWN.out t2 (fun _ _ h => h)
        have OW2 : Hid ((w2.alloc (.cells #[.pointer (some ⟨b, 0, none⟩)] 80)).ownsRow w.heap.size 80 1 (.slice ao n cap) n vs) := hide (own_touch own2 ((Touch.refl (fun _ => False) w2).alloc _) (fun _ _ h => h))
        have TZ := hide (T2.out.alloc (.cells #[.pointer (some ⟨b, 0, none⟩)] 80))
        clear own2 t2 c0
        go_wp2_with (at_builtin; refine wpList_append_sep _ rfl (.tmp 19) (.tmp 21) 107 rfl w.heap.size 80 i1 (.pointer none) 1 8 Tryz.underlying107 hj hy0 hy1 hy2 rfl (by decide) _ n vs rfl OW2.out ⟨w2.heap.size, 0, none⟩ 1 1 [.pointer (some ⟨b, 0, none⟩)] rfl rfl (new_cells1 w2 _ _) (one_cells1 rfl) hx1.out hx2.out TZ.out.size (by omega) ?ny)
        case ny =>
          intro ao3 c3' w3 own3 t3 _
          have T3 := hide (TZ.out.trans t3 (fun g' hg' hs => by have := (own_block OW2.out hs).1; omega))
          obtain ⟨-, -, -, d3, d4⟩ := cells5 (T3.out.at HB.out)
          have OW3 := hide own3
          clear own3 t3
          go_wp2_with fail
          go_roundw
          case rel => exact ⟨q1, R, _, _, _, _, _, rfl, rfl, G2.out, hin.out.1, OW3.out, .push (s := 1) ⟨_, HB.out⟩ G1.out STK.out, by rw [FZ.out, hin.out.2]; simp, T3.out⟩
          case measure =>
            rw [CN.out, G2.out.cnt]
            simp only [List.length_append, List.length_cons]
            omega
      | false =>
        rw [hg] at CA
        have hout := hide (MZ.out.out (x := (k, v)) hg)
        clear hg c3 c4
        go_wp2_with fail
        refine CA.out.mono ?_
        rintro e w2 ⟨rfl, t2⟩
        have T2 := hide (TR.out.tr t2)
        have OW2 := hide (own_touch OWN.out t2 (fun _ _ h => h))
        obtain ⟨-, -, -, d3, d4⟩ := cells5 (T2.out.at HB.out)
        clear t2 c0
        go_wp2_with fail
        go_roundw
        case rel => exact ⟨p1, L, A, ao, n, cap, vs, rfl, rfl, G1.out, hout.out.1, OW2.out, STK.out, by rw [FZ.out, hout.out.2], T2.out⟩
        case measure =>
          rw [CN.out, G1.out.cnt]
          simp only [List.length_append, List.length_cons]
          omega

end Go.Proofs.YtamfcmmhmfhhkaaGreatDoor.LM

namespace Go.Proofs.YtamfcmmhmfhhkaaGreatDoor


section
variable {P : Program} {b : Frame} {a : Act} {k : List Item} {cs : List Frame} {w : World}

theorem stepR_scope {c : Code} : step P (lone (b.atR a (.code (.scope c) :: k)) cs w) = .next (lone (b.atR a (.code c :: .inScope c :: k)) cs w) :=
  step_lone_go (by simp [stepG, stepG.exec, Frame.atR])
theorem stepR_inScope {c : Code} : step P (lone (b.atR a (.inScope c :: k)) cs w) = .next (lone (b.atR a k) cs w) :=
  step_lone_go (by simp [stepG, stepG.exec, Frame.atR])

theorem wpIn_scope_straight {F : Fence} {n : Nat} {Q : Exit → Act → World → Prop} {c : Code} (h : c.wpIn F n P (Exit.noGoto Q) a w) : (Code.scope c).wpIn F n P Q a w := by
  intro b k cs hro hb hr
  have h0 : (lone (b.atR a (.code (.scope c) :: k)) cs w).fenced P F := fenced_calm hb hr rfl
  obtain ⟨e, a₁, w₁, hq, harr⟩ := h b (.inScope c :: k) cs hro hb hr
  cases e with
  | normal => exact ⟨.normal, a₁, w₁, hq, .head h0 stepR_scope (StepsIn.trans harr (.one (fenced_calm hb hr rfl) stepR_inScope))⟩
  | exit id' =>
    have hx : exitTo id' (.inScope c :: k) = exitTo id' k := by simp [exitTo]
    exact ⟨.exit id', a₁, w₁, hq, fun k' hk => .head h0 stepR_scope (harr.1 k' (by rw [hx]; exact hk)),
      fun hr' hk => let ⟨k₁, h1, h2⟩ := harr.2 hr' (by rw [hx]; exact hk); ⟨k₁, h1, .head h0 stepR_scope h2⟩⟩
  | goto l => exact hq.elim
  | ret => exact ⟨_, a₁, w₁, hq, .of_steps (.one h0 stepR_scope) harr⟩
  | panic ch => exact ⟨_, a₁, w₁, hq, .of_steps (.one h0 stepR_scope) harr⟩
  | outgrown => exact ⟨_, a₁, w₁, hq, .of_steps (.one h0 stepR_scope) harr⟩
end

end Go.Proofs.YtamfcmmhmfhhkaaGreatDoor

namespace Go.Proofs.YtamfcmmhmfhhkaaGreatDoor.LM
open Go.RowKit
attribute [local go_sem] Oper.semAt_some

theorem YieldAt.any {n n' : Nat} {P : Program} {l : Nat} {args : Array Value} {W : World} {R : Ending → World → Prop} (h : YieldAt Fence.wide n P l args W R) : YieldAt Fence.wide n' P l args W R := by
  obtain ⟨fn, tmps, assign, body, h1, h2, h3⟩ := h
  exact ⟨fn, tmps, assign, body, h1, h2, fun c cs _ => h3 c cs (room_wide _)⟩

theorem _root_.Go.World.ownsRow.touchD {w : World} {base n sz : Nat} {e : TypeId} {v : Value} {xs : List Value} (h : w.ownsRow base e sz v n xs) : w.drew.ownsRow base e sz v n xs := own_touch h (Touch.refl (fun _ => False) w).drew (fun _ _ h => h)

theorem cut_facts {m cap : Nat} (h : m + 1 ≤ cap) (hx : cap ≤ maxLen) : wrap64 (m : Int) = (m : Int) ∧ (m : Int) ≤ (cap : Int) ∧ (m : Int) + 1 ≤ (cap : Int) := by
  unfold maxLen at hx
  unfold wrap64
  omega

theorem Stk.inv {w : World} {s : Nat} {vs : List Value} {A : List (ByteArray × (Option Addr × Nat × Nat))} (h : Stk w s vs A) : (vs = [] ∧ A = []) ∨ ∃ b k v p q F A' vs', vs = vs' ++ [.pointer (some ⟨b, 0, none⟩)] ∧ A = (k, v) :: (dir s F ++ A') ∧ Nd w b k v p q ∧ TL w (.pointer (if s = 0 then q else p)) F ∧ Stk w s vs' A' := by
  cases h with
  | nil => exact .inl ⟨rfl, rfl⟩
  | push hn hf hs => exact .inr ⟨_, _, _, _, _, _, _, _, rfl, rfl, hn, hf, hs⟩

/-- What tell keeps: so much is yet to do. -/
def Tl (S : Nat → Prop) (J : Nat → World → Prop) (W0 : World) (s : Nat) (Y : List (ByteArray × (Option Addr × Nat × Nat))) (mu : Nat) (i j : Value) (wr : World) : Prop :=
  ∃ (k : Nat) (ao : Option Addr) (n cap : Nat) (vs : List Value) (o : Option Addr) (Z A : List (ByteArray × (Option Addr × Nat × Nat))), i = .slice ao n cap ∧ j = .pointer o ∧ TL W0 (.pointer o) Z ∧
    wr.ownsRow W0.heap.size 80 1 (.slice ao n cap) n vs ∧ Stk W0 s vs A ∧ dir s Z ++ A = Y.drop k ∧ k ≤ Y.length ∧ J k wr ∧ Touch (fun g => S g ∨ W0.heap.size ≤ g) W0 wr ∧ mu + n = 2 * (Z.length + A.length)

set_option maxRecDepth 100000 in
set_option maxHeartbeats 2000000 in
theorem tell0_in (n l : Nat) (S : Nat → Prop) (J Jx : Nat → World → Prop) (W0 : World) (hS : ∀ k, S k → k < W0.heap.size ∧ ∀ cs fr, W0.heap[k]? ≠ some (.cells cs 85 fr)) (hJ : ∀ k W1 W2, J k W1 → Sly 80 W0.heap.size W1 W2 → J k W2) (Y : List (ByteArray × (Option Addr × Nat × Nat)))
    (hY : ∀ k W1, J k W1 → (hk : k < Y.length) → YieldAt Fence.wide (n - 1) Tryz.prog l #[.string Y[k].1, .slice Y[k].2.1 Y[k].2.2.1 Y[k].2.2.2] W1 fun e W' => Touch S W1 W' ∧ ((e = .returned (.bool true) ∧ J (k + 1) W') ∨ (e = .returned (.bool false) ∧ Jx (k + 1) W')))
    (few : Few Y.length) (ao : Option Addr) (nn cap : Nat) (vs : List Value) (W1 : World) (own : W1.ownsRow W0.heap.size 80 1 (.slice ao nn cap) nn vs) (stk : Stk W0 0 vs Y) (hT : Calm W0 W1) (h0 : J 0 W1) :
    CallsIn Fence.wide n Tryz.prog 59 #[.slice ao nn cap, .int .i64 0, .func (.yield l) #[] #[]] W1 fun e W' => (∃ v, e = .returned v) ∧ (J Y.length W' ∨ ∃ k, k ≤ Y.length ∧ Jx k W') := by
  obtain ⟨i1, hj, hy0, hy1, hy2⟩ := info_parts2 infoPtr
  have HS := hide hS
  have HJ := hide hJ
  have HY := hide hY
  have FEW := hide few
  have ST : Hid (Tl S J W0 0 Y (2 * Y.length - nn) (.slice ao nn cap) (.pointer none) W1) := hide ⟨0, ao, nn, cap, vs, none, [], Y, rfl, rfl, .nil, own, stk, by simp [dir], Nat.zero_le _, h0, hT.mono (fun _ _ h => h.elim), by
    have h1 := stk.len
    have h2 := own.1
    simp; omega⟩
  clear hS hJ hY few own stk hT h0
  refine callsIn_of_wp Tryz.func59 rfl trivial ?_ rfl
  simp only [Tryz.ntmps59, List.size_toArray, List.length_cons, List.length_nil, Nat.reduceAdd, Nat.reduceSub, Array.replicate_succ, Array.replicate_zero, List.push_toArray, List.append_toArray, List.nil_append, List.cons_append]
  gi_wp2
  refine wpIn_scope_straight ?_
  gi_wp2
  refine wpIn_label ?_
  gi_wp2
  gi_loopw [0, 6] (fun i j wr => ∃ mu, Tl S J W0 0 Y mu i j wr) (fun i j wr => least (fun mu => Tl S J W0 0 Y mu i j wr))
  case atStart => exact ⟨_, ST.out⟩
  case round =>
    obtain ⟨hls, hlm⟩ := least_spec hrel
    obtain ⟨k, ao, n', cap, vs, o, Z, A, rfl, rfl, htl, own, stk, hdr, hk, hJ, ht, hmu⟩ := hls
    have HLM := hide hlm
    have HDR := hide hdr
    have HK := hide hk
    have HT := hide ht
    have HMU := hide hmu
    have OWN := hide own
    have STK := hide stk
    have HJK := hide hJ
    clear hlm hdr hk ht hmu own stk hJ ST hrel
    generalize hmm : least (fun mu => Tl S J W0 0 Y mu (.slice ao n' cap) (.pointer o) wr) = M at *
    have hno : ∀ {b : Nat} {cs : Array Value}, W0.heap[b]? = some (.cells cs 85 (0, 0)) → wr.heap[b]? = some (.cells cs 85 (0, 0)) := fun {b cs} h => HT.out.heap h (fun hs => by
      rcases hs with hs | hs
      · exact (HS.out b hs).2 _ _ h
      · have := lt_of_heap h; omega)
    cases htl with
    | @node b k1 v1 p1 q1 L R hb g1 g2 =>
      have G1 := hide g1
      have G2 := hide g2
      have HB := hide hb
      have hx1 : Hid (n' + 1 ≤ 8796093022208 + 1) := hide (by
        have h1 := STK.out.len
        have h2 := OWN.out.1
        have h3 := congrArg List.length HDR.out
        have h6 := FEW.out.le
        simp only [List.length_append, List.length_drop] at h3
        omega)
      have hx2 : Hid (n' + 1 ≤ maxLen) := hide (by have := hx1.out; unfold maxLen; omega)
      have hx3 : Hid ((n' + 1) * 8 ≤ 140737488355328) := hide (by have := hx1.out; omega)
      have OW2 : Hid ((wr.alloc (.cells #[.pointer (some ⟨b, 0, none⟩)] 80)).ownsRow W0.heap.size 80 1 (.slice ao n' cap) n' vs) := hide (own_touch OWN.out ((Touch.refl (fun _ => False) wr).alloc _) (fun _ _ h => h))
      have TZ := hide ((Touch.refl (fun _ => False) wr).alloc (.cells #[.pointer (some ⟨b, 0, none⟩)] 80))
      have BZ : Hid (W0.heap.size ≤ (wr.alloc (.cells #[.pointer (some ⟨b, 0, none⟩)] 80)).heap.size) := hide (Nat.le_trans HT.out.size TZ.out.size)
      have HNO := hide (hno hb)
      clear hno g1 g2 hb
      refine wpIn_wide.2 ?_
      go_wp2_with (at_builtin; refine wpList_append_sep _ rfl (.tmp 40) (.tmp 42) 107 rfl W0.heap.size 80 i1 (.pointer none) 1 8 Tryz.underlying107 hj hy0 hy1 hy2 rfl (by decide) _ n' vs rfl OW2.out ⟨wr.heap.size, 0, none⟩ 1 1 [.pointer (some ⟨b, 0, none⟩)] rfl rfl (new_cells1 wr _ _) (one_cells1 rfl) hx2.out hx3.out BZ.out (by omega) ?ny)
      case ny =>
        intro ao3 c3 w3 own3 t3 _
        have SL : Hid (Sly 80 W0.heap.size wr w3) := hide ((Touch.mono TZ.out (fun _ _ h => h.elim)).trans t3 (fun g' hg' hs => by
          obtain ⟨h1, cur, h2⟩ := own_block OWN.out hs
          exact ⟨h1, cur, _, h2⟩))
        obtain ⟨-, -, -, d3, d4⟩ := cells5 (SL.out.at HNO.out (by decide))
        have OW3 := hide own3
        clear own3 t3
        have NX : Hid (Tl S J W0 0 Y (M - 1) (.slice ao3 (n' + 1) c3) (.pointer p1) w3) := hide (by
          refine ⟨k, _, _, _, _, p1, L, (k1, v1) :: dir 0 R ++ A, rfl, rfl, G1.out, OW3.out, .push (s := 0) ⟨_, HB.out⟩ G2.out STK.out, ?_, HK.out, HJ.out _ _ _ HJK.out SL.out, HT.out.trans SL.out (fun g' _ hs => .inr hs.1), ?_⟩
          · rw [← HDR.out]; simp [dir]
          · have h1 := STK.out.len
            have h2 := OWN.out.1
            have h3 := HMU.out
            simp [dir] at h3 ⊢
            omega)
        have HMP : Hid (M - 1 < M) := hide (by
          have h1 := STK.out.len
          have h2 := OWN.out.1
          have h3 := HMU.out
          simp at h3
          omega)
        go_wp2_with fail
        go_roundw
        case rel => exact ⟨_, NX.out⟩
        case measure =>
          rw [hmm]
          exact Nat.lt_of_le_of_lt ((least_spec ⟨_, NX.out⟩).2 _ NX.out) HMP.out
    | nil =>
      rcases STK.out.inv with ⟨hvs, hA⟩ | ⟨b, k1, v1, p1, q1, F, A', vs', hvs, hA, hn, hf, stk'⟩
      · have h1 := OWN.out.1
        subst hvs hA
        have hn0 : n' = 0 := by simpa using h1.symm
        subst hn0
        have HKY : Hid (k = Y.length) := hide (by
          have h3 := HDR.out
          simp [dir] at h3
          have := HK.out
          omega)
        clear h1 hno hmm
        refine wpIn_wide.2 ?_
        go_wp2_with fail
        rw [Exit.noGoto_normal]
        go_end0
        exact ⟨⟨_, rfl⟩, .inl (by have h := HJK.out; rw [HKY.out] at h; exact h)⟩
      · have h1 := OWN.out.1
        subst hvs hA
        obtain ⟨m, rfl⟩ : ∃ m, n' = m + 1 := ⟨n' - 1, by simp at h1; omega⟩
        obtain ⟨g, rfl, hg, hcap, hmax, cg, own'⟩ := own_cut OWN.out
        have HST := hide stk'
        have HF := hide hf
        have OW' := hide own'
        have hkY : k < Y.length := by
          have h3 := congrArg List.length HDR.out
          simp [dir] at h3
          omega
        have h5 : (k1, v1) :: (dir 0 F ++ A') = Y.drop k := HDR.out
        rw [List.drop_eq_getElem_cons hkY] at h5
        injection h5 with h6 hrest
        have hYk : Y[k] = (k1, v1) := h6.symm
        obtain ⟨hwm, hm1, hm2⟩ := cut_facts hcap hmax
        have HRE := hide hrest
        have HKY := hide hkY
        have YL := HY.out k wr.drew (HJ.out _ _ _ HJK.out (.of_calm (Touch.refl (fun _ => False) wr).drew)) hkY
        rw [hYk] at YL
        obtain ⟨fn, tmps, assign, body, hy, hR⟩ := YL
        have HR := hide (hR.mono (R' := fun e W' => ∃ r : Bool, e = .returned (.bool r) ∧ Touch S wr.drew W' ∧ ((r = true ∧ J (k + 1) W') ∨ (r = false ∧ Jx (k + 1) W'))) (fun e W' h => by
          rcases h with ⟨h1, ⟨h2, h3⟩ | ⟨h2, h3⟩⟩
          · exact ⟨true, h2, h1, .inl ⟨rfl, h3⟩⟩
          · exact ⟨false, h2, h1, .inr ⟨rfl, h3⟩⟩))
        have HG := hide hg
        have HMM := hide hmm
        clear hR hmax hcap hg hmm
        obtain ⟨nb, hb⟩ := hn
        have HB := hide hb
        obtain ⟨c0, c1, -, c3, c4⟩ := cells5 (hno hb)
        clear h1 hno own' hf stk' hrest hkY hYk hb h6
        gi_wp2
        gi_region_with (refine ⟨fun h => (nomatch h), HR.out.mono ?_⟩; rintro e W3 ⟨r, rfl, t3, hr3⟩)
        all_goals
          have T3 : Hid (Touch (fun g => S g ∨ W0.heap.size ≤ g) W0 W3) := hide ((HT.out.drew).trans t3 (fun _ _ hs => .inl hs))
          have OW3 := hide (own_touch (OW'.out.touchD) t3 (fun g' hg' hs => by
            have h1 := (own_block OW'.out hg').1
            have h2 := (HS.out g' hs).1
            omega))
          clear c0 c1 c3 c4 cg hy HR t3
          obtain ⟨-, -, -, d3, d4⟩ := cells5 (show W3.heap[b]? = _ from T3.out.heap HB.out (fun hs => by
            rcases hs with hs | hs
            · exact (HS.out b hs).2 _ _ HB.out
            · have := lt_of_heap HB.out; omega))
          rcases hr3 with ⟨rfl, hJ3⟩ | ⟨rfl, hJx3⟩
          · have NX : Hid (Tl S J W0 0 Y (M - 1) (.slice (some ⟨g, 0, none⟩) m cap) (.pointer q1) W3) := hide (by
              refine ⟨k + 1, _, _, _, vs', q1, F, A', rfl, rfl, HF.out, OW3.out, HST.out, HRE.out, HKY.out, hJ3, T3.out, ?_⟩
              have h3 := HMU.out
              have h4 := HST.out.len
              have h5 := OW'.out.1
              simp [dir] at h3 ⊢
              omega)
            have HMP : Hid (M - 1 < M) := hide (by
              have h3 := HMU.out
              have h4 := HST.out.len
              have h5 := OW'.out.1
              simp [dir] at h3
              omega)
            clear hJ3
            gi_wp2
            go_roundw
            case rel => exact ⟨_, NX.out⟩
            case measure =>
              rw [HMM.out]
              exact Nat.lt_of_le_of_lt ((least_spec ⟨_, NX.out⟩).2 _ NX.out) HMP.out
          · have HX := hide hJx3
            clear hJx3
            gi_wp2
            rw [Exit.noGoto_normal]
            go_end0
            exact ⟨⟨_, rfl⟩, .inr ⟨k + 1, HKY.out, HX.out⟩⟩

set_option maxRecDepth 100000 in
set_option maxHeartbeats 2000000 in
theorem tell1_in (n l : Nat) (S : Nat → Prop) (J Jx : Nat → World → Prop) (W0 : World) (hS : ∀ k, S k → k < W0.heap.size ∧ ∀ cs fr, W0.heap[k]? ≠ some (.cells cs 85 fr)) (hJ : ∀ k W1 W2, J k W1 → Sly 80 W0.heap.size W1 W2 → J k W2) (Y : List (ByteArray × (Option Addr × Nat × Nat)))
    (hY : ∀ k W1, J k W1 → (hk : k < Y.length) → YieldAt Fence.wide (n - 1) Tryz.prog l #[.string Y[k].1, .slice Y[k].2.1 Y[k].2.2.1 Y[k].2.2.2] W1 fun e W' => Touch S W1 W' ∧ ((e = .returned (.bool true) ∧ J (k + 1) W') ∨ (e = .returned (.bool false) ∧ Jx (k + 1) W')))
    (few : Few Y.length) (ao : Option Addr) (nn cap : Nat) (vs : List Value) (W1 : World) (own : W1.ownsRow W0.heap.size 80 1 (.slice ao nn cap) nn vs) (stk : Stk W0 1 vs Y) (hT : Calm W0 W1) (h0 : J 0 W1) :
    CallsIn Fence.wide n Tryz.prog 59 #[.slice ao nn cap, .int .i64 1, .func (.yield l) #[] #[]] W1 fun e W' => (∃ v, e = .returned v) ∧ (J Y.length W' ∨ ∃ k, k ≤ Y.length ∧ Jx k W') := by
  obtain ⟨i1, hj, hy0, hy1, hy2⟩ := info_parts2 infoPtr
  have HS := hide hS
  have HJ := hide hJ
  have HY := hide hY
  have FEW := hide few
  have ST : Hid (Tl S J W0 1 Y (2 * Y.length - nn) (.slice ao nn cap) (.pointer none) W1) := hide ⟨0, ao, nn, cap, vs, none, [], Y, rfl, rfl, .nil, own, stk, by simp [dir], Nat.zero_le _, h0, hT.mono (fun _ _ h => h.elim), by
    have h1 := stk.len
    have h2 := own.1
    simp; omega⟩
  clear hS hJ hY few own stk hT h0
  refine callsIn_of_wp Tryz.func59 rfl trivial ?_ rfl
  simp only [Tryz.ntmps59, List.size_toArray, List.length_cons, List.length_nil, Nat.reduceAdd, Nat.reduceSub, Array.replicate_succ, Array.replicate_zero, List.push_toArray, List.append_toArray, List.nil_append, List.cons_append]
  gi_wp2
  refine wpIn_scope_straight ?_
  gi_wp2
  refine wpIn_label ?_
  gi_wp2
  gi_loopw [0, 6] (fun i j wr => ∃ mu, Tl S J W0 1 Y mu i j wr) (fun i j wr => least (fun mu => Tl S J W0 1 Y mu i j wr))
  case atStart => exact ⟨_, ST.out⟩
  case round =>
    obtain ⟨hls, hlm⟩ := least_spec hrel
    obtain ⟨k, ao, n', cap, vs, o, Z, A, rfl, rfl, htl, own, stk, hdr, hk, hJ, ht, hmu⟩ := hls
    have HLM := hide hlm
    have HDR := hide hdr
    have HK := hide hk
    have HT := hide ht
    have HMU := hide hmu
    have OWN := hide own
    have STK := hide stk
    have HJK := hide hJ
    clear hlm hdr hk ht hmu own stk hJ ST hrel
    generalize hmm : least (fun mu => Tl S J W0 1 Y mu (.slice ao n' cap) (.pointer o) wr) = M at *
    have hno : ∀ {b : Nat} {cs : Array Value}, W0.heap[b]? = some (.cells cs 85 (0, 0)) → wr.heap[b]? = some (.cells cs 85 (0, 0)) := fun {b cs} h => HT.out.heap h (fun hs => by
      rcases hs with hs | hs
      · exact (HS.out b hs).2 _ _ h
      · have := lt_of_heap h; omega)
    cases htl with
    | @node b k1 v1 p1 q1 L R hb g1 g2 =>
      have G1 := hide g1
      have G2 := hide g2
      have HB := hide hb
      have hx1 : Hid (n' + 1 ≤ 8796093022208 + 1) := hide (by
        have h1 := STK.out.len
        have h2 := OWN.out.1
        have h3 := congrArg List.length HDR.out
        have h6 := FEW.out.le
        simp only [List.length_append, List.length_drop] at h3
        omega)
      have hx2 : Hid (n' + 1 ≤ maxLen) := hide (by have := hx1.out; unfold maxLen; omega)
      have hx3 : Hid ((n' + 1) * 8 ≤ 140737488355328) := hide (by have := hx1.out; omega)
      have OW2 : Hid ((wr.alloc (.cells #[.pointer (some ⟨b, 0, none⟩)] 80)).ownsRow W0.heap.size 80 1 (.slice ao n' cap) n' vs) := hide (own_touch OWN.out ((Touch.refl (fun _ => False) wr).alloc _) (fun _ _ h => h))
      have TZ := hide ((Touch.refl (fun _ => False) wr).alloc (.cells #[.pointer (some ⟨b, 0, none⟩)] 80))
      have BZ : Hid (W0.heap.size ≤ (wr.alloc (.cells #[.pointer (some ⟨b, 0, none⟩)] 80)).heap.size) := hide (Nat.le_trans HT.out.size TZ.out.size)
      have HNO := hide (hno hb)
      clear hno g1 g2 hb
      refine wpIn_wide.2 ?_
      go_wp2_with (at_builtin; refine wpList_append_sep _ rfl (.tmp 40) (.tmp 42) 107 rfl W0.heap.size 80 i1 (.pointer none) 1 8 Tryz.underlying107 hj hy0 hy1 hy2 rfl (by decide) _ n' vs rfl OW2.out ⟨wr.heap.size, 0, none⟩ 1 1 [.pointer (some ⟨b, 0, none⟩)] rfl rfl (new_cells1 wr _ _) (one_cells1 rfl) hx2.out hx3.out BZ.out (by omega) ?ny)
      case ny =>
        intro ao3 c3 w3 own3 t3 _
        have SL : Hid (Sly 80 W0.heap.size wr w3) := hide ((Touch.mono TZ.out (fun _ _ h => h.elim)).trans t3 (fun g' hg' hs => by
          obtain ⟨h1, cur, h2⟩ := own_block OWN.out hs
          exact ⟨h1, cur, _, h2⟩))
        obtain ⟨-, -, -, d3, d4⟩ := cells5 (SL.out.at HNO.out (by decide))
        have OW3 := hide own3
        clear own3 t3
        have NX : Hid (Tl S J W0 1 Y (M - 1) (.slice ao3 (n' + 1) c3) (.pointer q1) w3) := hide (by
          refine ⟨k, _, _, _, _, q1, R, (k1, v1) :: dir 1 L ++ A, rfl, rfl, G2.out, OW3.out, .push (s := 1) ⟨_, HB.out⟩ G1.out STK.out, ?_, HK.out, HJ.out _ _ _ HJK.out SL.out, HT.out.trans SL.out (fun g' _ hs => .inr hs.1), ?_⟩
          · rw [← HDR.out]; simp [dir]
          · have h1 := STK.out.len
            have h2 := OWN.out.1
            have h3 := HMU.out
            simp [dir] at h3 ⊢
            omega)
        have HMP : Hid (M - 1 < M) := hide (by
          have h1 := STK.out.len
          have h2 := OWN.out.1
          have h3 := HMU.out
          simp at h3
          omega)
        go_wp2_with fail
        go_roundw
        case rel => exact ⟨_, NX.out⟩
        case measure =>
          rw [hmm]
          exact Nat.lt_of_le_of_lt ((least_spec ⟨_, NX.out⟩).2 _ NX.out) HMP.out
    | nil =>
      rcases STK.out.inv with ⟨hvs, hA⟩ | ⟨b, k1, v1, p1, q1, F, A', vs', hvs, hA, hn, hf, stk'⟩
      · have h1 := OWN.out.1
        subst hvs hA
        have hn0 : n' = 0 := by simpa using h1.symm
        subst hn0
        have HKY : Hid (k = Y.length) := hide (by
          have h3 := HDR.out
          simp [dir] at h3
          have := HK.out
          omega)
        clear h1 hno hmm
        refine wpIn_wide.2 ?_
        go_wp2_with fail
        rw [Exit.noGoto_normal]
        go_end0
        exact ⟨⟨_, rfl⟩, .inl (by have h := HJK.out; rw [HKY.out] at h; exact h)⟩
      · have h1 := OWN.out.1
        subst hvs hA
        obtain ⟨m, rfl⟩ : ∃ m, n' = m + 1 := ⟨n' - 1, by simp at h1; omega⟩
        obtain ⟨g, rfl, hg, hcap, hmax, cg, own'⟩ := own_cut OWN.out
        have HST := hide stk'
        have HF := hide hf
        have OW' := hide own'
        have hkY : k < Y.length := by
          have h3 := congrArg List.length HDR.out
          simp [dir] at h3
          omega
        have h5 : (k1, v1) :: (dir 1 F ++ A') = Y.drop k := HDR.out
        rw [List.drop_eq_getElem_cons hkY] at h5
        injection h5 with h6 hrest
        have hYk : Y[k] = (k1, v1) := h6.symm
        obtain ⟨hwm, hm1, hm2⟩ := cut_facts hcap hmax
        have HRE := hide hrest
        have HKY := hide hkY
        have YL := HY.out k wr.drew (HJ.out _ _ _ HJK.out (.of_calm (Touch.refl (fun _ => False) wr).drew)) hkY
        rw [hYk] at YL
        obtain ⟨fn, tmps, assign, body, hy, hR⟩ := YL
        have HR := hide (hR.mono (R' := fun e W' => ∃ r : Bool, e = .returned (.bool r) ∧ Touch S wr.drew W' ∧ ((r = true ∧ J (k + 1) W') ∨ (r = false ∧ Jx (k + 1) W'))) (fun e W' h => by
          rcases h with ⟨h1, ⟨h2, h3⟩ | ⟨h2, h3⟩⟩
          · exact ⟨true, h2, h1, .inl ⟨rfl, h3⟩⟩
          · exact ⟨false, h2, h1, .inr ⟨rfl, h3⟩⟩))
        have HG := hide hg
        have HMM := hide hmm
        clear hR hmax hcap hg hmm
        obtain ⟨nb, hb⟩ := hn
        have HB := hide hb
        obtain ⟨c0, c1, -, c3, c4⟩ := cells5 (hno hb)
        clear h1 hno own' hf stk' hrest hkY hYk hb h6
        gi_wp2
        gi_region_with (refine ⟨fun h => (nomatch h), HR.out.mono ?_⟩; rintro e W3 ⟨r, rfl, t3, hr3⟩)
        all_goals
          have T3 : Hid (Touch (fun g => S g ∨ W0.heap.size ≤ g) W0 W3) := hide ((HT.out.drew).trans t3 (fun _ _ hs => .inl hs))
          have OW3 := hide (own_touch (OW'.out.touchD) t3 (fun g' hg' hs => by
            have h1 := (own_block OW'.out hg').1
            have h2 := (HS.out g' hs).1
            omega))
          clear c0 c1 c3 c4 cg hy HR t3
          obtain ⟨-, -, -, d3, d4⟩ := cells5 (show W3.heap[b]? = _ from T3.out.heap HB.out (fun hs => by
            rcases hs with hs | hs
            · exact (HS.out b hs).2 _ _ HB.out
            · have := lt_of_heap HB.out; omega))
          rcases hr3 with ⟨rfl, hJ3⟩ | ⟨rfl, hJx3⟩
          · have NX : Hid (Tl S J W0 1 Y (M - 1) (.slice (some ⟨g, 0, none⟩) m cap) (.pointer p1) W3) := hide (by
              refine ⟨k + 1, _, _, _, vs', p1, F, A', rfl, rfl, HF.out, OW3.out, HST.out, HRE.out, HKY.out, hJ3, T3.out, ?_⟩
              have h3 := HMU.out
              have h4 := HST.out.len
              have h5 := OW'.out.1
              simp [dir] at h3 ⊢
              omega)
            have HMP : Hid (M - 1 < M) := hide (by
              have h3 := HMU.out
              have h4 := HST.out.len
              have h5 := OW'.out.1
              simp [dir] at h3
              omega)
            clear hJ3
            gi_wp2
            go_roundw
            case rel => exact ⟨_, NX.out⟩
            case measure =>
              rw [HMM.out]
              exact Nat.lt_of_le_of_lt ((least_spec ⟨_, NX.out⟩).2 _ NX.out) HMP.out
          · have HX := hide hJx3
            clear hJx3
            gi_wp2
            rw [Exit.noGoto_normal]
            go_end0
            exact ⟨⟨_, rfl⟩, .inr ⟨k + 1, HKY.out, HX.out⟩⟩

end Go.Proofs.YtamfcmmhmfhhkaaGreatDoor.LM

namespace Go.Proofs.YtamfcmmhmfhhkaaGreatDoor.LM
open Go.RowKit

/-- The kinds of walks. -/
inductive Kd where
  | all

def Kd.sd : Kd → Nat
  | .all => 0

def Kd.g (_ : ByteArray → ByteArray → Int) : Kd → ByteArray → Bool
  | .all, _ => true

/-- What it tells. -/
def Kd.list (c : ByteArray → ByteArray → Int) (kd : Kd) (X : List (ByteArray × (Option Addr × Nat × Nat))) : List (ByteArray × (Option Addr × Nat × Nat)) := (dir kd.sd X).filter fun a => kd.g c a.1

/-- The function that tells whether a key is within, and what it holds. -/
def Kd.fn : Kd → Nat
  | .all => 38

def Kd.held (_ : World) (_ : Option Addr) (lb : Array Value) : Kd → Prop
  | .all => lb = #[]

theorem Kd.held_calm {w w' : World} {mp : Option Addr} {lb : Array Value} {kd : Kd} (h : kd.held w mp lb) (_ : Calm w w') : kd.held w' mp lb := by
  cases kd with
  | all => exact h

set_option maxRecDepth 100000 in
theorem all1_any (a : ByteArray) (w : World) : Calls Tryz.prog 38 #[.string a] w fun e w' => e = .returned (.bool true) ∧ Calm w w' := by
  have T := hide (Touch.refl (fun _ => False) w)
  go_enter Tryz.func38, Tryz.ntmps38
  go_wp2_with fail
  go_ret
  exact ⟨rfl, T.out⟩

theorem Kd.wi {f : Nat} {lb : Array Value} {c : ByteArray → ByteArray → Int} {Y : World → Prop} (hC : Cmp f lb c Y) (m : Nat) (kd : Kd) (lb2 : Array Value) : Wi kd.fn lb2 (kd.g c) (fun W => kd.held W (some ⟨m, 0, none⟩) lb2 ∧ Y W ∧ ∃ ro, Mp W m f lb ro) where
  enter := by
    intro args w
    cases kd <;> simp only [Kd.fn] <;> kernel_rfl
  calls := by
    rintro a w ⟨h, hY, ro, hm⟩
    cases kd with
    | all =>
      obtain rfl : lb2 = #[] := h
      exact all1_any a w
  calm := by
    rintro w w' ⟨h, hY, ro, hm⟩ ht
    exact ⟨Kd.held_calm h ht, hC.calm _ _ hY ht, ro, ht.at hm⟩

end Go.Proofs.YtamfcmmhmfhhkaaGreatDoor.LM
