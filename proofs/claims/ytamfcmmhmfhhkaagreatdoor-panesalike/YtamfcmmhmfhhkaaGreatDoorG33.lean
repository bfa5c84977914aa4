/- The program's Keys: what it has at hand between two rounds. The program's Keys. The program's panes answer as the laws' walks ask: keys, windows. Arguments: a pane, panes that came in, with the sizes of their keys. -/
import Derived.Test.YtamfcmmhmfhhkaaGreatDoorG26
import Derived.Test.YtamfcmmhmfhhkaaGreatDoorG27
import Derived.Test.YtamfcmmhmfhhkaaGreatDoorG24
import Derived.Test.YtamfcmmhmfhhkaaGreatDoorG32
import Derived.Test.YtamfcmmhmfhhkaaGreatDoorG5
import Derived.Test.YtamfcmmhmfhhkaaGreatDoorG13
import Derived.Test.YtamfcmmhmfhhkaaGreatDoorG25
import Derived.Test.YtamfcmmhmfhhkaaGreatDoorG22
import Derived.Test.YtamfcmmhmfhhkaaGreatDoorG16
import Derived.Test.YtamfcmmhmfhhkaaGreatDoorG19
import Derived.ProofKit
import Derived.OpenShut
import Derived.SizedLaws
import Derived.ChangeMaps5
import Derived.ChangeArms
import Derived.Deep.Slices
import Derived.Deep.DeepHandedRow
namespace Go.Proofs.YtamfcmmhmfhhkaaGreatDoor
open Go.RowKit LM

/-- A key and its row, as Keys tells them. -/
abbrev kpr (x : Rw) : Kp := ⟨x.1, x.2.1, x.2.2.1, x.2.2.2⟩
/-- What Keys may change of what was there. -/
abbrev SK (B : Nat) (X : List Rw) : Nat → Prop := fun g => g = B ∨ ∃ x ∈ X, (rwv x).ownBlock = some g

structure Kst (wb : World) (B b0 : Nat) (L : List Pn) (X : List Rw) (k : Nat) (W : World) : Prop where
  ex : ∃ a c, W.heap[B]? = some (.cells #[.slice a k c] 25 (0, 0)) ∧ encG.Own 32 W wb.heap.size (.slice a k c) ((X.take k).map kpr)
  row : ∀ x ∈ X, encP.Own 40 W b0 (rwv x) (ofP L x.1)
  tr : Touch (SK B X) wb W

theorem tag_ne {W : World} {g : Nat} {cs cs' : Array Value} {t t' : TypeId} {fr fr' : Nat × Nat} (h : W.heap[g]? = some (.cells cs t fr)) (h' : W.heap[g]? = some (.cells cs' t' fr')) (ht : t ≠ t') : False := by
  rw [h] at h'
  injection h' with h'
  injection h' with _ e _
  exact ht e

theorem Kst.turn {S : Nat → Prop} {wb W W' : World} {B b0 k : Nat} {L : List Pn} {X : List Rw} (h : Kst wb B b0 L X k W) (hb : B < wb.heap.size) (hr : ∀ x ∈ X, ∀ g, (rwv x).ownBlock = some g → g < wb.heap.size) (ht : Touch S W W')
    (hS : ∀ g, S g → wb.heap.size ≤ g ∧ ∀ cs fr, W.heap[g]? ≠ some (.cells cs 32 fr)) : Kst wb B b0 L X k W' := by
  obtain ⟨⟨a, c, h1, h2⟩, h3, h4⟩ := h
  have no : ∀ g, g < wb.heap.size → ¬ S g := fun g hg s => by have := (hS g s).1; omega
  refine ⟨⟨a, c, ht.heap h1 (no _ hb), Rc.Own.touch h2 ht fun g hg s => ?_⟩, fun x hx => Rc.Own.touch (h3 x hx) ht fun g hg => no g (hr x hx g hg), h4.trans ht fun g hg s => absurd s (no g hg)⟩
  obtain ⟨-, cur, hc⟩ := Rc.own_block h2 hg
  exact (hS g s).2 _ _ hc

theorem up_inj {X : List Rw} (h : Up cmpS X) {x y : Rw} (hx : x ∈ X) (hy : y ∈ X) (e : x.1 = y.1) : x = y := by
  unfold Up at h
  obtain ⟨i, hi, rfl⟩ := List.mem_iff_getElem.1 hx
  obtain ⟨j, hj, rfl⟩ := List.mem_iff_getElem.1 hy
  rw [List.pairwise_iff_getElem] at h
  rcases Nat.lt_trichotomy i j with g | g | g
  · have := h i j hi hj g
    rw [e, cmpS_me] at this
    omega
  · subst g; rfl
  · have := h j i hj hi g
    rw [e, cmpS_me] at this
    omega

theorem Kst.push {U : Nat → Prop} {wb W W' : World} {B b0 k : Nat} {L : List Pn} {X : List Rw} {x : Rw} {a a2 : Option Addr} {c c2 : Nat} (h : Kst wb B b0 L X k W) (hx : X[k]? = some x)
    (hup : Up cmpS X) (hsep : ∀ x ∈ X, ∀ y ∈ X, x.1 ≠ y.1 → ∀ g, (rwv x).ownBlock = some g → (rwv y).ownBlock ≠ some g)
    (hcell : W.heap[B]? = some (.cells #[.slice a k c] 25 (0, 0))) (hown : encG.Own 32 W wb.heap.size (.slice a k c) ((X.take k).map kpr))
    (hU : ∀ g, U g → g = B ∨ (rwv x).ownBlock = some g ∨ (Value.slice a k c).ownBlock = some g) (ht : Touch U W W')
    (h7 : W'.heap[B]? = some (.cells #[.slice a2 (k + 1) c2] 25 (0, 0))) (ow : encG.Own 32 W' wb.heap.size (.slice a2 (k + 1) c2) ((X.take k).map kpr ++ [kpr x])) (hrow : encP.Own 40 W' b0 (rwv x) (ofP L x.1)) :
    Kst wb B b0 L X (k + 1) W' ∧ Touch (Oth 80 (SK B X) wb.heap.size W) W W' ∧ KeepsOthers W W' := by
  have hxm : x ∈ X := List.mem_of_getElem? hx
  have et : (X.take (k + 1)).map kpr = (X.take k).map kpr ++ [kpr x] := by
    rw [List.take_add_one, hx, List.map_append]; rfl
  have hlow : ∀ g, g < wb.heap.size → U g → SK B X g := fun g hg hu => by
    rcases hU g hu with e | e | e
    · exact .inl e
    · exact .inr ⟨x, hxm, e⟩
    · have := (Rc.own_block hown e).1; omega
  refine ⟨⟨⟨a2, c2, h7, by rw [et]; exact ow⟩, fun y hy => ?_, h.tr.trans ht hlow⟩, ht.mono fun g hg hu => ?_, keeps_touch ht fun g hu => ?_⟩
  · by_cases e : y = x
    · rw [e]; exact hrow
    · refine Rc.Own.touch (h.row y hy) ht fun g hg hu => ?_
      obtain ⟨-, cur, hc⟩ := Rc.own_block (h.row y hy) hg
      rcases hU g hu with e2 | e2 | e2
      · rw [e2] at hc; exact tag_ne hc hcell (by decide)
      · exact hsep x hxm y hy (fun e3 => e (up_inj hup hy hxm e3.symm)) g e2 hg
      · obtain ⟨-, cur2, hc2⟩ := Rc.own_block hown e2
        exact tag_ne hc hc2 (by decide)
  · rcases hU g hu with e | e | e
    · exact .inl (.inl e)
    · exact .inl (.inr ⟨x, hxm, e⟩)
    · obtain ⟨h1, cur, hc⟩ := Rc.own_block hown e
      exact .inr ⟨h1, cur, _, _, hc, by decide⟩
  · rcases hU g hu with e | e | e
    · rw [e]; exact ⟨_, _, _, hcell⟩
    · obtain ⟨-, cur, hc⟩ := Rc.own_block (h.row x hxm) e
      exact ⟨_, _, _, hc⟩
    · obtain ⟨-, cur, hc⟩ := Rc.own_block hown e
      exact ⟨_, _, _, hc⟩

theorem map_getD {X : List Rw} {j : Nat} (hj : j < X.length) : (X.map kpr).getD j kp0 = kpr X[j] := by
  rw [List.getD_eq_getElem?_getD, List.getElem?_map, List.getElem?_eq_getElem hj]; rfl

/-- What Keys answers in the end. -/
theorem Kst.told {wb W w : World} {B b0 : Nat} {L : List Pn} {X : List Rw} {a : Option Addr} {c : Nat} (hup : Up cmpS X) (hkey : ∀ k, (∃ x ∈ X, x.1 = k) ↔ ∃ p ∈ L, p.k = k)
    (hsep : ∀ x ∈ X, ∀ y ∈ X, x.1 ≠ y.1 → ∀ g, (rwv x).ownBlock = some g → (rwv y).ownBlock ≠ some g)
    (hrow : ∀ x ∈ X, encP.Own 40 W b0 (rwv x) (ofP L x.1)) (hown : encG.Own 32 W wb.heap.size (.slice a X.length c) ((X.take X.length).map kpr)) (tr : Touch (SK B X) wb W)
    (hb : w.heap.size ≤ B) (hb0 : w.heap.size ≤ b0) (hw : Calm w wb) : RetK w (.returned (.slice a X.length c)) W L := by
  rw [List.take_length] at hown
  have ek : X.map (·.1) = keysP L := by
    refine keys_one ?_ fun k => ?_
    · show List.Pairwise _ (X.map (·.1))
      rw [List.pairwise_map]
      unfold Up at hup
      exact hup.imp fun {a b} h => kLt_lt.2 h
    · rw [← hkey k, List.mem_map]
  have el : (X.map kpr).length = X.length := List.length_map ..
  refine ⟨a, c, X.map kpr, by rw [el], by rw [el, ← ek, List.length_map], by rw [el]; exact Rc.Own.base hown hw.size, fun j hj => ?_, fun i j hij hj g h1 h2 => ?_, hw.trans tr fun g hg s => ?_⟩
  · rw [el] at hj
    rw [map_getD hj, ← ek]
    have e2 : (X.map (·.1)).getD j ⟨#[]⟩ = X[j].1 := by rw [List.getD_eq_getElem?_getD, List.getElem?_map, List.getElem?_eq_getElem hj]; rfl
    rw [e2]
    have h1 := hrow X[j] (List.getElem_mem hj)
    refine ⟨rfl, (Rc.Own.mem h1).1, ?_⟩
    have e3 := (Rc.Own.mem h1).1
    exact Rc.Own.base h1 hb0
  · rw [el] at hj
    rw [map_getD (by omega)] at h1
    rw [map_getD hj] at h2
    refine hsep X[i] (List.getElem_mem (by omega)) X[j] (List.getElem_mem hj) (fun e => ?_) g h1 h2
    unfold Up at hup
    rw [List.pairwise_iff_getElem] at hup
    have := hup i j (by omega) hj hij
    rw [e, cmpS_me] at this
    omega
  · rcases s with e | ⟨x, hx, e⟩
    · omega
    · have := (Rc.own_block (hrow x hx) e).1; omega

end Go.Proofs.YtamfcmmhmfhhkaaGreatDoor

namespace Go.Proofs.YtamfcmmhmfhhkaaGreatDoor
open Go.RowKit LM
attribute [local go_sem] Oper.semAt_some

/-- A region that draws its order, whose last operation may change memory, inside a round. -/
theorem region_z_round {lr n id : Nat} {P : Program} {Q : Exit → Act → World → Prop} {a : Act} {w : World} {ops : Array Oper} (z : Nat) (S : World → Prop) (hm : P.follows .mixedOrders = true) (hd : (ops.all fun o => match o.op with | .defer _ => false | _ => true) = true)
    (h : wpAnyZ P .any ops (plainly fun a w' => Q .normal a w') S z ops.size (Array.replicate ops.size false) a { w with drawn := w.drawn + 1 }) : (Code.region id ops true).wpIn (Fence.wide.inRound lr) n P Q a w := by
  refine wpIn_region_any hm (any_in_round (G := fun a w' => Q .normal a w') (fun o ho c e => ?_) (fun _ _ h => h) _ _ _ _ (wpAny_of_z _ _ _ _ h))
  have := Array.all_eq_true'.1 hd o ho
  rw [e] at this; cases this

set_option maxRecDepth 100000 in
set_option maxHeartbeats 4000000 in
theorem pkeys_any (L : List Pn) (ao : Option Addr) (ac : Nat) (w : World) (ha : encP.Sl w ao ac L) (hl : L.length ≤ 1000) (hk : KeyB L) : Calls Tryz.prog 7 #[.slice ao L.length ac] w fun e w' => RetK w e w' L := by
  have CB : Hid (∀ W, Calm w W → Calls Tryz.prog 22 #[.slice ao L.length ac] W fun e w' => ∃ m X, e = .returned (.pointer (some ⟨m, 0, none⟩)) ∧ Bk W.heap.size m L X w' ∧ W.heap.size ≤ m ∧ Calm W w') := hide fun W hW => byKeys_any L ao ac W (Rc.Mem.calm ha.mem hW) (by omega)
  have HL := hide hl
  have HK := hide hk
  obtain ⟨R, hR⟩ : ∃ R : Ending → World → Prop, R = fun e w' => RetK w e w' L := ⟨_, rfl⟩
  show Calls _ _ _ _ fun e w' => RetK w e w' L
  rw [← hR]
  have HR := hide hR
  clear ha hl hk hR
  refine (callsIn_wide (n := 3)).1 (callsIn_of_wp_marks Tryz.func7 rfl trivial ?_ rfl)
  simp only [Tryz.ntmps7, List.size_toArray, List.length_cons, List.length_nil, Nat.reduceAdd, Nat.reduceSub, Array.replicate_succ, Array.replicate_zero, List.push_toArray, List.append_toArray, List.nil_append, List.cons_append]
  gi_wp2
  have A3 := hide (al_new w (.cells #[.slice none 0 0] 25))
  have T0 := hide ((Touch.refl (fun _ => False) w).alloc (.cells #[.slice none 0 0] 25))
  have Z0 := hide (al_size w (.cells #[.slice none 0 0] 25))
  refine ⟨trivial, (callsIn_wide.2 (CB.out _ T0.out)).mono ?_⟩
  rintro e w1 ⟨m, X, rfl, K1, -, T1⟩
  rw [Z0.out] at K1
  have A31 := hide (T1.at A3.out)
  have TT1 := hide (T0.out.tr T1)
  have HK1 := hide K1
  clear CB A3 T0 T1 K1 Z0
  obtain ⟨B3, hB3⟩ : ∃ B3, B3 = w.heap.size := ⟨_, rfl⟩
  rw [← hB3] at A31 HK1 ⊢
  have HB3 := hide hB3
  clear hB3
  gi_wp2
  refine ⟨trivial, (callsIn_wide.2 (LM.all_any (some ⟨m, 0, none⟩) w1)).mono ?_⟩
  rintro e w3 ⟨fv, rfl, hW, T3⟩
  obtain ⟨lbv, rfl⟩ := hW.shape
  have A33 := hide (T3.at A31.out)
  have TT3 := hide (TT1.out.tr T3)
  have HB := hide (HK1.out.calm T3)
  have HW := hide hW
  clear hW T3 A31 TT1 HK1
  gi_wp2
  have eL : Kd.list cmpS .all X = X := by
    show List.filter _ X = X
    rw [List.filter_eq_self]
    intro a _
    rfl
  have SQ := Wl.seqO cmpOf m .all lbv X (fun key => HB.out.up.dec cmpS_ord key) ⟨by have := HB.out.num; have := HL.out; omega⟩
  rw [eL] at SQ
  have HSQ := hide SQ
  have HLO : Hid (w.heap.size ≤ B3 ∧ B3 < w3.heap.size) := hide ⟨by rw [HB3.out]; exact Nat.le_refl _, lt_of_heap A33.out⟩
  have HRL : Hid (∀ x ∈ X, ∀ g, (rwv x).ownBlock = some g → g < w3.heap.size) := hide fun x hx g hg => by
    obtain ⟨-, cur, hc⟩ := Rc.own_block (HB.out.row x hx) hg
    exact lt_of_heap hc
  have HXL : Hid (X.length ≤ 1000) := hide (Nat.le_trans HB.out.num HL.out)
  have HKX : Hid (∀ x ∈ X, x.1.size ≤ 140737488351232) := hide fun x hx => by
    obtain ⟨p, hp, e⟩ := (HB.out.key x.1).1 ⟨x, hx, rfl⟩
    rw [← e]; exact HK.out p hp
  have HST : Hid (Kst w3 B3 (B3 + 1) L X 0 w3) := hide ⟨⟨none, 0, A33.out, Rc.Own.nil _ _ _⟩, HB.out.row, Touch.refl _ _⟩
  clear SQ eL
  generalize hAn : L.length = an at *
  refine wpIn_rangeO (gf := 58) (lb := lbv) rfl (enters_of Tryz.func58 (by kernel_rfl) rfl) HSQ.out (fun _ => rfl)
    (SK B3 X) ?hs (fun W h => ⟨HW.out.calm h, HB.out.mt.calm h, trivial⟩)
    (fun k W => Kst w3 B3 (B3 + 1) L X k W)
    (fun _ _ _ => False)
    (fun _ x a' _ => a' = { tmps := #[.slice ao an ac, undef, .slice none 0 0, .pointer (some ⟨B3, 0, none⟩), .string x.1, .slice x.2.1 x.2.2.1 x.2.2.2, .slice ao an ac, .pointer (some ⟨m, 0, none⟩), .func (.func 58) #[] lbv, .string x.1, .slice x.2.1 x.2.2.1 x.2.2.2, undef, undef, undef, undef, undef, undef, undef, undef, undef], defers := [] })
    (fun k W W' h ht => h.turn HLO.out.2 HRL.out ht fun g hg => ⟨hg.1, fun cs fr he => by obtain ⟨-, cs2, fr2, h2⟩ := hg; exact tag_ne he h2 (by decide)⟩)
    (fun k W l o o' h hl hw ho => h.turn HLO.out.2 HRL.out (touch_put W l o') fun g hg => by subst hg; exact ⟨hl, fun cs fr he => by rw [hw] at he; injection he with he; subst he; cases ho⟩)
    (fun c k W l o o' h => h.elim)
    (fun k x a' W l o o' h hl hw ho => h)
    HST.out ?assign ?body ?done ?stop
  case hs =>
    rintro g (rfl | ⟨x, hx, hg⟩)
    · exact ⟨HLO.out.2, fun cs fr he => tag_ne he A33.out (by decide)⟩
    · refine ⟨HRL.out x hx g hg, fun cs fr he => ?_⟩
      obtain ⟨-, cur, hc⟩ := Rc.own_block (HB.out.row x hx) hg
      exact tag_ne he hc (by decide)
  case assign =>
    rintro l k x W K hi hkm hx hK
    have HK := hide hK
    have HI := hide hi
    clear hK hi HW HSQ HST HR
    simp only [encs]
    gi_wp2
    exact HK.out _ _ (KeepsOthers.refl _) (Touch.refl _ _) HI.out rfl
  case body =>
    rintro l k x a' W hI hkm hx rfl
    have hxm : x ∈ X := List.mem_of_getElem? hx
    have hI2 := hI
    obtain ⟨⟨a, c, h1, h2⟩, hrow, htr⟩ := hI2
    have hr0 := hrow x hxm
    have hkx := HKX.out x hxm
    obtain ⟨xk, xo, xn, xc⟩ := x
    dsimp only [rwv] at hr0 hkx
    have ex : xn = (ofP L xk).length := (Rc.Own.mem hr0).1
    have hlen : (ofP L xk).length ≤ 1000 := Nat.le_trans (ofP_le L xk) (by rw [hAn]; exact HL.out)
    have CC : Hid (∀ W, Calls Tryz.prog 24 #[.string xk] W fun e w' => e = .returned (.string xk) ∧ Calm W w') := hide fun W => clone_any xk W hkx
    have CA : Hid (∀ W2, encP.Own 40 W2 (B3 + 1) (.slice xo xn xc) (ofP L xk) → Calls Tryz.prog 25 #[.slice xo xn xc] W2 fun e w' => e = .returned (.slice xo xn xc) ∧ encP.Own 40 w' (B3 + 1) (.slice xo xn xc) (ofP L xk) ∧ Touch (fun g => (Value.slice xo xn xc).ownBlock = some g) W2 w') := hide fun W2 h => by
      have := apart_any (ofP L xk) xo xc (B3 + 1) W2 (by rw [← ex]; exact h) (keyB_of HK.out xk) (by omega)
      rw [← ex] at this
      exact this
    have eA : ((X.take k).map kpr).length = k := by rw [List.length_map, List.length_take]; omega
    have n1 : Hid (∀ g, (Value.slice xo xn xc).ownBlock = some g ∨ (Value.slice a k c).ownBlock = some g → g ≠ B3) := hide fun g hg e => by
      rw [e] at hg
      rcases hg with hg | hg
      · obtain ⟨-, cur, hc⟩ := Rc.own_block hr0 hg
        exact tag_ne hc h1 (by decide)
      · obtain ⟨-, cur, hc⟩ := Rc.own_block h2 hg
        exact tag_ne hc h1 (by decide)
    have SEE : Hid (∀ W2, Touch (fun g => (Value.slice xo xn xc).ownBlock = some g ∨ (Value.slice a k c).ownBlock = some g) W W2 → W2.heap[B3]? = some (.cells #[.slice a k c] 25 (0, 0))) := hide fun W2 h => h.heap h1 fun hg => n1.out _ hg rfl
    have n2 : Hid (∀ g, (Value.slice xo xn xc).ownBlock = some g → ¬ (Value.slice a k c).ownBlock = some g) := hide fun g hg hg2 => by
      obtain ⟨-, cur, hc⟩ := Rc.own_block hr0 hg
      obtain ⟨-, cur2, hc2⟩ := Rc.own_block h2 hg2
      exact tag_ne hc hc2 (by decide)
    have HI := hide hI
    have H1 := hide h1
    have H2 := hide h2
    have HR0 := hide hr0
    have HX := hide hx
    have HTR := hide htr.size
    have hkm2 : k ≤ 1000 := by have := HXL.out; omega
    clear hI h1 h2 hr0 hx hrow htr hxm hkx ex hlen HW HSQ HST HR
    gi_wp2
    refine region_z_round 8 (Touch (fun g => (Value.slice xo xn xc).ownBlock = some g ∨ (Value.slice a k c).ownBlock = some g) W) (by kernel_rfl) (by kernel_rfl) ?_
    have hT0 : Touch (fun g => (Value.slice xo xn xc).ownBlock = some g ∨ (Value.slice a k c).ownBlock = some g) W { W with drawn := W.drawn + 1 } := (Touch.refl _ W).drew
    have hTc : Calm W { W with drawn := W.drawn + 1 } := (Touch.refl _ W).drew
    refine wpAnyZ_yield 0 11 (.slice a k c) [7, 8] rfl rfl (by kernel_rfl) (by kernel_rfl) (by kernel_rfl) (by kernel_rfl) (by kernel_rfl) (fun _ _ _ h => h) (by kernel_rfl) (fun W hW => by obtain ⟨c3, -⟩ := one_cell (SEE.out W hW); go_simp) (by assumption) rfl rfl ?_
    simp only [Act.put, List.setIfInBounds_toArray, List.set_cons_zero, List.set_cons_succ]
    refine wpAnyZ_yield 1 12 (.string xk) [2, 5, 6, 7, 8] rfl rfl (by kernel_rfl) (by kernel_rfl) (by kernel_rfl) (by kernel_rfl) (by kernel_rfl) (fun _ _ _ h => h) (by kernel_rfl) (fun W hW => by kernel_rfl) (by assumption) rfl rfl ?_
    simp only [Act.put, List.setIfInBounds_toArray, List.set_cons_zero, List.set_cons_succ]
    refine wpAnyZ_yield 3 14 (.slice xo xn xc) [4, 5, 6, 7, 8] rfl rfl (by kernel_rfl) (by kernel_rfl) (by kernel_rfl) (by kernel_rfl) (by kernel_rfl) (fun _ _ _ h => h) (by kernel_rfl) (fun W hW => by kernel_rfl) (by assumption) rfl rfl ?_
    simp only [Act.put, List.setIfInBounds_toArray, List.set_cons_zero, List.set_cons_succ]
    refine wpAnyZ_enter 2 13 24 #[.string xk] rfl rfl (by decide) (by kernel_rfl) (by kernel_rfl) (by kernel_rfl) ?_
    refine (CC.out _).mono ?_
    rintro r w4 ⟨rfl, T4⟩
    have TC4 := hTc.tr T4
    have hT4 := hT0.trans T4 fun _ _ h => h.elim
    refine ⟨_, rfl, hT4, ?_⟩
    simp only [Act.put, List.setIfInBounds_toArray, List.set_cons_zero, List.set_cons_succ]
    refine wpAnyZ_enter 4 15 25 #[.slice xo xn xc] rfl rfl (by decide) (by kernel_rfl) (by kernel_rfl) (by kernel_rfl) ?_
    refine (CA.out _ (Rc.Own.calm HR0.out TC4)).mono ?_
    rintro r w5 ⟨rfl, O5, T5⟩
    have hT5 := hT4.trans T5 fun _ _ h => .inl h
    refine ⟨_, rfl, hT5, ?_⟩
    simp only [Act.put, List.setIfInBounds_toArray, List.set_cons_zero, List.set_cons_succ]
    refine wpAnyZ_yield 5 16 (.agg #[.string xk, .slice xo xn xc]) [6, 7, 8] rfl rfl (by kernel_rfl) (by kernel_rfl) (by kernel_rfl) (by kernel_rfl) (by kernel_rfl) (fun _ _ _ h => h) (by kernel_rfl) (fun W hW => by go_simp) (by assumption) rfl rfl ?_
    simp only [Act.put, List.setIfInBounds_toArray, List.set_cons_zero, List.set_cons_succ]
    have E5 := Rc.Own.touch (Rc.Own.calm H2.out TC4) T5 fun g hg h => n2.out g h hg
    obtain ⟨a2, p2, w6, hr, ow, t6⟩ := kp_app1 (A := (X.take k).map kpr) ⟨xk, xo, xn, xc⟩ (by rw [eA]; exact E5) (by have := HTR.out; have := hT5.size; omega) (by rw [eA]; omega)
    rw [eA] at hr t6
    have hT6 := hT5.trans t6 fun _ _ h => .inr h
    refine wpAnyZ_value 6 17 (.slice (some ⟨w5.heap.size, 0, none⟩) 1 1) (w' := w5.alloc (.cells (kpc ⟨xk, xo, xn, xc⟩) 32)) rfl rfl (by decide) (by kernel_rfl) (by kernel_rfl) (by go_simp) (hT5.alloc _) ?_
    simp only [Act.put, List.setIfInBounds_toArray, List.set_cons_zero, List.set_cons_succ]
    refine wpAnyZ_value 7 18 (.slice a2 (k + 1) p2) (w' := w6) rfl rfl (by decide) (by kernel_rfl) (by kernel_rfl) (exec_apk (.tmp 11) (.tmp 17) 25 25 rfl _ _ _ rfl rfl hr) hT6 ?_
    simp only [Act.put, List.setIfInBounds_toArray, List.set_cons_zero, List.set_cons_succ]
    refine wpAnyZ_end rfl (by kernel_rfl) (by kernel_rfl) (by kernel_rfl) ?_
    have O6 := Rc.Own.touch O5 t6 fun g hg h => n2.out g hg h
    have el : ((X.take k).map kpr ++ [kpr (xk, xo, xn, xc)]).length = k + 1 := by rw [List.length_append, eA]; rfl
    have b6 := SEE.out w6 hT6
    obtain ⟨c3, f3⟩ := one_cell b6
    have tS : Touch (fun g => g = B3) w6 (w6.setCell ⟨B3, 0, none⟩ (.slice a2 (k + 1) p2)) := (Touch.refl (fun g => g = B3) w6).setCell (p := ⟨B3, 0, none⟩) (fun _ => rfl) _
    have tU : Touch (fun g => g = B3 ∨ (Value.slice xo xn xc).ownBlock = some g ∨ (Value.slice a k c).ownBlock = some g) W (w6.setCell ⟨B3, 0, none⟩ (.slice a2 (k + 1) p2)) := (hT6.mono fun _ _ h => .inr h).trans tS fun _ _ h => .inl h
    obtain ⟨q1, q2, q3⟩ := Kst.push HI.out HX.out HB.out.up HB.out.sep H1.out H2.out (a2 := a2) (c2 := p2) (fun g h => h) tU (set_one _ b6) (by
      have ow' := ow
      rw [el] at ow'
      exact Rc.Own.touch ow' tS fun g hg e => by
        obtain ⟨-, cur, hc⟩ := Rc.own_block ow' hg
        rw [e] at hc
        exact tag_ne hc b6 (by decide)) (Rc.Own.touch O6 tS fun g hg e => by
        obtain ⟨-, cur, hc⟩ := Rc.own_block O6 hg
        rw [e] at hc
        exact tag_ne hc b6 (by decide))
    have Q1 := hide q1
    have Q2 := hide q2
    have Q3 := hide q3
    clear q1 q2 q3 tU tS b6 O6 el hr ow t6 hT6 E5 T5 O5 hT5 hT4 TC4 T4 hTc hT0
    unfold Oper.wp
    go_simp
    exact ⟨Q3.out, Q2.out, Q1.out⟩
  case done =>
    rintro D W hD hI hd
    obtain ⟨⟨a, c, h1, h2⟩, hrow, htr⟩ := hI
    have tP := touch_put W D (.deferred none)
    have fin : Hid (R (.returned (.slice a X.length c)) (W.putObj D (.deferred none))) := hide (by
      rw [HR.out]
      refine Kst.told HB.out.up HB.out.key HB.out.sep (fun x hx => Rc.Own.touch (hrow x hx) tP fun g hg e => ?_) (Rc.Own.touch h2 tP fun g hg e => ?_) (htr.trans tP fun g hg e => by omega) HLO.out.1 (by have := HLO.out.1; omega) TT3.out
      · obtain ⟨-, cur, hc⟩ := Rc.own_block (hrow x hx) hg
        rw [e, hd] at hc; cases hc
      · obtain ⟨-, cur, hc⟩ := Rc.own_block h2 hg
        rw [e, hd] at hc; cases hc)
    obtain ⟨c3, -⟩ := one_cell h1
    have HD2 := hide hd
    clear h1 h2 hrow htr hd HW HSQ HST HR HXL HKX HRL tP
    gi_wp2
    refine ⟨by simp, .inl ⟨_, _, rfl, run_takeDeferred HD2.out, ?_⟩⟩
    exact ⟨.slice a X.length c, by simp [results, Tryz.results7, go_sem], fin.out⟩
  case stop => rintro D c k W hD hkm h; exact h.elim

end Go.Proofs.YtamfcmmhmfhhkaaGreatDoor

namespace Go.Proofs.YtamfcmmhmfhhkaaGreatDoor
open Go.RowKit

theorem panes_k : Ppk where
  line p w hn hy := line_any p w hn hy
  parse s w hs hy := (parse_any s hs w hy).mono fun _ _ ⟨⟨o, ho, he⟩, hc⟩ => ⟨o, ho, he, hc⟩
  alike A B ao bo ac bc w ha hb hl hm := alike_any A B ao bo ac bc w ha hb hl hm
  begins A B ao bo ac bc w ha hb hl hm := begins_any A B ao bo ac bc w ha hb hl hm
theorem panes_l : Ppl where
  toPpk := panes_k
  keys L ao ac w hs hl hk := pkeys_any L ao ac w hs hl hk
  of L k ao ac w hs hl hk := pof_any L k ao ac w hs hl hk
  last L ao ac w hs hl hk := plast_any L ao ac w hs hl hk

end Go.Proofs.YtamfcmmhmfhhkaaGreatDoor

namespace Go.Proofs.YtamfcmmhmfhhkaaGreatDoor
open Go.ChangeShapes Go.WideShapes Go.ChangeAt Go.RowKit Go.Deep

theorem weights_allR {H : Type} {P : Program} {e : TypeId} : ∀ (l : List (DataW H)) (d : DataW H), d ∈ l → ∀ n ∈ d.weights P e, n ∈ DataW.weightsAll P e l
  | x :: r, d, hd, n, hn => by
    simp only [DataW.weightsAll, List.mem_append]
    rcases List.mem_cons.1 hd with rfl | hd
    · exact .inl hn
    · exact .inr (weights_allR r d hd n hn)

set_option maxRecDepth 100000 in
theorem tallyR_in {H : Type} {enc : TypeId × Value → H} {W : World} {fuel base : Nat} {spare : Nat → Bool} {held : Bool} {cs : List Value} {x : DataW H × List MemPlace}
    (hf : DataW.trod enc Tryz.prog W base spare held fuel 38 cs = some x) : ∃ t : Tl, cs = (tlc t).toList := by
  have c4 : Tryz.prog.cellsOf 38 = 4 := by kernel_rfl
  have c1 : Tryz.prog.cellsOf 2 = 1 := by kernel_rfl
  obtain ⟨xs, k, -, hx, hcl, hxl, hfs⟩ := DataW.trod_struct Tryz.underlying38 hf
  rw [c4] at hcl
  match xs, hxl, cs, hcl with
  | [y0, y1, y2, y3], _, [v0, v1, v2, v3], _ =>
    have g0 := hfs 0 _ rfl
    have g1 := hfs 1 _ rfl
    have g2 := hfs 2 _ rfl
    have g3 := hfs 3 _ rfl
    simp [c1] at g0 g1 g2 g3
    obtain ⟨a0, e0, z0, w0⟩ := DataW.trod_int Tryz.underlying2 g0
    obtain ⟨a1, e1, z1, w1⟩ := DataW.trod_int Tryz.underlying2 g1
    obtain ⟨a2, e2, z2, w2⟩ := DataW.trod_int Tryz.underlying2 g2
    obtain ⟨a3, e3, z3, w3⟩ := DataW.trod_int Tryz.underlying2 g3
    injection e0 with e0
    injection e1 with e1
    injection e2 with e2
    injection e3 with e3
    exact ⟨⟨a0, a1, a2, a3⟩, by rw [e0, e1, e2, e3]⟩
set_option maxRecDepth 100000 in
theorem spanR_in {H : Type} {enc : TypeId × Value → H} {W : World} {fuel base : Nat} {spare : Nat → Bool} {held : Bool} {cs : List Value} {x : DataW H × List MemPlace}
    (hf : DataW.trod enc Tryz.prog W base spare held fuel 35 cs = some x) : ∃ a b : Int, cs = [.int .i64 a, .int .i64 b] := by
  have c4 : Tryz.prog.cellsOf 35 = 2 := by kernel_rfl
  have c1 : Tryz.prog.cellsOf 2 = 1 := by kernel_rfl
  obtain ⟨xs, k, -, hx, hcl, hxl, hfs⟩ := DataW.trod_struct Tryz.underlying35 hf
  rw [c4] at hcl
  match xs, hxl, cs, hcl with
  | [y0, y1], _, [v0, v1], _ =>
    have g0 := hfs 0 _ rfl
    have g1 := hfs 1 _ rfl
    simp [c1] at g0 g1
    obtain ⟨a0, e0, z0, w0⟩ := DataW.trod_int Tryz.underlying2 g0
    obtain ⟨a1, e1, z1, w1⟩ := DataW.trod_int Tryz.underlying2 g1
    injection e0 with e0
    injection e1 with e1
    exact ⟨a0, a1, by rw [e0, e1]⟩
set_option maxRecDepth 100000 in
theorem paneR_in {H : Type} {enc : TypeId × Value → H} {W : World} {fuel base : Nat} {spare : Nat → Bool} {held : Bool} {cs : List Value} {x : DataW H × List MemPlace}
    (hf : DataW.trod enc Tryz.prog W base spare held fuel 40 cs = some x) : ∃ t : Pn, cs = (pnc t).toList ∧ t.k.size ∈ x.1.weights Tryz.prog 40 := by
  have c9 : Tryz.prog.cellsOf 40 = 9 := by kernel_rfl
  have c4 : Tryz.prog.cellsOf 38 = 4 := by kernel_rfl
  have c2 : Tryz.prog.cellsOf 35 = 2 := by kernel_rfl
  have c1 : Tryz.prog.cellsOf 2 = 1 := by kernel_rfl
  have cs1 : Tryz.prog.cellsOf 9 = 1 := by kernel_rfl
  have ck : Tryz.prog.cellsOf 36 = 1 := by kernel_rfl
  obtain ⟨xs, k, -, hx, hcl, hxl, hfs⟩ := DataW.trod_struct Tryz.underlying40 hf
  rw [c9] at hcl
  match xs, hxl, cs, hcl with
  | [y0, y1, y2, y3, y4], _, [v0, v1, v2, v3, v4, v5, v6, v7, v8], _ =>
    have g0 := hfs 0 _ rfl
    have g1 := hfs 1 _ rfl
    have g2 := hfs 2 _ rfl
    have g3 := hfs 3 _ rfl
    have g4 := hfs 4 _ rfl
    simp [c1, c2, c4, cs1, ck] at g0 g1 g2 g3 g4
    obtain ⟨a0, e0, z0, w0⟩ := DataW.trod_string Tryz.underlying9 g0
    obtain ⟨a, b, e1⟩ := spanR_in g1
    obtain ⟨a2, e2, z2, w2⟩ := DataW.trod_int Tryz.underlying36 g2
    obtain ⟨a3, e3, z3, w3⟩ := DataW.trod_int Tryz.underlying2 g3
    obtain ⟨t, e4⟩ := tallyR_in g4
    simp at e1 e4
    obtain ⟨rfl, rfl⟩ := e1
    obtain ⟨rfl, rfl, rfl, rfl⟩ := e4
    injection e0 with e0
    injection e2 with e2
    injection e3 with e3
    refine ⟨⟨a0, a, b, a2, a3, t⟩, by rw [e0, e2, e3], ?_⟩
    rw [hx]
    simp [DataW.weights, DataW.weightsEach, Tryz.underlying40, z0]
set_option maxRecDepth 100000 in
theorem paneR_arg {H : Type} {enc : TypeId × Value → H} {W : World} {base : Nat} {r : Reach} {b0 : Nat} {spare : Nat → Bool} {held : Bool} {v : Value} {d : DataW H} {p : List MemPlace} (hv : Value.okWide Tryz.prog W r b0 40 v)
    (h : DataW.Trod enc Tryz.prog W base spare held 40 v d p) : ∃ t : Pn, v = pnv t := by
  obtain ⟨cs, rfl, -⟩ := okWide_struct Tryz.underlying40 hv
  obtain ⟨fuel, hf⟩ := h
  obtain ⟨t, e, -⟩ := paneR_in hf
  refine ⟨t, ?_⟩
  have : cs = pnc t := Array.toList_inj.1 e
  rw [this]
theorem cell_spotR {w : World} {a : Addr} {v : Value} (h : w.cell? (a.add 0) = some v) : a.spot = none := by
  obtain ⟨b, o, sp⟩ := a
  have hs : ((⟨b, o, sp⟩ : Addr).add 0) = ⟨b, o, sp⟩ := by unfold Addr.add; split <;> simp_all
  rw [hs] at h
  cases sp with
  | none => rfl
  | some x =>
    unfold World.cell? at h
    split at h <;> simp at h
theorem cellsPaneR : Tryz.prog.cellsOf 40 = 9 := by kernel_rfl
set_option maxRecDepth 100000 in
theorem panesR_in {H : Type} {enc : TypeId × Value → H} {W : World} {fuel base : Nat} {spare : Nat → Bool} {held : Bool} {v : Value} {x : DataW H × List MemPlace}
    (hf : DataW.trod enc Tryz.prog W base spare held fuel 22 [v] = some x) (hw : ∀ n ∈ x.1.weights Tryz.prog 22, n ≤ 140737488351232) :
    ∃ (ao : Option Addr) (cap : Nat) (l : List Pn), v = .slice ao l.length cap ∧ encP.Sl W ao cap l ∧ KeyB l := by
  rcases Go.Deep.open_slice Tryz.underlying22 hf with ⟨hcs, _⟩ | ⟨a, len, cap, m, n, D, Pl, hcs, _, hl, _, hmm, hx, hel⟩
  · injection hcs with hcs
    exact ⟨none, 0, [], hcs, Rc.Sl.empty _, fun p hp => (nomatch hp)⟩
  · injection hcs with hcs
    have hlm : len ≤ m := by rw [hmm]; split <;> omega
    subst hx
    have each : ∀ i, ∃ t : Pn, i < len → (∀ j (hj : j < 9), W.cell? (a.add (i * 9 + j)) = some ((pnc t).toList[j]'hj)) ∧ t.k.size ≤ 140737488351232 := fun i => by
      by_cases hi : i < len
      · obtain ⟨cs', h1, h2⟩ := hel i (by omega)
        rw [cellsPaneR] at h1
        obtain ⟨_, hlc, hcell⟩ := World.cells?_some h1
        obtain ⟨t, et, ok⟩ := paneR_in h2
        subst et
        refine ⟨t, fun _ => ⟨fun j hj => ?_, hw _ ?_⟩⟩
        · have e0 := hcell j (by omega)
          rw [Go.Deep.add_add] at e0
          exact e0.trans (List.getElem?_eq_getElem _)
        · simp only [DataW.weights, Tryz.underlying22, List.mem_cons, List.mem_append]
          exact .inr (.inl (weights_allR _ (D i) (List.mem_map.2 ⟨i, by simpa using hi, rfl⟩) _ ok))
      · exact ⟨pn0, fun h => absurd h hi⟩
    obtain ⟨f, hf'⟩ := Classical.axiomOfChoice each
    refine ⟨some a, cap, (List.range len).map f, by simpa using hcs, ⟨fun i u hu => ?_, fun h => (nomatch h), by simp; omega⟩, fun p hp => ?_⟩
    · have hi : i < (encP.flat ((List.range len).map f)).length := (List.getElem?_eq_some_iff.1 hu).1
      rw [encP.flat_len] at hi
      have e9 : encP.n = 9 := rfl
      rw [e9, List.length_map, List.length_range] at hi
      have hj : i / 9 < len := by omega
      have h0 := (hf' 0 (by omega)).1 0 (by omega)
      simp only [Nat.zero_mul, Nat.zero_add] at h0
      have hsp := cell_spotR h0
      obtain ⟨b, o, sp⟩ := a
      simp only at hsp
      subst hsp
      have c := (hf' (i / 9) hj).1 (i % 9) (by omega)
      rw [Addr.add_lit] at c
      have ei : i / 9 * 9 + i % 9 = i := by omega
      rw [ei] at c
      have g := encP.flat_get ((List.range len).map f) (i / 9) (by simpa using hj) (i % 9) (by rw [e9]; omega)
      rw [e9, ei, hu] at g
      refine ⟨b, o, rfl, c.trans ?_⟩
      rw [g]
      have : ((List.range len).map f)[i / 9]'(by simpa using hj) = f (i / 9) := by simp
      rw [this]
      exact (List.getElem?_eq_getElem _).symm
    · obtain ⟨i, hi, rfl⟩ := List.mem_map.1 hp
      exact (hf' i (by simpa using hi)).2

end Go.Proofs.YtamfcmmhmfhhkaaGreatDoor
