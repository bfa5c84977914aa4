/- Two lists of keys' panes that are the same are told to be so (the document's). Begins (the document's). What the program's panes are to answer: the laws are walked over this, and the program is held against it. -/
import Derived.Test.YtamfcmmhmfhhkaaDoorG14
import Derived.Test.YtamfcmmhmfhhkaaDoorG11
import Derived.Test.YtamfcmmhmfhhkaaDoorG12
import Derived.Test.YtamfcmmhmfhhkaaDoorG13
import Derived.Deep.CutRange
namespace Go.Proofs.YtamfcmmhmfhhkaaDoor
open Go.RowKit

theorem kp_W {w : World} {ao : Option Addr} {L : List Kp} (h : encG.Mem w ao L) (j : Nat) (hj : j < L.length) : ∃ g off, ao = some ⟨g, off, none⟩ ∧ ∀ W, Calm w W → W.cell? ⟨g, off + j * 2, none⟩ = some (.string (L.getD j kp0).k) ∧ W.cell? ⟨g, off + j * 2 + 1, none⟩ = some (.slice (L.getD j kp0).o (L.getD j kp0).n (L.getD j kp0).c) := by
  obtain ⟨g, off, e, -⟩ := kp_at h j hj
  refine ⟨g, off, e, fun W hW => ?_⟩
  obtain ⟨g2, off2, e2, k⟩ := kp_at (Rc.Mem.calm h hW) j hj
  rw [e] at e2
  injection e2 with e2
  injection e2 with e3 e4
  subst e3 e4
  exact k

end Go.Proofs.YtamfcmmhmfhhkaaDoor

namespace Go.Proofs.YtamfcmmhmfhhkaaDoor
open Go.RowKit

/-- Are a key's panes of the one list the first ones of the other's? -/
def okB (A B : List Pn) (k : ByteArray) : Bool := decide ((ofP A k).length ≤ (ofP B k).length) && decide (ofP A k = (ofP B k).take (ofP A k).length)
def beginsP (A B : List Pn) : Bool := (keysP A).all (okB A B)

end Go.Proofs.YtamfcmmhmfhhkaaDoor

namespace Go.Proofs.YtamfcmmhmfhhkaaDoor
open Go.RowKit

/-- What is told of a pane's line. -/
abbrev lineV (p : Pn) : Value := .tuple #[.string (if mayP p then lineB p else ⟨#[]⟩), .int .i64 (if mayP p then 0 else 2)]
def parE (o : Option Pn) : Value := .tuple #[pnv (o.getD pn0), .int .i64 (if o.isSome then 0 else 280)]
def aliP (A B : List Pn) : Bool := beginsP A B && beginsP B A

structure Ppk : Prop where
  line : ∀ (p : Pn) (w : World), NumOk p → Yv w → Calls Tryd.prog 8 #[pnv p] w fun e w' => e = .returned (lineV p) ∧ Calm w w'
  parse : ∀ (s : ByteArray) (w : World), s.size ≤ 900000 → Yv w → Calls Tryd.prog 15 #[.string s] w fun e w' => ∃ o, ParR s o ∧ e = .returned (parE o) ∧ Calm w w'
  alike : ∀ (A B : List Pn) (ao bo : Option Addr) (ac bc : Nat) (w : World), encP.Sl w ao ac A → encP.Sl w bo bc B → A.length ≤ 1000 → B.length ≤ 1000 → Calls Tryd.prog 22 #[.slice ao A.length ac, .slice bo B.length bc] w fun e w' => e = .returned (.bool (aliP A B)) ∧ Calm w w'
  begins : ∀ (A B : List Pn) (ao bo : Option Addr) (ac bc : Nat) (w : World), encP.Sl w ao ac A → encP.Sl w bo bc B → A.length ≤ 1000 → B.length ≤ 1000 → Calls Tryd.prog 39 #[.slice ao A.length ac, .slice bo B.length bc] w fun e w' => e = .returned (.bool (beginsP A B)) ∧ Calm w w'

/-- The document's example. -/
abbrev exP : Pn := ⟨⟨#[97]⟩, 0, 10, 3, 2, ⟨3, 6, -2, 7⟩⟩
abbrev exB : ByteArray := ⟨#[34, 97, 34, 32, 108, 97, 116, 101, 32, 48, 32, 49, 48, 32, 50, 32, 51, 32, 54, 32, 45, 50, 32, 55]⟩
theorem exNum : NumOk exP := by
  intro i hi
  rcases (by omega : i = 0 ∨ i = 1 ∨ i = 2 ∨ i = 3 ∨ i = 4 ∨ i = 5 ∨ i = 6) with rfl | rfl | rfl | rfl | rfl | rfl | rfl <;> simp [numsP]
theorem exMay : mayP exP = true := by decide
theorem exInt (n : Nat) (h : n < 10) : (intB (n : Int)).toList = [UInt8.ofNat (48 + n)] := by
  rw [intB_list, if_neg (by omega), List.nil_append, Int.natAbs_natCast]
  unfold Lib.decDigits
  rw [dif_pos h]
theorem exInt10 : (intB 10).toList = [49, 48] := by
  rw [intB_list, if_neg (by omega), List.nil_append]
  show Lib.decDigits 10 = _
  unfold Lib.decDigits
  rw [dif_neg (by omega)]
  unfold Lib.decDigits
  rw [dif_pos (by omega)]
  rfl
theorem exIntN : (intB (-2)).toList = [45, 50] := by
  rw [intB_list, if_pos (by omega)]
  show [45] ++ Lib.decDigits 2 = _
  unfold Lib.decDigits
  rw [dif_pos (by omega)]
  rfl
theorem exQk : qk ⟨#[97]⟩ = [34, 97, 34] := by
  unfold qk quoA quoL
  rw [ByteArray.toList_eq]
  decide
theorem exLine : lineB exP = exB := by
  apply ba_ext
  rw [line_split, exQk]
  have h0 := exInt 0 (by omega)
  have h2 := exInt 2 (by omega)
  have h3 := exInt 3 (by omega)
  have h6 := exInt 6 (by omega)
  have h7 := exInt 7 (by omega)
  have hn : (nameB 3).toList = [108, 97, 116, 101] := by rw [ByteArray.toList_eq]; rfl
  have e : tlP exP = [[], [108, 97, 116, 101], [48], [49, 48], [50], [51], [54], [45, 50], [55]] := by
    show [] :: (nameB 3).toList :: [(intB 0).toList, (intB 10).toList, (intB 2).toList, (intB 3).toList, (intB 6).toList, (intB (-2)).toList, (intB 7).toList] = _
    rw [hn, exInt10, exIntN, show (intB 0).toList = [48] from h0, show (intB 2).toList = [50] from h2, show (intB 3).toList = [51] from h3, show (intB 6).toList = [54] from h6, show (intB 7).toList = [55] from h7]
  rw [e, ByteArray.toList_eq]
  rfl
theorem beginsP_self (A : List Pn) : beginsP A A = true := by
  unfold beginsP okB
  rw [List.all_eq_true]
  intro k _
  simp
theorem aliP_self (A : List Pn) : aliP A A = true := by unfold aliP; rw [beginsP_self]; rfl
theorem line_par {p : Pn} {o : Option Pn} (hm : mayP p = true) (hn : NumOk p) (h : ParR (lineB p) o) : o = some p := ParR.one h ⟨hm, hn, rfl⟩

set_option maxRecDepth 100000 in
set_option maxHeartbeats 4000000 in
theorem known18_any (I : Ppk) (w : World) (hY : Yv w) : Calls Tryd.prog 6 #[] w fun e w' => e = .returned (.bool true) ∧ Calm w w' := by
  have CL := hide (fun W (h : Calm w W) => I.line exP W exNum (hY.calm h))
  rw [show lineV exP = .tuple #[.string exB, .int .i64 0] by unfold lineV; rw [exMay, exLine]; rfl] at CL
  have CP := hide (fun W (h : Calm w W) => I.parse exB W (by decide) (hY.calm h))
  have CP1 : Hid (∀ o, ParR exB o → o = some exP) := hide fun o h => line_par exMay exNum (by rw [exLine]; exact h)
  have CA := hide (fun (ao bo : Option Addr) (W : World) h1 h2 => I.alike [exP] [exP] ao bo 1 1 W h1 h2 (by decide) (by decide))
  rw [aliP_self] at CA
  have hi9 : (Tryd.prog.info? 29).map (·.size) = some 9 := by kernel_rfl
  have A0 := hide (al_new w (.cells (pnc exP) 29))
  have T0 := hide ((Touch.refl (fun _ => False) w).alloc (.cells (pnc exP) 29))
  go_enter Tryd.func6, Tryd.ntmps6
  go_wp2_with fail
  refine (CL.out _ T0.out).mono ?_
  rintro e w1 ⟨rfl, T1⟩
  have TE1 := hide (T0.out.tr T1)
  have AE1 := hide (T1.at A0.out)
  clear CL A0 T0 T1
  generalize w.heap.size = D at *
  go_wp2_with fail
  refine (CP.out _ TE1.out).mono ?_
  rintro e w2 ⟨o, hp, rfl, T2⟩
  obtain rfl := CP1.out o hp
  have TE2 := hide (TE1.out.tr T2)
  have AE2 := hide (T2.at AE1.out)
  have Z0 := hide (al_new w2 (.cells (pnc pn0) 29))
  have Z1 := hide (setRow_heap _ _ _ (pnc exP) _ _ Z0.out)
  have Z2 : Hid (Touch (fun _ => False) w2 ((w2.alloc (.cells (pnc pn0) 29)).setRow w2.heap.size (pnc exP))) := hide (((Touch.refl (fun _ => False) w2).alloc _).trans (S' := fun g => g = w2.heap.size) ⟨rfl, rfl, rfl, by simp, fun j _ hj => setRow_other _ _ j _ hj⟩ (fun g hg e => by omega))
  have hq1 : Hid ((pnc exP).all (·.oneCell') = true) := hide (by simp [Value.oneCell'])
  have AE3 := hide (Z2.out.at AE2.out)
  have TE3 := hide (TE2.out.tr Z2.out)
  clear TE1 AE1 CP CP1 T2 hp TE2 AE2
  unfold parE
  simp only [Option.getD_some, Option.isSome_some, if_true]
  go_upto_region 4 with (refine wpList_store_rowTo rfl 29 (.tmp 4) (.tmp 17) rfl rfl w2.heap.size _ rfl rfl 29 _ Z0.out hi9 rfl hq1.out ?_)
  generalize (w2.alloc (.cells (pnc pn0) 29)).setRow w2.heap.size (pnc exP) = w3 at *
  generalize w2.heap.size = E at *
  clear Z0 Z2 hq1
  obtain ⟨⟨c0, c1, c2, c3, c4⟩, c5, c6, c7, c8⟩ := pn_cells Z1.out
  obtain ⟨⟨d0, d1, d2, d3, d4⟩, d5, d6, d7, d8⟩ := pn_cells AE3.out
  obtain ⟨⟨e0, e1, e2, e3, e4⟩, e5, e6, e7, e8⟩ := pn_cells (al_old Z1.out (.cells (pnc exP) 29))
  have S1 := hide ((Touch.refl (fun _ => False) w3).alloc (.cells (pnc exP) 29))
  have S2 := hide (S1.out.alloc (.cells (pnc exP) 29))
  have M1 := hide (Rc.Mem.calm (Rc.Mem.new (E := encP) w3 [exP] 29) ((Touch.refl (fun _ => False) _).alloc (.cells (pnc exP) 29)))
  have m2 := Rc.Mem.new (E := encP) (w3.alloc (.cells (pnc exP) 29)) [exP] 29
  rw [al_size] at m2
  have M2 := hide m2
  clear m2
  go_wp2_with fail
  refine (CA.out _ _ _ ⟨M1.out, fun h => (nomatch h), Nat.le_refl _⟩ ⟨M2.out, fun h => (nomatch h), Nat.le_refl _⟩).mono ?_
  rintro e w4 ⟨rfl, T4⟩
  have HT := hide ((TE3.out.tr S2.out).tr T4)
  clear T4 S1 S2 M1 M2 CA
  go_wp2_with fail
  go_ret
  exact ⟨rfl, HT.out⟩

end Go.Proofs.YtamfcmmhmfhhkaaDoor
