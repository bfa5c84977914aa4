/- The program's kinds and the library's tables in memory. Begins (the document's). What the program's panes are to answer: the laws are walked over this, and the program is held against it. What the program's panes are to answer: Keys, Of, Last. -/
import Derived.Test.YtamfcmmhmfhhkaaGreatDoorG13
import Derived.Test.YtamfcmmhmfhhkaaGreatDoorG10
import Derived.Test.YtamfcmmhmfhhkaaGreatDoorG11
import Derived.Lib.ItoaLen
import Derived.Lib.AppendIntMem
import Derived.Lib.ParseIntBTie
import Derived.Test.YtamfcmmhmfhhkaaGreatDoorG5
import Derived.Test.YtamfcmmhmfhhkaaGreatDoorG3
import Derived.Deep.CutRange
import Derived.Test.YtamfcmmhmfhhkaaGreatDoorG6
import Derived.Test.YtamfcmmhmfhhkaaGreatDoorG7
namespace Go.Proofs.YtamfcmmhmfhhkaaGreatDoor
open Go.RowKit

/-- The library's table of tens stands. -/
def Tab (w : World) : Prop := Lib.TabIs Tryz.prog w "internal/strconv.uint64pow10" .u64 Lib.pow10Tab
theorem Tab.calm {w w' : World} (h : Tab w) (ht : Calm w w') : Tab w' := Lib.tabBelow_of_tabIs h w' (Touch.below ht fun _ _ h => h)
theorem Tab.below {w : World} (h : Tab w) {B : Nat} (hB : B = w.heap.size) : Lib.TabBelow Tryz.prog B w "internal/strconv.uint64pow10" .u64 Lib.pow10Tab := by subst hB; exact Lib.tabBelow_of_tabIs h

theorem cell_calm {w w' : World} {b i : Nat} {v : Value} (h : w.cell? ⟨b, i, none⟩ = some v) (ht : Calm w w') : w'.cell? ⟨b, i, none⟩ = some v := by
  rw [ht.cell (p := ⟨b, i, none⟩) ?_ (fun h => h)]
  · exact h
  · rcases Nat.lt_or_ge b w.heap.size with h' | h'
    · exact h'
    · exfalso; simp [World.cell?, Array.getElem?_eq_none h'] at h

/-- The library's errors and the limit of its search lie there. -/
def Errs (w : World) : Prop := (∃ te pe, w.cell? ⟨3, 0, none⟩ = some (.iface te pe)) ∧ (∃ te pe, w.cell? ⟨4, 0, none⟩ = some (.iface te pe)) ∧ ∃ m, w.cell? ⟨2, 0, none⟩ = some (.int .i64 m)
theorem Errs.calm {w w' : World} (h : Errs w) (ht : Calm w w') : Errs w' := by
  obtain ⟨⟨a, b, h1⟩, ⟨c, d, h2⟩, m, h3⟩ := h
  exact ⟨⟨a, b, cell_calm h1 ht⟩, ⟨c, d, cell_calm h2 ht⟩, m, cell_calm h3 ht⟩

/-- The program's words for kinds: at 0 none. -/
def kdB (i : Nat) : ByteArray := if i = 0 then ⟨#[]⟩ else nameB (i : Int)
/-- They lie there. -/
def Kds (w : World) : Prop := ∀ i, i < 4 → w.cell? ⟨0, i, none⟩ = some (.string (kdB i))
theorem Kds.calm {w w' : World} (h : Kds w) (ht : Calm w w') : Kds w' := fun i hi => cell_calm (h i hi) ht

/-- What the program's variables hold. -/
structure Yv (w : World) : Prop where
  tab : Tab w
  errs : Errs w
  kds : Kds w
theorem Yv.calm {w w' : World} (h : Yv w) (ht : Calm w w') : Yv w' := ⟨h.tab.calm ht, h.errs.calm ht, h.kds.calm ht⟩
theorem calm_below {w w' : World} (h : Below w.heap.size w w') : Calm w w' := ⟨h.os, h.tape, h.output, h.size, fun k hk _ => h.block k hk⟩

end Go.Proofs.YtamfcmmhmfhhkaaGreatDoor

namespace Go.Proofs.YtamfcmmhmfhhkaaGreatDoor
open Go.RowKit

/-- Are a key's panes of the one list the first ones of the other's? -/
def okB (A B : List Pn) (k : ByteArray) : Bool := decide ((ofP A k).length ≤ (ofP B k).length) && decide (ofP A k = (ofP B k).take (ofP A k).length)
def beginsP (A B : List Pn) : Bool := (keysP A).all (okB A B)

end Go.Proofs.YtamfcmmhmfhhkaaGreatDoor

namespace Go.Proofs.YtamfcmmhmfhhkaaGreatDoor
open Go.RowKit

/-- What is told of a pane's line. -/
abbrev lineV (p : Pn) : Value := .tuple #[.string (if mayP p then lineB p else ⟨#[]⟩), .int .i64 (if mayP p then 0 else 2)]
def parE (o : Option Pn) : Value := .tuple #[pnv (o.getD pn0), .int .i64 (if o.isSome then 0 else 280)]
def aliP (A B : List Pn) : Bool := beginsP A B && beginsP B A

structure Ppk : Prop where
  line : ∀ (p : Pn) (w : World), NumOk p → Yv w → Calls Tryz.prog 20 #[pnv p] w fun e w' => e = .returned (lineV p) ∧ Calm w w'
  parse : ∀ (s : ByteArray) (w : World), s.size ≤ 900000 → Yv w → Calls Tryz.prog 21 #[.string s] w fun e w' => ∃ o, ParR s o ∧ e = .returned (parE o) ∧ Calm w w'
  alike : ∀ (A B : List Pn) (ao bo : Option Addr) (ac bc : Nat) (w : World), encP.Sl w ao ac A → encP.Sl w bo bc B → A.length ≤ 1000 → B.length ≤ 1000 → Calls Tryz.prog 17 #[.slice ao A.length ac, .slice bo B.length bc] w fun e w' => e = .returned (.bool (aliP A B)) ∧ Calm w w'
  begins : ∀ (A B : List Pn) (ao bo : Option Addr) (ac bc : Nat) (w : World), encP.Sl w ao ac A → encP.Sl w bo bc B → A.length ≤ 1000 → B.length ≤ 1000 → Calls Tryz.prog 16 #[.slice ao A.length ac, .slice bo B.length bc] w fun e w' => e = .returned (.bool (beginsP A B)) ∧ Calm w w'

/-- The document's example. -/
abbrev exP : Pn := ⟨⟨#[97]⟩, 0, 10, 3, 2, ⟨3, 6, -2, 7⟩⟩
abbrev exB : ByteArray := ⟨#[34, 97, 34, 32, 108, 97, 116, 101, 32, 48, 32, 49, 48, 32, 50, 32, 51, 32, 54, 32, 45, 50, 32, 55]⟩
theorem exNum : NumOk exP := by
  intro i hi
  rcases (by omega : i = 0 ∨ i = 1 ∨ i = 2 ∨ i = 3 ∨ i = 4 ∨ i = 5 ∨ i = 6) with rfl | rfl | rfl | rfl | rfl | rfl | rfl <;> simp [numsP]
theorem exMay : mayP exP = true := by decide
theorem exInt (n : Nat) (h : n < 10) : (intB (n : Int)).toList = [UInt8.ofNat (48 + n)] := by
  rw [intB_list, if_neg (by omega), List.nil_append, Int.natAbs_natCast]
  unfold Lib.decDigits
  rw [dif_pos h]
theorem exInt10 : (intB 10).toList = [49, 48] := by
  rw [intB_list, if_neg (by omega), List.nil_append]
  show Lib.decDigits 10 = _
  unfold Lib.decDigits
  rw [dif_neg (by omega)]
  unfold Lib.decDigits
  rw [dif_pos (by omega)]
  rfl
theorem exIntN : (intB (-2)).toList = [45, 50] := by
  rw [intB_list, if_pos (by omega)]
  show [45] ++ Lib.decDigits 2 = _
  unfold Lib.decDigits
  rw [dif_pos (by omega)]
  rfl
theorem exQk : qk ⟨#[97]⟩ = [34, 97, 34] := by
  unfold qk quoA quoL
  rw [ByteArray.toList_eq]
  decide
theorem exLine : lineB exP = exB := by
  apply ba_ext
  rw [line_split, exQk]
  have h0 := exInt 0 (by omega)
  have h2 := exInt 2 (by omega)
  have h3 := exInt 3 (by omega)
  have h6 := exInt 6 (by omega)
  have h7 := exInt 7 (by omega)
  have hn : (nameB 3).toList = [108, 97, 116, 101] := by rw [ByteArray.toList_eq]; rfl
  have e : tlP exP = [[], [108, 97, 116, 101], [48], [49, 48], [50], [51], [54], [45, 50], [55]] := by
    show [] :: (nameB 3).toList :: [(intB 0).toList, (intB 10).toList, (intB 2).toList, (intB 3).toList, (intB 6).toList, (intB (-2)).toList, (intB 7).toList] = _
    rw [hn, exInt10, exIntN, show (intB 0).toList = [48] from h0, show (intB 2).toList = [50] from h2, show (intB 3).toList = [51] from h3, show (intB 6).toList = [54] from h6, show (intB 7).toList = [55] from h7]
  rw [e, ByteArray.toList_eq]
  rfl
theorem beginsP_self (A : List Pn) : beginsP A A = true := by
  unfold beginsP okB
  rw [List.all_eq_true]
  intro k _
  simp
theorem aliP_self (A : List Pn) : aliP A A = true := by unfold aliP; rw [beginsP_self]; rfl
theorem line_par {p : Pn} {o : Option Pn} (hm : mayP p = true) (hn : NumOk p) (h : ParR (lineB p) o) : o = some p := ParR.one h ⟨hm, hn, rfl⟩

set_option maxRecDepth 100000 in
set_option maxHeartbeats 4000000 in
theorem known18_any (I : Ppk) (w : World) (hY : Yv w) : Calls Tryz.prog 5 #[] w fun e w' => e = .returned (.bool true) ∧ Calm w w' := by
  have CL := hide (fun W (h : Calm w W) => I.line exP W exNum (hY.calm h))
  rw [show lineV exP = .tuple #[.string exB, .int .i64 0] by unfold lineV; rw [exMay, exLine]; rfl] at CL
  have CP := hide (fun W (h : Calm w W) => I.parse exB W (by decide) (hY.calm h))
  have CP1 : Hid (∀ o, ParR exB o → o = some exP) := hide fun o h => line_par exMay exNum (by rw [exLine]; exact h)
  have CA := hide (fun (ao bo : Option Addr) (W : World) h1 h2 => I.alike [exP] [exP] ao bo 1 1 W h1 h2 (by decide) (by decide))
  rw [aliP_self] at CA
  have hi9 : (Tryz.prog.info? 40).map (·.size) = some 9 := by kernel_rfl
  have A0 := hide (al_new w (.cells (pnc exP) 40))
  have T0 := hide ((Touch.refl (fun _ => False) w).alloc (.cells (pnc exP) 40))
  go_enter Tryz.func5, Tryz.ntmps5
  go_wp2_with fail
  refine (CL.out _ T0.out).mono ?_
  rintro e w1 ⟨rfl, T1⟩
  have TE1 := hide (T0.out.tr T1)
  have AE1 := hide (T1.at A0.out)
  clear CL A0 T0 T1
  generalize w.heap.size = D at *
  go_wp2_with fail
  refine (CP.out _ TE1.out).mono ?_
  rintro e w2 ⟨o, hp, rfl, T2⟩
  obtain rfl := CP1.out o hp
  have TE2 := hide (TE1.out.tr T2)
  have AE2 := hide (T2.at AE1.out)
  have Z0 := hide (al_new w2 (.cells (pnc pn0) 40))
  have Z1 := hide (setRow_heap _ _ _ (pnc exP) _ _ Z0.out)
  have Z2 : Hid (Touch (fun _ => False) w2 ((w2.alloc (.cells (pnc pn0) 40)).setRow w2.heap.size (pnc exP))) := hide (((Touch.refl (fun _ => False) w2).alloc _).trans (S' := fun g => g = w2.heap.size) ⟨rfl, rfl, rfl, by simp, fun j _ hj => setRow_other _ _ j _ hj⟩ (fun g hg e => by omega))
  have hq1 : Hid ((pnc exP).all (·.oneCell') = true) := hide (by simp [Value.oneCell'])
  have AE3 := hide (Z2.out.at AE2.out)
  have TE3 := hide (TE2.out.tr Z2.out)
  clear TE1 AE1 CP CP1 T2 hp TE2 AE2
  unfold parE
  simp only [Option.getD_some, Option.isSome_some, if_true]
  go_upto_region 4 with (refine wpList_store_rowTo rfl 40 (.tmp 4) (.tmp 17) rfl rfl w2.heap.size _ rfl rfl 40 _ Z0.out hi9 rfl hq1.out ?_)
  generalize (w2.alloc (.cells (pnc pn0) 40)).setRow w2.heap.size (pnc exP) = w3 at *
  generalize w2.heap.size = E at *
  clear Z0 Z2 hq1
  obtain ⟨⟨c0, c1, c2, c3, c4⟩, c5, c6, c7, c8⟩ := pn_cells Z1.out
  obtain ⟨⟨d0, d1, d2, d3, d4⟩, d5, d6, d7, d8⟩ := pn_cells AE3.out
  obtain ⟨⟨e0, e1, e2, e3, e4⟩, e5, e6, e7, e8⟩ := pn_cells (al_old Z1.out (.cells (pnc exP) 40))
  have S1 := hide ((Touch.refl (fun _ => False) w3).alloc (.cells (pnc exP) 40))
  have S2 := hide (S1.out.alloc (.cells (pnc exP) 40))
  have M1 := hide (Rc.Mem.calm (Rc.Mem.new (E := encP) w3 [exP] 40) ((Touch.refl (fun _ => False) _).alloc (.cells (pnc exP) 40)))
  have m2 := Rc.Mem.new (E := encP) (w3.alloc (.cells (pnc exP) 40)) [exP] 40
  rw [al_size] at m2
  have M2 := hide m2
  clear m2
  go_wp2_with fail
  refine (CA.out _ _ _ ⟨M1.out, fun h => (nomatch h), Nat.le_refl _⟩ ⟨M2.out, fun h => (nomatch h), Nat.le_refl _⟩).mono ?_
  rintro e w4 ⟨rfl, T4⟩
  have HT := hide ((TE3.out.tr S2.out).tr T4)
  clear T4 S1 S2 M1 M2 CA
  go_wp2_with fail
  go_ret
  exact ⟨rfl, HT.out⟩

end Go.Proofs.YtamfcmmhmfhhkaaGreatDoor

namespace Go.Proofs.YtamfcmmhmfhhkaaGreatDoor
open Go.RowKit

/-- What Keys answers: each key's panes in a row of its own, apart from each other. -/
def RetK (w : World) (e : Ending) (w' : World) (L : List Pn) : Prop := ∃ a c P, e = .returned (.slice a P.length c) ∧ P.length = (keysP L).length ∧ encG.Own 32 w' w.heap.size (.slice a P.length c) P ∧ KpIn w' w.heap.size L (keysP L) P ∧
  (∀ i j, i < j → j < P.length → ∀ g, (Value.slice (P.getD i kp0).o (P.getD i kp0).n (P.getD i kp0).c).ownBlock = some g → ¬ (Value.slice (P.getD j kp0).o (P.getD j kp0).n (P.getD j kp0).c).ownBlock = some g) ∧ Calm w w'
/-- Keys that can be copied. -/
abbrev KeyB (L : List Pn) : Prop := ∀ p ∈ L, p.k.size ≤ 140737488351232
structure Ppl : Prop extends Ppk where
  keys : ∀ (L : List Pn) (ao : Option Addr) (ac : Nat) (w : World), encP.Sl w ao ac L → L.length ≤ 1000 → KeyB L → Calls Tryz.prog 7 #[.slice ao L.length ac] w fun e w' => RetK w e w' L
  of : ∀ (L : List Pn) (k : ByteArray) (ao : Option Addr) (ac : Nat) (w : World), encP.Sl w ao ac L → L.length ≤ 1000 → KeyB L → Calls Tryz.prog 9 #[.slice ao L.length ac, .string k] w fun e w' => RetP w e w' (ofP L k)
  last : ∀ (L : List Pn) (ao : Option Addr) (ac : Nat) (w : World), encP.Sl w ao ac L → L.length ≤ 1000 → KeyB L → Calls Tryz.prog 8 #[.slice ao L.length ac] w fun e w' => RetP w e w' (lastP L)

end Go.Proofs.YtamfcmmhmfhhkaaGreatDoor
