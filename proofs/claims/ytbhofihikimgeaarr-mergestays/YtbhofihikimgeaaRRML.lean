/- The law's own helpers: windows lent with a mark behind them; are they kept; a time near nought. -/
import Derived.Test.YtbhofihikimgeaaRRME
import Derived.Test.YtbhofihikimgeaaRRMJ
namespace Go.Proofs.YtbhofihikimgeaaRR
open Go.RowKit

/-- The mark. -/
abbrev markW : Wn := ⟨0, 0, 4242, tl0, 0, 0⟩
/-- Windows lent: a row of one's own, the mark behind it. -/
def LentW (w : World) (base g c : Nat) (L : List Wn) : Prop := encW.Own 43 w base (.slice (some ⟨g, 0, none⟩) (L ++ [markW]).length c) (L ++ [markW])

theorem LentW.mem {w : World} {base g c : Nat} {L : List Wn} (h : LentW w base g c L) : encW.Mem w (some ⟨g, 0, none⟩) L ∧ L.length + 1 ≤ c ∧ base ≤ g ∧ w.cell? ⟨g, L.length * 9 + 2, none⟩ = some (.int .i64 4242) := by
  obtain ⟨-, h2, h3, -, -, h6⟩ := Rc.Own.mem h
  have hm := Rc.Mem.take h2 L.length
  rw [List.take_left' rfl] at hm
  obtain ⟨b, off, e, hc⟩ := Rc.Mem.at h2 L.length (by simp)
  injection e with e
  injection e with e1 e2
  subst e1 e2
  have := hc 2 (.int .i64 4242) (by rw [List.getElem_append_right (Nat.le_refl _)]; simp; rfl)
  refine ⟨hm, by simpa using h3, (h6 _ rfl).2.2.1, ?_⟩
  rw [Nat.zero_add] at this
  exact this

theorem LentW.calm {w w' : World} {base g c : Nat} {L : List Wn} (h : LentW w base g c L) (ht : Calm w w') : LentW w' base g c L := Rc.Own.calm h ht

/-- x[:k] of what begins its block. -/
theorem cut_to {P : Program} {t e : TypeId} {i : TypeInfo} (ht : P.underlying t = some (.slice e)) (he : P.elem t = e) (hi : P.info? e = some i) {g n cap k : Nat} (hk : k ≤ cap) (W : World) :
    (Instr.slice t (.slice (some ⟨g, 0, none⟩) n cap) none (some (.int .i64 (k : Nat))) none).run P W = .ok (.slice (some ⟨g, 0, none⟩) k cap) W := by
  rw [run_slice_h W t (some ⟨g, 0, none⟩) n cap (by rw [he]; exact ht) .i64 (k : Nat) (by omega) (by omega), he]
  simp only [sizeOf, typeInfo]
  simp [hi, sliced, Addr.add_lit]

set_option maxRecDepth 100000 in
set_option maxHeartbeats 1000000 in
theorem lent_any (ao : Option Addr) (cap : Nat) (L : List Wn) (w : World) (hs : encW.Sl w ao cap L) (hn : L.length ≤ 1000000) :
    Calls Try.prog 6 #[.slice ao L.length cap] w fun e w' => ∃ g c, e = .returned (.slice (some ⟨g, 0, none⟩) L.length c) ∧ LentW w' w.heap.size g c L ∧ Calm w w' := by
  obtain ⟨i0, hi, hz, hsz, hby⟩ := Rc.info_parts infoWin
  obtain ⟨a1, p1, w3, hr1, ow1, t1, -⟩ := Rc.Own.app (E := encW) (ty := 22) Try.underlying22 hi hz hsz hby rfl (Rc.Own.nil 43 w w.heap.size) ao cap L hs.mem hs.nil (by simp; unfold maxLen; omega) (by simp; omega) (Nat.le_refl _)
  have C3 : Calm w w3 := Rc.Own.fresh (Rc.Own.nil (E := encW) 43 w w.heap.size) t1 (fun _ h => h) (Touch.refl _ _) (Nat.le_refl _)
  rw [List.nil_append] at hr1
  rw [List.nil_append] at ow1
  have ow1' := Rc.Own.calm ow1 ((Touch.refl (fun _ => False) w3).alloc (.cells (wnc markW) 43))
  have hs3 := C3.size
  have hs3' := ((Touch.refl (fun _ => False) w3).alloc (.cells (wnc markW) 43)).size
  obtain ⟨a2, p2, w4, hr2, ow2, t2, -⟩ := Rc.Own.app (E := encW) (ty := 22) Try.underlying22 hi hz hsz hby rfl ow1' (some ⟨w3.heap.size, 0, none⟩) 1 [markW] (Rc.Mem.new w3 [markW] 43) (fun h => (nomatch h)) (by simp; unfold maxLen; omega) (by simp; omega) (by omega)
  have C4 : Calm w w4 := Rc.Own.fresh ow1' t2 (fun _ h => h) (C3.alloc _) (Nat.le_refl _)
  have hg : ∃ g, a2 = some ⟨g, 0, none⟩ := by
    obtain ⟨-, h2, -, -, -, h6⟩ := Rc.Own.mem ow2
    obtain ⟨b, off, e, -⟩ := Rc.Mem.at h2 L.length (by simp)
    have := (h6 _ e).2.1
    simp only at this
    subst this
    exact ⟨b, e⟩
  obtain ⟨g, rfl⟩ := hg
  have hm := LentW.mem ow2
  have hcut := fun W => cut_to (g := g) (n := (L ++ [markW]).length) (cap := p2) (k := L.length) Try.underlying22 elemWin hi (by omega) W
  have HR : Hid (∃ g' c, Ending.returned (.slice (some ⟨g, 0, none⟩) L.length p2) = .returned (.slice (some ⟨g', 0, none⟩) L.length c) ∧ LentW w4 w.heap.size g' c L ∧ Calm w w4) := hide ⟨g, p2, rfl, ow2, C4⟩
  have hr2 : (Builtin.append_ #[22, 22] 22 #[.slice a1 L.length p1, .slice (some ⟨w3.heap.size, 0, none⟩) 1 1]).run Try.prog (w3.alloc (.cells (wnc markW) 43)) = .ok (.slice (some ⟨g, 0, none⟩) (L ++ [markW]).length p2) w4 := hr2
  clear ow1 ow1' ow2 t1 t2 C3 C4 hs3 hs3' hm hs hi hz hsz hby
  generalize (L ++ [markW]).length = q at *
  generalize hN : L.length = n at *
  clear hN
  go_enter Try.func6, Try.ntmps6
  go_wp2_with (at_builtin; first | refine Rc.wpList_appR rfl (.const (.slice none 0 0)) (.tmp 3) 22 22 rfl _ _ _ rfl rfl hr1 ?_ | refine Rc.wpList_appR rfl (.tmp 4) (.tmp 6) 22 22 rfl _ _ _ rfl rfl hr2 ?_)
  go_ret
  exact HR.out

set_option maxRecDepth 100000 in
set_option maxHeartbeats 1000000 in
theorem kept_any (base g c : Nat) (bo : Option Addr) (cb : Nat) (L : List Wn) (w : World) (hl : LentW w base g c L) (hb : encW.Mem w bo L) (hn : L.length ≤ 1000000) :
    Calls Try.prog 14 #[.slice (some ⟨g, 0, none⟩) L.length c, .slice bo L.length cb] w fun e w' => e = .returned (.bool true) ∧ Calm w w' := by
  obtain ⟨m1, m2, -, -⟩ := LentW.mem hl
  have HK : Hid (∀ W, Calm w W → W.cell? ⟨g, L.length * 9 + 2, none⟩ = some (.int .i64 4242)) := hide fun W hW => (LentW.mem (hl.calm hW)).2.2.2
  have CS := hide (sameWins_any (some ⟨g, 0, none⟩) bo c cb L w m1 hb (by omega))
  obtain ⟨i0, hi, -, -, -⟩ := Rc.info_parts infoWin
  have hcut : ∀ W, (Instr.slice 22 (.slice (some ⟨g, 0, none⟩) L.length c) none (some (.int .i64 ((L.length : Int) + 1))) none).run Try.prog W = .ok (.slice (some ⟨g, 0, none⟩) (L.length + 1) c) W := fun W => cut_to (k := L.length + 1) Try.underlying22 elemWin hi m2 W
  clear hl hb m1 m2 hi
  generalize hN : L.length = n at *
  clear hN
  go_enter Try.func14, Try.ntmps14
  go_wp2_with fail
  refine CS.out.mono ?_
  rintro e w1 ⟨rfl, T1⟩
  have c0 := HK.out w1 T1
  have HT := hide T1
  clear T1 HK
  go_wp2_with fail
  go_ret
  exact ⟨rfl, HT.out⟩

end Go.Proofs.YtbhofihikimgeaaRR
