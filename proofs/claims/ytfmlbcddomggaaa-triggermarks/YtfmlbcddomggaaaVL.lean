/- TriggerMarks' windows, lent with a mark behind them. -/
import Derived.Test.YtfmlbcddomggaaaVE
namespace Go.Proofs.Ytfmlbcddomggaaa
open Go.RowKit

/-- The mark. -/
abbrev markW7 : Wn := ⟨0, 0, -771, tl0, 0, 0⟩
/-- Windows lent: a row of one's own, the mark behind it. -/
def LentM (w : World) (base g c : Nat) (L : List Wn) : Prop := encW.Own 30 w base (.slice (some ⟨g, 0, none⟩) (L ++ [markW7]).length c) (L ++ [markW7])

theorem LentM.mem {w : World} {base g c : Nat} {L : List Wn} (h : LentM w base g c L) : encW.Sl w (some ⟨g, 0, none⟩) c L ∧ L.length + 1 ≤ c ∧ base ≤ g ∧ g < w.heap.size ∧ w.cell? ⟨g, L.length * 9 + 2, none⟩ = some (.int .i64 (-771)) := by
  obtain ⟨-, h2, h3, -, -, h6⟩ := Rc.Own.mem h
  have hm := Rc.Mem.take h2 L.length
  rw [List.take_left' rfl] at hm
  obtain ⟨b, off, e, hc⟩ := Rc.Mem.at h2 L.length (by simp)
  injection e with e
  injection e with e1 e2
  subst e1 e2
  have := hc 2 (.int .i64 (-771)) (by rw [List.getElem_append_right (Nat.le_refl _)]; simp; rfl)
  have h3' : L.length + 1 ≤ c := by simpa using h3
  refine ⟨⟨hm, fun h => (nomatch h), by omega⟩, h3', (h6 _ rfl).2.2.1, (h6 _ rfl).2.2.2, ?_⟩
  rw [Nat.zero_add] at this
  exact this

set_option maxRecDepth 100000 in
set_option maxHeartbeats 1000000 in
theorem lent10_any (ao : Option Addr) (cap : Nat) (L : List Wn) (w : World) (hs : encW.Sl w ao cap L) (hn : L.length ≤ 2000000000000) :
    Calls Try.prog 19 #[.slice ao L.length cap] w fun e w' => ∃ g c, e = .returned (.slice (some ⟨g, 0, none⟩) L.length c) ∧ LentM w' w.heap.size g c L ∧ Calm w w' := by
  obtain ⟨i0, hi, hz, hsz, hby⟩ := Rc.info_parts infoWin
  obtain ⟨a1, p1, w3, hr1, ow1, t1, -⟩ := Rc.Own.appw (E := encW) (ty := 50) Try.underlying50 hi hz hsz hby rfl (Rc.Own.nil 30 w w.heap.size) ao cap L hs.mem hs.nil (by simp; unfold maxLen; omega) (by simp; omega) (by omega) (Nat.le_refl _)
  have C3 : Calm w w3 := Rc.Own.fresh (Rc.Own.nil (E := encW) 30 w w.heap.size) t1 (fun _ h => h) (Touch.refl _ _) (Nat.le_refl _)
  rw [List.nil_append] at hr1
  rw [List.nil_append] at ow1
  have hs3 := C3.size
  obtain ⟨a2, p2, w4, hr2, ow2, t2⟩ := wn_app markW7 ow1 hs3 hn
  have C4 : Calm w w4 := Rc.Own.fresh ow1 t2 (fun _ h => h) C3 (Nat.le_refl _)
  have hg : ∃ g, a2 = some ⟨g, 0, none⟩ := by
    obtain ⟨-, h2, -, -, -, h6⟩ := Rc.Own.mem ow2
    obtain ⟨b, off, e, -⟩ := Rc.Mem.at h2 L.length (by simp)
    have := (h6 _ e).2.1
    simp only at this
    subst this
    exact ⟨b, e⟩
  obtain ⟨g, rfl⟩ := hg
  have hm := LentM.mem ow2
  have hcut := fun W => cut_to (g := g) (n := L.length + 1) (cap := p2) (k := L.length) Try.underlying50 elemWin hi (by omega) W
  have HR : Hid (∃ g' c, Ending.returned (.slice (some ⟨g, 0, none⟩) L.length p2) = .returned (.slice (some ⟨g', 0, none⟩) L.length c) ∧ LentM w4 w.heap.size g' c L ∧ Calm w w4) := hide ⟨g, p2, rfl, ow2, C4⟩
  clear ow1 ow2 t1 t2 C3 C4 hs3 hm hs hi hz hsz hby
  generalize hq : L.length + 1 = q at *
  generalize hN : L.length = n at *
  clear hN hq
  go_enter Try.func19, Try.ntmps19
  go_wp2_with (at_builtin; first | refine Rc.wpList_appR rfl (.const (.slice none 0 0)) (.tmp 4) 50 50 rfl _ _ _ rfl rfl hr1 ?_ | refine Rc.wpList_appR rfl (.tmp 5) (.tmp 7) 50 50 rfl _ _ _ rfl rfl hr2 ?_)
  go_ret
  exact HR.out

end Go.Proofs.Ytfmlbcddomggaaa
