/- What is sent: how a list of it lies in memory; which worker gets what. What a router answers to an item, and how it stands behind it. Several items, one behind the other: mathematics, and how a list of items lies in memory. -/
import Derived.Test.YtapnjofplilefaaGreatK1
import Derived.Test.YtapnjofplilefaaGreatC1
import Derived.Test.YtapnjofplilefaaGreatZC
import Derived.Test.YtapnjofplilefaaGreatG1
namespace Go.Proofs.YtapnjofplilefaaGreat
open Go.RowKit

/-- A message, and who gets it. -/
structure Sn where
  wk : Int
  ki : Int
  sq : Int
  ke : ByteArray
  tm : Int
  va : Int
abbrev snc (x : Sn) : Array Value := #[.int .i64 x.wk, .int .i64 x.ki, .int .i64 x.sq, .string x.ke, .int .i64 x.tm, .int .i64 x.va]
def encSn : Rc.Enc Sn := ⟨6, fun x => (snc x).toList, fun _ => rfl, fun _ u hu => by
  simp at hu
  rcases hu with rfl | rfl | rfl | rfl | rfl | rfl <;> rfl, by decide⟩
theorem infoS : (Tryz.prog.info? 65).map (fun i => (i.zero, i.size, i.bytes)) = some (some (.agg #[.int .i64 0, .int .i64 0, .int .i64 0, .string ⟨#[]⟩, .int .i64 0, .int .i64 0]), 6, 56) := by kernel_rfl
abbrev sn0 : Sn := ⟨0, 0, 0, ⟨#[]⟩, 0, 0⟩
theorem sent_W {w : World} {ao : Option Addr} {L : List Sn} (h : encSn.Mem w ao L) (j : Nat) (hj : j < L.length) : ∃ g off, ao = some ⟨g, off, none⟩ ∧ ∀ W, Calm w W →
    (W.cell? ⟨g, off + j * 6, none⟩ = some (.int .i64 (L.getD j sn0).wk) ∧ W.cell? ⟨g, off + j * 6 + 1, none⟩ = some (.int .i64 (L.getD j sn0).ki) ∧ W.cell? ⟨g, off + j * 6 + 2, none⟩ = some (.int .i64 (L.getD j sn0).sq)) ∧ W.cell? ⟨g, off + j * 6 + 3, none⟩ = some (.string (L.getD j sn0).ke) ∧ W.cell? ⟨g, off + j * 6 + 4, none⟩ = some (.int .i64 (L.getD j sn0).tm) ∧ W.cell? ⟨g, off + j * 6 + 5, none⟩ = some (.int .i64 (L.getD j sn0).va) := by
  obtain ⟨g, off, e, -⟩ := Rc.Mem.at h j hj
  refine ⟨g, off, e, fun W hW => ?_⟩
  obtain ⟨g2, off2, e2, k⟩ := Rc.Mem.at (Rc.Mem.calm h hW) j hj
  rw [e] at e2
  injection e2 with e2
  injection e2 with e3 e4
  subst e3 e4
  rw [List.getD_eq_getElem?_getD, List.getElem?_eq_getElem hj]
  exact ⟨⟨k 0 _ rfl, k 1 _ rfl, k 2 _ rfl⟩, k 3 _ rfl, k 4 _ rfl, k 5 _ rfl⟩
/-- One more behind a row of one's own. -/
theorem sn_app1 {w : World} {base : Nat} {ao : Option Addr} {cap : Nat} {A : List Sn} (x : Sn) (h : encSn.Own 65 w base (.slice ao A.length cap) A) (hs : base ≤ w.heap.size) (hn : A.length ≤ 1000000000000) :
    ∃ a2 p2 w4, (Builtin.append_ #[55, 55] 55 #[.slice ao A.length cap, .slice (some ⟨w.heap.size, 0, none⟩) 1 1]).run Tryz.prog (w.alloc (.cells (snc x) 65)) = .ok (.slice a2 (A.length + 1) p2) w4 ∧
      encSn.Own 65 w4 base (.slice a2 (A ++ [x]).length p2) (A ++ [x]) ∧ Touch (fun d => (Value.slice ao A.length cap).ownBlock = some d) w w4 := by
  obtain ⟨i0, hi, hz, hsz, hby⟩ := Rc.info_parts infoS
  have own := Rc.Own.calm h ((Touch.refl (fun _ => False) w).alloc (.cells (snc x) 65))
  have hs1 := al_size w (.cells (snc x) 65)
  obtain ⟨a2, p2, w4, hr, ow, t2, -⟩ := Rc.Own.appw (E := encSn) (ty := 55) Tryz.underlying55 hi hz hsz hby rfl own (some ⟨w.heap.size, 0, none⟩) 1 [x] (Rc.Mem.new w [x] 65) (fun h => (nomatch h)) (by simp; unfold maxLen; omega) (by simp; omega) (by omega) (by omega)
  have e3 : (A ++ [x]).length = A.length + 1 := by simp
  refine ⟨a2, p2, w4, by rw [← e3]; exact hr, ow, ?_⟩
  exact Touch.trans (((Touch.refl (fun _ => False) w).alloc _).mono fun _ _ h => h.elim) t2 fun _ _ h => h

/-- A message to all workers. -/
def allS (n : Nat) (x : Sn) : List Sn := (List.range n).map fun i : Nat => ⟨(i : Int), x.ki, x.sq, x.ke, x.tm, x.va⟩
theorem all_len (n : Nat) (x : Sn) : (allS n x).length = n := by simp [allS]
theorem all_succ (n : Nat) (x : Sn) : allS (n + 1) x = allS n x ++ [⟨(n : Int), x.ki, x.sq, x.ke, x.tm, x.va⟩] := by simp [allS, List.range_succ]

end Go.Proofs.YtapnjofplilefaaGreat

namespace Go.Proofs.YtapnjofplilefaaGreat
open Go.RowKit

/-- The next number. -/
def nxt (s : Int) : Int := wrap64 (s + 1)
/-- The marks behind a mark. -/
def plM (L : List Int) (x : It) : List Int := L.set x.sr.toNat (max (L.getD x.sr.toNat 0) x.tm)
/-- The marks behind an item. -/
def itemL (L : List Int) (x : It) : List Int := if x.ki = 2 then plM L x else L
/-- What is sent. -/
def itemA (p g : Nat) (L : List Int) (s : Int) (x : It) : List Sn :=
  if x.ki = 1 then [⟨(wk p g (hsh x.ke % g) : Nat), 1, s, x.ke, x.tm, x.va⟩]
  else if x.ki = 2 then (if mkN L = mkN (plM L x) then [] else allS p ⟨0, 2, s, ⟨#[]⟩, mkN (plM L x), 0⟩)
  else allS p ⟨0, 3, s, ⟨#[]⟩, 0, 0⟩
/-- A router that stands. -/
structure Sit (c : Cf) (p g : Nat) (L : List Int) : Prop where
  gr : c.gr = (g : Int)
  may : May p g
  so : (L.length : Int) = c.so
theorem plM_len (L : List Int) (x : It) : (plM L x).length = L.length := by simp [plM]
theorem itemL_len (L : List Int) (x : It) : (itemL L x).length = L.length := by
  unfold itemL
  split
  · exact plM_len L x
  · rfl
theorem Sit.next {c : Cf} {p g : Nat} {L : List Int} (h : Sit c p g L) (x : It) : Sit c p g (itemL L x) := ⟨h.gr, h.may, by rw [itemL_len]; exact h.so⟩
theorem Sit.p_le {c : Cf} {p g : Nat} {L : List Int} (h : Sit c p g L) : p ≤ 32768 := Nat.le_trans h.may.p2 h.may.g2
theorem itemA_len {c : Cf} {p g : Nat} {L : List Int} (h : Sit c p g L) (s : Int) (x : It) : (itemA p g L s x).length ≤ 32768 := by
  have := h.p_le
  have := h.may.p1
  unfold itemA
  split
  · simp
  · split
    · split
      · simp
      · rw [all_len]; exact h.p_le
    · rw [all_len]; exact h.p_le
theorem itemZ_k {c : Cf} {x : It} (h : itemZ c x = true) : x.ki = 1 ∨ x.ki = 2 ∨ x.ki = 3 := by
  unfold itemZ at h
  by_cases h1 : x.ki = 1
  · exact .inl h1
  · by_cases h2 : x.ki = 2
    · exact .inr (.inl h2)
    · by_cases h3 : x.ki = 3
      · exact .inr (.inr h3)
      · rw [if_neg h1, if_neg h2, if_neg h3] at h; cases h
theorem itemZ_1 {c : Cf} {x : It} (h : itemZ c x = true) (hk : x.ki = 1) : x.ke.size ≤ 256 := by
  unfold itemZ at h
  rw [if_pos hk] at h
  simp at h
  exact h.2.1
theorem itemZ_2 {c : Cf} {x : It} (h : itemZ c x = true) (hk : x.ki = 2) : 0 ≤ x.sr ∧ x.sr < c.so := by
  unfold itemZ at h
  rw [if_neg (by omega), if_pos hk] at h
  simp at h
  exact ⟨h.2.1, h.2.2.1⟩
/-- One just made is a row of one's own. -/
theorem own_one (w : World) (x : Sn) : encSn.Own 65 (w.alloc (.cells (snc x) 65)) w.heap.size (.slice (some ⟨w.heap.size, 0, none⟩) 1 1) [x] :=
  ⟨rfl, .inr ⟨w.heap.size, 1, snc x, rfl, Nat.le_refl _, al_new _ _, Nat.le_refl _, by unfold maxLen; omega, rfl, rfl⟩⟩

end Go.Proofs.YtapnjofplilefaaGreat

namespace Go.Proofs.YtapnjofplilefaaGreat
open Go.RowKit

def goL : List Int → List It → List Int
  | L, [] => L
  | L, x :: M => goL (itemL L x) M
def goS : Int → List It → Int
  | s, [] => s
  | s, _ :: M => goS (nxt s) M
def goA (p g : Nat) : List Int → Int → List It → List Sn
  | _, _, [] => []
  | L, s, x :: M => itemA p g L s x ++ goA p g (itemL L x) (nxt s) M
theorem goL_snoc : ∀ (M : List It) (L : List Int) (x : It), goL L (M ++ [x]) = itemL (goL L M) x
  | [], _, _ => rfl
  | y :: M, L, x => by show goL (itemL L y) (M ++ [x]) = _; rw [goL_snoc M]; rfl
theorem goS_snoc : ∀ (M : List It) (s : Int) (x : It), goS s (M ++ [x]) = nxt (goS s M)
  | [], _, _ => rfl
  | y :: M, s, x => by show goS (nxt s) (M ++ [x]) = _; rw [goS_snoc M]; rfl
theorem goA_snoc (p g : Nat) : ∀ (M : List It) (L : List Int) (s : Int) (x : It), goA p g L s (M ++ [x]) = goA p g L s M ++ itemA p g (goL L M) (goS s M) x
  | [], L, s, x => by show itemA p g L s x ++ [] = [] ++ itemA p g L s x; simp
  | y :: M, L, s, x => by
    show itemA p g L s y ++ goA p g (itemL L y) (nxt s) (M ++ [x]) = _
    rw [goA_snoc p g M, ← List.append_assoc]; rfl
theorem Sit.go {c : Cf} {p g : Nat} : ∀ (M : List It) {L : List Int}, Sit c p g L → Sit c p g (goL L M)
  | [], _, h => h
  | x :: M, _, h => Sit.go M (h.next x)
theorem goA_len {c : Cf} {p g : Nat} : ∀ (M : List It) {L : List Int} (s : Int), Sit c p g L → (goA p g L s M).length ≤ M.length * 32768
  | [], _, _, _ => by simp [goA]
  | x :: M, L, s, h => by
    have h1 := itemA_len h s x
    have h2 := goA_len M (nxt s) (h.next x)
    show (itemA p g L s x ++ goA p g (itemL L x) (nxt s) M).length ≤ _
    rw [List.length_append, List.length_cons]
    omega
/-- Those that are taken. -/
def taken (c : Cf) (M : List It) : List It := M.takeWhile (itemZ c)
/-- Is one refused? -/
def itemsE (c : Cf) (M : List It) : Nat := if (taken c M).length = M.length then 0 else 5
theorem taken_le (c : Cf) (M : List It) : (taken c M).length ≤ M.length := (List.takeWhile_prefix _).length_le
abbrev it0 : It := ⟨0, ⟨#[]⟩, 0, 0, 0⟩
theorem taken_stop (c : Cf) : ∀ (M : List It) (i : Nat), i < M.length → (∀ j, j < i → itemZ c (M.getD j it0) = true) → itemZ c (M.getD i it0) = false → taken c M = M.take i ∧ itemsE c M = 5
  | [], i, h, _, _ => by simp at h
  | x :: M, 0, _, _, h => by
    have h : itemZ c x = false := h
    have e : taken c (x :: M) = [] := by simp [taken, h]
    exact ⟨e, by unfold itemsE; rw [e]; simp⟩
  | x :: M, i + 1, hl, ha, h => by
    have h0 : itemZ c x = true := ha 0 (by omega)
    obtain ⟨e1, e2⟩ := taken_stop c M i (by simpa using hl) (fun j hj => ha (j + 1) (by omega)) h
    have e : taken c (x :: M) = x :: taken c M := by simp [taken, h0]
    refine ⟨by rw [e, e1]; rfl, ?_⟩
    unfold itemsE at e2 ⊢
    rw [e]
    split at e2
    · cases e2
    · rename_i hne
      rw [if_neg]
      simpa using hne
theorem taken_all (c : Cf) : ∀ (M : List It), (∀ j, j < M.length → itemZ c (M.getD j it0) = true) → taken c M = M ∧ itemsE c M = 0
  | [], _ => ⟨rfl, rfl⟩
  | x :: M, ha => by
    have h0 : itemZ c x = true := ha 0 (by simp)
    obtain ⟨e1, -⟩ := taken_all c M (fun j hj => ha (j + 1) (by simpa using hj))
    have e : taken c (x :: M) = x :: M := by simp only [taken] at e1 ⊢; rw [List.takeWhile_cons_of_pos h0, e1]
    exact ⟨e, by unfold itemsE; rw [e]; simp⟩
theorem take_snoc (M : List It) (i : Nat) (h : i < M.length) : M.take (i + 1) = M.take i ++ [M.getD i it0] := by
  rw [List.take_succ_eq_append_getElem h, List.getD_eq_getElem?_getD, List.getElem?_eq_getElem h]; rfl

def encI : Rc.Enc It := ⟨5, fun x => (itc x).toList, fun _ => rfl, fun _ u hu => by
  simp at hu
  rcases hu with rfl | rfl | rfl | rfl | rfl <;> rfl, by decide⟩
theorem infoI : (Tryz.prog.info? 60).map (fun i => (i.zero, i.size, i.bytes)) = some (some (.agg #[.int .i64 0, .string ⟨#[]⟩, .int .i64 0, .int .i64 0, .int .i64 0]), 5, 48) := by kernel_rfl
/-- The items stay where the blocks F alone are changed. -/
theorem items_W {w : World} {F : Nat → Prop} {ao : Option Addr} {M : List It} (h : encI.Mem w ao M) (hF : ∀ a, ao = some a → M ≠ [] → ¬ F a.block) (j : Nat) (hj : j < M.length) : ∃ g off, ao = some ⟨g, off, none⟩ ∧ ∀ W, Touch F w W →
    W.cell? ⟨g, off + j * 5, none⟩ = some (.int .i64 (M.getD j it0).ki) ∧ W.cell? ⟨g, off + j * 5 + 1, none⟩ = some (.string (M.getD j it0).ke) ∧ W.cell? ⟨g, off + j * 5 + 2, none⟩ = some (.int .i64 (M.getD j it0).tm) ∧ W.cell? ⟨g, off + j * 5 + 3, none⟩ = some (.int .i64 (M.getD j it0).va) ∧ W.cell? ⟨g, off + j * 5 + 4, none⟩ = some (.int .i64 (M.getD j it0).sr) := by
  obtain ⟨g, off, e, -⟩ := Rc.Mem.at h j hj
  refine ⟨g, off, e, fun W hW => ?_⟩
  obtain ⟨g2, off2, e2, k⟩ := Rc.Mem.at (Rc.Mem.touch h hW hF) j hj
  rw [e] at e2
  injection e2 with e2
  injection e2 with e3 e4
  subst e3 e4
  rw [List.getD_eq_getElem?_getD, List.getElem?_eq_getElem hj]
  exact ⟨k 0 _ rfl, k 1 _ rfl, k 2 _ rfl, k 3 _ rfl, k 4 _ rfl⟩
/-- One row of what is sent behind another. -/
theorem sn_apps {w : World} {base b2 : Nat} {ao : Option Addr} {cap : Nat} {A : List Sn} {a2 : Option Addr} {c2 : Nat} {B : List Sn} (h : encSn.Own 65 w base (.slice ao A.length cap) A) (h2 : encSn.Own 65 w b2 (.slice a2 B.length c2) B) (hs : base ≤ w.heap.size) (hn : A.length + B.length ≤ 1000000000000) :
    ∃ a3 p3 w4, (Builtin.append_ #[55, 55] 55 #[.slice ao A.length cap, .slice a2 B.length c2]).run Tryz.prog w = .ok (.slice a3 (A ++ B).length p3) w4 ∧
      encSn.Own 65 w4 base (.slice a3 (A ++ B).length p3) (A ++ B) ∧ Touch (fun d => (Value.slice ao A.length cap).ownBlock = some d) w w4 := by
  obtain ⟨i0, hi, hz, hsz, hby⟩ := Rc.info_parts infoS
  have s2 := Rc.Own.sl h2
  obtain ⟨a3, p3, w4, hr, ow, t2, -⟩ := Rc.Own.appw (E := encSn) (ty := 55) Tryz.underlying55 hi hz hsz hby rfl h a2 c2 B s2.mem s2.nil (by unfold maxLen; omega) (by omega) (by omega) hs
  exact ⟨a3, p3, w4, hr, ow, t2⟩

end Go.Proofs.YtapnjofplilefaaGreat
