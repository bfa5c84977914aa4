/- Laws: make and copy of bytes into a new row; a row's bytes as a string. -/
import Derived.Test.YtdcpmpbfnfjncaaGreatDoorBase
import Derived.Laws.CopyOwn
import Derived.Laws.BytesString
namespace Go.Proofs.YtdcpmpbfnfjncaaGreatDoor
open Go.RowKit

section
variable {P : Program}

/-- 'make([]T, n)': a new row of n cells. -/
theorem wpList_make_new (w : World) {ops : Array Oper} {rest : List Oper} {o : Oper} {a : Act} {Q : Exit → Act → World → Prop}
    (hg : o.guard = none) (l c : Operand) (t : TypeId) (hop : o.op = Op.makeSlice t l c)
    (e : TypeId) (i : TypeInfo) (z : Value) (bytes : Nat) (h1 : P.underlying t = some (.slice e)) (h2 : P.info? e = some i) (h3 : i.zero = some z) (h4 : i.size = 1) (h5 : i.bytes = bytes)
    (n : Nat) (hl : a.eval l = .int .i64 n) (hc : a.eval c = .int .i64 n) (b2 : bytes * n ≤ 281474976710656) (b3 : n ≤ maxLen)
    (hK : ∀ w' cur, w'.heap[w.heap.size]? = some (.cells cur e (0, 0)) → cur.size = n → Touch (fun _ => False) w w' → wpList P ops Q rest (a.put o.dst (.slice (some ⟨w.heap.size, 0, none⟩) n n)) w') :
    wpList P ops Q (o :: rest) a w := by
  refine wpList_make_full w hg l c t hop 0 e i z 1 h1 h2 h3 h4 .i64 .i64 n n n hl hc rfl rfl (by rw [h5]; exact b2) b3 (Nat.zero_le _) fun w' hown hgr => ?_
  rcases hown.2 with ⟨h, _⟩ | ⟨g, cap, cur, hv, _, hb, _, _, hs, _⟩
  · cases h
  · injection hv with e1 e2 e3
    injection e1 with e1
    injection e1 with e1 _ _
    subst e1 e3
    exact hK w' cur hb (by simpa using hs) ⟨hgr.os, hgr.tape, hgr.output, hgr.size, fun k hk _ => hgr.block k hk (by simp)⟩

/-- 'copy' of a whole slice over a new row of its length. -/
theorem wpList_copy_new {w : World} {ops : Array Oper} {rest : List Oper} {o : Oper} {a : Act} {Q : Exit → Act → World → Prop} (hgd : o.guard = none) (d s : Operand) (dT sT : TypeId)
    (ho : o.op = .call { callee := .builtin .copy, args := #[d, s], argTypes := #[dT, sT] }) (elem : TypeId) (k : IntKind) (hu : P.underlying dT = some (.slice elem)) (hsz : (P.info? elem).map (·.size) = some 1)
    (g : Nat) (ao : Option Addr) (cap : Nat) (xs : List Int) (hd : a.eval d = .slice (some ⟨g, 0, none⟩) xs.length xs.length) (hs : a.eval s = .slice ao xs.length cap)
    (cur : Array Value) (hg : w.heap[g]? = some (.cells cur elem (0, 0))) (hcur : cur.size = xs.length) (hx : xs.length ≤ maxLen) (hseg : Seg w k ao xs)
    (h : ∀ w', Row w' elem k (.slice (some ⟨g, 0, none⟩) xs.length xs.length) xs → Touch (fun j => j = g) w w' → wpList P ops Q rest (a.put o.dst (goInt xs.length)) w') : wpList P ops Q (o :: rest) a w := by
  by_cases hx0 : xs = []
  · subst hx0
    refine wpList_copy_nothing hgd d s dT sT ho elem hu hsz _ _ _ _ _ _ hd hs (by simp) ?_
    refine h w ?_ (Touch.refl _ _)
    exact Row.mk (xs := []) hg (by simp) (by simp) hcur (by simp)
  · obtain ⟨b, off, rfl⟩ := hseg.addr (List.length_pos_iff.2 hx0)
    refine wpList_copy_own hgd d s dT sT ho elem hu hsz g 0 xs.length xs.length ⟨b, off, none⟩ xs.length cap hd hs cur elem hg (xs.map (Value.int k)) (by simp) (fun j u hu => ?_) (by simp [hcur]) (by intro u hu; obtain ⟨_, _, rfl⟩ := List.mem_map.1 hu; rfl) ?_
    · have hj : j < xs.length := by have := (List.getElem?_eq_some_iff.1 hu).1; simpa using this
      rw [hseg.cell _ rfl j hj]
      simpa [hj] using hu
    · rw [List.length_map]
      refine h _ (Row.mk (setRow_heap w g cur _ elem _ hg) (Nat.le_refl _) hx ?_ ?_) ⟨rfl, rfl, rfl, by simp, fun j _ hj => setRow_other w g j _ hj⟩
      · simp [hcur]
      · rw [List.toList_toArray, List.take_zero, List.nil_append, List.take_append_of_le_length (by simp), List.take_of_length_le (by simp)]

end

end Go.Proofs.YtdcpmpbfnfjncaaGreatDoor
