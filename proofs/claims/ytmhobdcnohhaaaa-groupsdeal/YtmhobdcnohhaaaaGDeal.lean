/- The program's Deal. -/
import Derived.Test.YtmhobdcnohhaaaaGDl
namespace Go.Proofs.Ytmhobdcnohhaaaa
open Go.RowKit

/-- Whose a key is. -/
def owner (P G : Nat) (s : ByteArray) : Nat := wk P G (hsh s % G)
def dealOne (P G : Nat) (ls : List (List ByteArray)) (s : ByteArray) : List (List ByteArray) := ls.set (owner P G s) (ls.getD (owner P G s) [] ++ [s])
/-- The keys dealt out. -/
def dealt (P G : Nat) (ks : List ByteArray) : List (List ByteArray) := ks.foldl (dealOne P G) (List.replicate P [])

theorem owner_lt {P G : Nat} (h : May P G) (s : ByteArray) : owner P G s < P := wk_lt h (rem_lt _ h)

theorem dealt_take (P G : Nat) (ks : List ByteArray) (k : Nat) (hk : k < ks.length) : dealt P G (ks.take (k + 1)) = dealOne P G (dealt P G (ks.take k)) ks[k] := by
  unfold dealt
  rw [List.take_succ_eq_append_getElem hk, List.foldl_append, List.foldl_cons, List.foldl_nil]

theorem fold_len (P G : Nat) : ∀ (ks : List ByteArray) (ls : List (List ByteArray)), (ks.foldl (dealOne P G) ls).length = ls.length
  | [], _ => rfl
  | s :: ks, ls => by rw [List.foldl_cons, fold_len P G ks]; unfold dealOne; rw [List.length_set]

theorem dealt_len (P G : Nat) (ks : List ByteArray) : (dealt P G ks).length = P := by unfold dealt; rw [fold_len, List.length_replicate]

theorem fold_le (P G : Nat) : ∀ (ks : List ByteArray) (ls : List (List ByteArray)) (b : Nat), (∀ i, (ls.getD i []).length ≤ b) → ∀ i, ((ks.foldl (dealOne P G) ls).getD i []).length ≤ b + ks.length
  | [], _, _, h, i => h i
  | s :: ks, ls, b, h, i => by
    rw [List.foldl_cons, List.length_cons]
    have := fold_le P G ks (dealOne P G ls s) (b + 1) (fun j => by
      unfold dealOne
      rw [List.getD_eq_getElem?_getD, List.getElem?_set]
      split
      · split
        · have := h (owner P G s)
          simp at this ⊢
          omega
        · simp
      · have := h j
        rw [List.getD_eq_getElem?_getD] at this
        omega) i
    omega

theorem dealt_le (P G : Nat) (ks : List ByteArray) (i : Nat) (h : i < (dealt P G ks).length) : (dealt P G ks)[i].length ≤ ks.length := by
  have := fold_le P G ks (List.replicate P []) 0 (fun j => by
    rw [List.getD_eq_getElem?_getD, List.getElem?_replicate]
    split <;> simp) i
  rw [Nat.zero_add] at this
  have e : (ks.foldl (dealOne P G) (List.replicate P [])).getD i [] = (dealt P G ks)[i] := by
    rw [List.getD_eq_getElem?_getD]
    show ((dealt P G ks)[i]?).getD [] = _
    rw [List.getElem?_eq_getElem h]; rfl
  rw [e] at this
  exact this

theorem infoTs : (Try.prog.info? 55).map (fun i => (i.zero, i.size, i.bytes)) = some (some (.slice none 0 0), 1, 24) := by kernel_rfl
theorem infoStr : (Try.prog.info? 9).map (fun i => (i.zero, i.size, i.bytes)) = some (some (.string { data := #[] }), 1, 16) := by kernel_rfl

/-- 'make([][]string, n)': n lists of nothing. -/
theorem wpList_make_nils {P : Program} (w : World) {ops : Array Oper} {rest : List Oper} {o : Oper} {a : Act} {Q : Exit → Act → World → Prop}
    (hg : o.guard = none) (l c : Operand) (t : TypeId) (hop : o.op = Op.makeSlice t l c)
    (e : TypeId) (i : TypeInfo) (h1 : P.underlying t = some (.slice e)) (h2 : P.info? e = some i) (h3 : i.zero = some (.slice none 0 0)) (h4 : i.size = 1) (h5 : i.bytes = 24)
    (n : Nat) (hl : a.eval l = .int .i64 (n : Int)) (hc : a.eval c = .int .i64 (n : Int)) (b2 : n ≤ 32768)
    (hK : ∀ w', w'.heap[w.heap.size]? = some (.cells (List.replicate n (Value.slice none 0 0)).toArray e (0, 0)) → Touch (fun _ => False) w w' → wpList P ops Q rest (a.put o.dst (.slice (some ⟨w.heap.size, 0, none⟩) n n)) w') :
    wpList P ops Q (o :: rest) a w := by
  refine wpList_make_full w hg l c t hop 0 e i _ 1 h1 h2 h3 h4 .i64 .i64 (n : Int) (n : Int) n hl hc rfl rfl (by rw [h5]; omega) (by unfold maxLen; omega) (Nat.zero_le _) fun w' hown hgr => ?_
  refine hK w' ?_ ((Touch.of_grownBy hgr).mono (fun k _ h => by simp at h))
  have e1 : (madeCells (Value.cells (.slice none 0 0)) (n * 1)).toList = List.replicate n (Value.slice none 0 0) := by
    show (madeCells #[.slice none 0 0] (n * 1)).toList = _
    apply List.ext_getElem?
    intro i
    by_cases h : i < n
    · simp [madeCells, h, Nat.mod_one]
    · simp [madeCells, h]
  rw [e1] at hown
  rcases hown.2 with ⟨hv, _⟩ | ⟨g, cap, cur, hv, _, q2, _, _, q5, q6⟩
  · cases hv
  · injection hv with v1 _ v3
    injection v1 with v1; injection v1 with v1 _ _
    subst v1 v3
    rw [q2]
    have : cur.toList = List.replicate n (Value.slice none 0 0) := by
      rw [← q6, List.take_of_length_le (by rw [Array.length_toList, q5]; simp)]
    rw [← this]

theorem dl_nils {W : World} {base O n : Nat} (h : W.heap[O]? = some (.cells (List.replicate n (Value.slice none 0 0)).toArray 55 (0, 0))) (hb : base ≤ O) : Dl base W O (List.replicate n (Value.slice none 0 0)) (List.replicate n []) :=
  ⟨h, by simp, fun i hi => by simp only [List.getElem_replicate]; exact World.ownsRow_nil _ _ _ _, fun i j hi hj g _ hg => by simp [Value.ownBlock] at hg, hb⟩

end Go.Proofs.Ytmhobdcnohhaaaa
