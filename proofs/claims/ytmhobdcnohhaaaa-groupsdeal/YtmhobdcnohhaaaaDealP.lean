/- A list of texts that came in; its copy. -/
import Derived.Test.YtmhobdcnohhaaaaGDealR
import Derived.Test.YtmhobdcnohhaaaaGDealW
import Derived.Laws.OwnMore
import Derived.SliceStrings
import Derived.OpenShut
namespace Go.Proofs.Ytmhobdcnohhaaaa
open Go.ChangeShapes Go.WideShapes Go.RowKit

/-- A list of texts, as it came in. -/
structure Txs where
  ao : Option Addr
  c : Nat
  ks : List ByteArray

def Txs.val (t : Txs) : Value := .slice t.ao t.ks.length t.c

structure Txs.Ok (t : Txs) (W : World) : Prop where
  seg : SegT W t.ao t.ks
  len : t.ks.length ≤ 8796093021952
  low : ∀ b off, t.ao = some ⟨b, off, none⟩ → 0 < t.ks.length → b < W.heap.size
  nil : t.ao = none → t.ks.length = 0 ∧ t.c = 0

theorem cellsStr : Try.prog.cellsOf 9 = 1 := by kernel_rfl
theorem bytesStr : Try.prog.bytesOf 9 = 16 := by kernel_rfl

theorem spot_none {w : World} {a : Addr} {v : Value} (h : w.cell? (a.add 0) = some v) : a.spot = none := by
  obtain ⟨b, o, sp⟩ := a
  have hs : ((⟨b, o, sp⟩ : Addr).add 0) = ⟨b, o, sp⟩ := by unfold Addr.add; split <;> simp_all
  rw [hs] at h
  cases sp with
  | none => rfl
  | some x =>
    unfold World.cell? at h
    split at h <;> simp at h

theorem texts_in {H : Type} {enc : TypeId × Value → H} {W : World} {fuel base : Nat} {held : Bool} {v : Value} {x : DataW H × List MemPlace}
    (hf : DataW.trod enc Try.prog W base (fun _ => true) held fuel 55 [v] = some x) (hb : ∀ n ∈ x.1.weights Try.prog 55, n ≤ reachBytes) :
    ∃ t : Txs, v = t.val ∧ t.Ok W := by
  rcases open_strings Try.underlying55 Try.underlying9 cellsStr hf with ⟨hcs, _⟩ | ⟨a, len, cap, ss, hcs, _, hl, hm, hz, hx, hcell, _⟩
  · injection hcs with hcs
    exact ⟨⟨none, 0, []⟩, hcs, ⟨⟨fun h => absurd h (by simp), fun _ _ h => (nomatch h)⟩, by simp, fun _ _ h => (nomatch h), fun _ => ⟨rfl, rfl⟩⟩⟩
  · injection hcs with hcs
    simp only [if_true] at hz
    have hlen : (ss.take len).length = len := by rw [List.length_take]; omega
    have hw : (len + (ss.drop len).length) * 16 ≤ reachBytes := hb _ (by
      rw [hx]
      simp only [DataW.weights, Try.underlying55, bytesStr, strs, List.length_map, hlen]
      exact List.mem_cons_self)
    have hcc : ∀ i (h : i < len), W.cell? (a.add i) = some (.string (ss.take len)[i]) := fun i h => by
      have h1 : i < ss.length := by omega
      have := hcell i h1
      rw [List.getD_eq_getElem?_getD, List.getElem?_eq_getElem h1] at this
      simpa using this
    have hsp : 0 < len → ∃ b off, a = ⟨b, off, none⟩ := fun h => by
      have := spot_none (hcc 0 h)
      obtain ⟨b, o, sp⟩ := a
      exact ⟨b, o, by simp only at this; rw [this]⟩
    have hce : ∀ b off, some a = some ⟨b, off, none⟩ → ∀ i (h : i < (ss.take len).length), W.cell? ⟨b, off + i, none⟩ = some (.string (ss.take len)[i]) := fun b off e i h => by
      injection e with e
      subst e
      have := hcc i (by omega)
      rwa [Addr.add_lit] at this
    refine ⟨⟨some a, cap, ss.take len⟩, by rw [hcs]; unfold Txs.val; rw [hlen], ⟨⟨fun h => ?_, hce⟩, ?_, fun b off e h => ?_, fun h => (nomatch h)⟩⟩
    · obtain ⟨b, o, e⟩ := hsp (by have h' : 0 < (ss.take len).length := h; omega)
      exact ⟨b, o, by rw [e]⟩
    · show (ss.take len).length ≤ _
      rw [hlen]
      unfold reachBytes at hw
      omega
    · have := hce b off e 0 h
      exact lt_of_cell this

/-- 'append(nothing, texts...)'. -/
theorem wpList_append_copy {P : Program} (w : World) {ops : Array Oper} {rest : List Oper} {o : Oper} {a : Act} {Q : Exit → Act → World → Prop}
    (hg : o.guard = none) (s x : Operand) (t : TypeId) (hop : o.op = Op.call { callee := Callee.builtin Builtin.append, args := #[s, x], argTypes := #[t, t] })
    (i : TypeInfo) (h1 : P.underlying t = some (.slice 9)) (h2 : P.info? 9 = some i) (h3 : i.zero = some (.string { data := #[] })) (h4 : i.size = 1) (h5 : i.bytes = 16)
    (hs : a.eval s = .slice none 0 0) (T : Txs) (hT : T.Ok w) (hx : a.eval x = T.val)
    (h : ∀ ao c w', w'.ownsRow w.heap.size 9 1 (.slice ao T.ks.length c) T.ks.length (T.ks.map Value.string) → Touch (fun _ => False) w w' → wpList P ops Q rest (a.put o.dst (.slice ao T.ks.length c)) w') :
    wpList P ops Q (o :: rest) a w := by
  have fin : ∀ v' w', (Builtin.append_ #[t, t] o.type #[.slice none 0 0, T.val]).run P w = .ok v' w' → wpList P ops Q rest (a.put o.dst v') w' → wpList P ops Q (o :: rest) a w := fun v' w' hr hk => by
    refine wpList_plain hg fun K hK' => ?_
    unfold Oper.wp
    simp [execOp, hop, resolve, invoke, builtin, hs, hx, hr, Result.andThen]
    exact hK' _ _ hk
  obtain ⟨ao, c, ks⟩ := T
  have hlen := hT.len
  simp only at hlen h
  cases ao with
  | none =>
    obtain ⟨e1, e2⟩ := hT.nil rfl
    simp only at e1 e2
    subst e2
    obtain rfl : ks = [] := List.eq_nil_of_length_eq_zero e1
    exact fin _ w (run_append_owned_none (P := P) w 0 t o.type 9 i 1 h1 h2 _ 0 [] (World.ownsRow_nil _ _ _ _)) (h none 0 w (World.ownsRow_nil _ _ _ _) (Touch.refl _ _))
  | some ad =>
    obtain ⟨v', w', hrun, r1, r2, _⟩ := run_append_own (P := P) w w.heap.size t o.type 9 i _ 1 16 h1 h2 h3 h4 h5 rfl (by decide) (.slice none 0 0) 0 [] (World.ownsRow_nil _ _ _ _) ad ks.length c (ks.map Value.string) (by simp) (fun j u hj => by
        obtain ⟨hj1, hj2⟩ := List.getElem?_eq_some_iff.1 hj
        rw [List.length_map] at hj1
        rw [List.getElem_map] at hj2
        obtain ⟨b, off, e⟩ := hT.seg.addr (by show 0 < ks.length; omega)
        injection e with e
        subst e
        rw [Addr.add_lit, ← hj2]
        exact hT.seg.cell b off rfl j hj1) (fun u hu => by obtain ⟨s, _, rfl⟩ := List.mem_map.1 hu; rfl) (by unfold maxLen; omega) (by omega) (Nat.le_refl _)
    rw [Nat.zero_add, List.nil_append] at r1
    obtain ⟨ao', c', rfl⟩ := own_shape r1
    exact fin _ w' hrun (h ao' c' w' r1 ((Touch.of_grownBy r2).mono (fun _ _ h => (nomatch h))))

end Go.Proofs.Ytmhobdcnohhaaaa
