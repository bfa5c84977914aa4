/- Sums of texts whose list has just been laid; a new row of noughts. -/
import Derived.Test.YtmmeglpglaogeaaDoorWorks
import Derived.Test.YtmmeglpglaogeaaDoorCame
namespace Go.Proofs.YtmmeglpglaogeaaDoor
open Go.RowKit Crcx

/-- Sum of texts whose list has just been laid. -/
theorem sum_row (w : World) (ht : Tab w) (ts : List Txt) (hts : ∀ t ∈ ts, t.Ok w) (hb : ts.length ≤ 281474976710656) (n : Nat) (hn : n = ts.length) (res : Nat) (hres : more 0 (nats (alls ts)) = res) (c : Array Value) (hc : c = (ts.map Txt.val).toArray) :
    Calls Tryd.prog 18 #[.slice (some ⟨w.heap.size, 0, none⟩) n n] (w.alloc (.cells c 25))
      fun e w' => e = .returned (.int .u32 (res : Int)) ∧ Tab w' ∧ Touch (fun _ => False) w w' := by
  subst hn
  obtain ⟨o, ho⟩ : ∃ o, o = Obj.cells c 25 (0, 0) := ⟨_, rfl⟩
  rw [← ho]
  have T : Touch (fun _ => False) w (w.alloc o) := (Touch.refl _ _).alloc _
  have b2 : (w.alloc o).heap[w.heap.size]? = some o := heap_alloc_last w _
  generalize w.alloc o = W at *
  rw [ho] at b2
  have := sum_any (some ⟨w.heap.size, 0, none⟩) ts ts.length W (ht.touch T (fun h => h)) (segV_of b2 hc) (fun t h => (hts t h).touch T) hb
  rw [hres] at this
  refine this.mono ?_
  rintro e w' ⟨rfl, rfl⟩
  exact ⟨rfl, ht.touch T (fun h => h), T⟩

theorem made_toList (z : Value) (n : Nat) : (madeCells #[z] (n * 1)).toList = List.replicate n z := by
  apply List.ext_getElem?
  intro i
  by_cases h : i < n
  · simp [madeCells, h, Nat.mod_one]
  · simp [madeCells, h]

theorem infoU8 : (Tryd.prog.info? 5).map (fun i => (i.zero, i.size, i.bytes)) = some (some (.int .u8 0), 1, 1) := by kernel_rfl

/-- 'make([]byte, n)': a new row of n noughts. -/
theorem wpList_make_noughts (w : World) {ops : Array Oper} {rest : List Oper} {o : Oper} {a : Act} {Q : Exit → Act → World → Prop}
    (hg : o.guard = none) (l c : Operand) (hop : o.op = Op.makeSlice 25 l c) (n : Nat) (hl : a.eval l = .int .i64 n) (hc : a.eval c = .int .i64 n) (b2 : n ≤ 281474976710656) (b3 : n ≤ maxLen)
    (hK : ∀ w', Row w' 5 .u8 (.slice (some ⟨w.heap.size, 0, none⟩) n n) (List.replicate n 0) → Touch (fun _ => False) w w' → wpList Tryd.prog ops Q rest (a.put o.dst (.slice (some ⟨w.heap.size, 0, none⟩) n n)) w') :
    wpList Tryd.prog ops Q (o :: rest) a w := by
  obtain ⟨i0, hi, hz0, hz1, hz2⟩ := info_parts infoU8
  refine wpList_make_full w hg l c 25 hop 0 5 i0 (.int .u8 0) 1 Tryd.underlying25 hi hz0 hz1 .i64 .i64 n n n hl hc rfl rfl (by rw [hz2]; omega) b3 (Nat.zero_le _) fun w' hown hgr => ?_
  refine hK w' ?_ ⟨hgr.os, hgr.tape, hgr.output, hgr.size, fun k hk _ => hgr.block k hk (by simp)⟩
  unfold Row
  rw [show (Value.int .u8 0).cells = #[.int .u8 0] from rfl, made_toList] at hown
  simpa using hown

end Go.Proofs.YtmmeglpglaogeaaDoor
