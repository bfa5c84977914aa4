/- The program's router: what it knows, in memory; a message; toOwner, toAll. The program's router: toAll. -/
import Derived.Test.YtapnjofplilefaaGreatJ3
import Derived.Test.YtapnjofplilefaaGreatZB
import Derived.Test.YtapnjofplilefaaGreatZ1
import Derived.Test.YtapnjofplilefaaGreatG1
import Derived.Laws.MakeOwn
namespace Go.Proofs.YtapnjofplilefaaGreat
open Go.RowKit

/-- A message. -/
abbrev mgc (x : Sn) : Array Value := #[.int .i64 x.ki, .int .i64 x.sq, .string x.ke, .int .i64 x.tm, .int .i64 x.va]
abbrev mgv (x : Sn) : Value := .agg (mgc x)
theorem mg_cells {w : World} {b : Nat} {x : Sn} {ty : TypeId} (h : w.heap[b]? = some (.cells (mgc x) ty (0, 0))) :
    (w.cell? ⟨b, 0, none⟩ = some (.int .i64 x.ki) ∧ w.cell? ⟨b, 1, none⟩ = some (.int .i64 x.sq) ∧ w.cell? ⟨b, 2, none⟩ = some (.string x.ke) ∧ w.cell? ⟨b, 3, none⟩ = some (.int .i64 x.tm) ∧ w.cell? ⟨b, 4, none⟩ = some (.int .i64 x.va)) ∧ ∀ o, w.frozen? ⟨b, o, none⟩ = false := by simp [World.cell?, World.frozen?, h]

/-- What a router knows lies at k, in the blocks G: its job is c, it has p workers, its marks are L, the next number is s. -/
structure Kno (w : World) (k : Nat) (G : Nat → Prop) (c : Cf) (p : Nat) (L : List Int) (s : Int) : Prop where
  ex : ∃ qc Gc, w.heap[k]? = some (.cells (rrc c (p : Int) (cp qc) s) 89 (0, 0)) ∧ Clk w qc Gc L [] ∧ ∀ g, Gc g → G g ∧ g ≠ k
  ok : ofB L = true
  at_ : G k
  lt : ∀ g, G g → g < w.heap.size
theorem Kno.touch {w w' : World} {k : Nat} {G S : Nat → Prop} {c : Cf} {p : Nat} {L : List Int} {s : Int} (h : Kno w k G c p L s) (ht : Touch S w w') (hS : ∀ g, G g → ¬ S g) : Kno w' k G c p L s := by
  obtain ⟨qc, Gc, h1, h2, h3⟩ := h.ex
  exact ⟨⟨qc, Gc, ht.heap h1 (hS k h.at_), h2.touch ht (fun g hg => hS g (h3 g hg).1), h3⟩, h.ok, h.at_, fun g hg => Nat.lt_of_lt_of_le (h.lt g hg) ht.size⟩
theorem Kno.calm {w w' : World} {k : Nat} {G : Nat → Prop} {c : Cf} {p : Nat} {L : List Int} {s : Int} (h : Kno w k G c p L s) (ht : Calm w w') : Kno w' k G c p L s := h.touch ht fun _ _ h => h
theorem Kno.pos {w : World} {k : Nat} {G : Nat → Prop} {c : Cf} {p : Nat} {L : List Int} {s : Int} (h : Kno w k G c p L s) : L ≠ [] ∧ L.length ≤ 64 := by
  obtain ⟨qc, Gc, -, h2, -⟩ := h.ex
  exact ⟨h2.ne, h2.len⟩

set_option maxRecDepth 100000 in
set_option maxHeartbeats 1000000 in
theorem toOwner_any {w : World} {k : Nat} {c : Cf} {p g : Nat} {m : Value} {s : Int} {L : List Int} (x : Sn) (hk : w.heap[k]? = some (.cells (rrc c (p : Int) m s) 89 (0, 0))) (hS : Sit c p g L) (hx : x.ke.size ≤ 256) : Calls Tryz.prog 53 #[cp k, mgv x] w fun e w' => ∃ a kc, e = .returned (.slice a 1 kc) ∧ encSn.Own 65 w' w.heap.size (.slice a 1 kc) [⟨(wk p g (hsh x.ke % g) : Nat), x.ki, x.sq, x.ke, x.tm, x.va⟩] ∧ Calm w w' := by
  have CO : Hid (∀ W, Calls Tryz.prog 37 #[.string x.ke, .int .i64 (p : Int), .int .i64 (g : Int)] W fun e w' => e = .returned (.tuple #[.int .i64 (wk p g (hsh x.ke % g) : Nat), .int .i64 0]) ∧ w' = W) := hide fun W => by
    have := ofP_any x.ke ⟨by omega⟩ p g hS.may W
    rw [if_pos hx] at this
    exact this
  have hg := hS.gr
  have KQ : Hid (∀ W, Calm w W → W.heap[k]? = some (.cells (rrc c (p : Int) m s) 89 (0, 0))) := hide fun W hW => hW.at hk
  have A0 := hide (al_new w (.cells (mgc x) 63))
  have T0 := hide ((Touch.refl (fun _ => False) w).alloc (.cells (mgc x) 63))
  obtain ⟨xw, ki, sq, ke, tm, va⟩ := x
  generalize wk p g (hsh ke % g) = K at *
  clear hk hS hx
  go_enter Tryz.func53, Tryz.ntmps53
  go_wp2_with fail
  generalize w.alloc (.cells (mgc ⟨xw, ki, sq, ke, tm, va⟩) 63) = w1 at *
  generalize hD : w.heap.size = D at *
  have HD := hide hD
  clear hD
  refine wp_region_held (S := Calm w1) (by kernel_rfl) ?_
  have hT0 : Calm w1 { w1 with drawn := w1.drawn + 1 } := (Touch.refl _ w1).drew
  refine wpAnyH_yield 0 8 (.pointer (some ⟨D, 2, none⟩)) rfl rfl (by kernel_rfl) (by kernel_rfl) (by kernel_rfl) (fun _ _ _ h => h) (by kernel_rfl) (fun W hW => by kernel_rfl) (by assumption) rfl rfl ?_
  simp only [Act.put, List.setIfInBounds_toArray, List.set_cons_zero, List.set_cons_succ]
  refine wpAnyH_yield 1 9 (.string ke) rfl rfl (by kernel_rfl) (by kernel_rfl) (by kernel_rfl) (fun _ _ _ h => h) (by kernel_rfl) (fun W hW => by obtain ⟨⟨k0, k1, k2, k3, k4⟩, -⟩ := mg_cells (hW.at A0.out); go_simp) (by assumption) rfl rfl ?_
  simp only [Act.put, List.setIfInBounds_toArray, List.set_cons_zero, List.set_cons_succ]
  refine wpAnyH_yield 2 10 (.pointer (some ⟨k, 0, none⟩)) rfl rfl (by kernel_rfl) (by kernel_rfl) (by kernel_rfl) (fun _ _ _ h => h) (by kernel_rfl) (fun W hW => by kernel_rfl) (by assumption) rfl rfl ?_
  simp only [Act.put, List.setIfInBounds_toArray, List.set_cons_zero, List.set_cons_succ]
  refine wpAnyH_yield 3 11 (.pointer (some ⟨k, 0, none⟩)) rfl rfl (by kernel_rfl) (by kernel_rfl) (by kernel_rfl) (fun _ _ _ h => h) (by kernel_rfl) (fun W hW => by go_simp) (by assumption) rfl rfl ?_
  simp only [Act.put, List.setIfInBounds_toArray, List.set_cons_zero, List.set_cons_succ]
  refine wpAnyH_yield 4 12 (.pointer (some ⟨k, 10, none⟩)) rfl rfl (by kernel_rfl) (by kernel_rfl) (by kernel_rfl) (fun _ _ _ h => h) (by kernel_rfl) (fun W hW => by go_simp) (by assumption) rfl rfl ?_
  simp only [Act.put, List.setIfInBounds_toArray, List.set_cons_zero, List.set_cons_succ]
  refine wpAnyH_yield 5 13 (.int .i64 (p : Int)) rfl rfl (by kernel_rfl) (by kernel_rfl) (by kernel_rfl) (fun _ _ _ h => h) (by kernel_rfl) (fun W hW => by obtain ⟨-, k0, -⟩ := rr_cells (KQ.out W (T0.out.tr hW)); go_simp) (by assumption) rfl rfl ?_
  simp only [Act.put, List.setIfInBounds_toArray, List.set_cons_zero, List.set_cons_succ]
  refine wpAnyH_yield 6 14 (.pointer (some ⟨k, 0, none⟩)) rfl rfl (by kernel_rfl) (by kernel_rfl) (by kernel_rfl) (fun _ _ _ h => h) (by kernel_rfl) (fun W hW => by kernel_rfl) (by assumption) rfl rfl ?_
  simp only [Act.put, List.setIfInBounds_toArray, List.set_cons_zero, List.set_cons_succ]
  refine wpAnyH_yield 7 15 (.pointer (some ⟨k, 0, none⟩)) rfl rfl (by kernel_rfl) (by kernel_rfl) (by kernel_rfl) (fun _ _ _ h => h) (by kernel_rfl) (fun W hW => by go_simp) (by assumption) rfl rfl ?_
  simp only [Act.put, List.setIfInBounds_toArray, List.set_cons_zero, List.set_cons_succ]
  refine wpAnyH_yield 8 16 (.pointer (some ⟨k, 0, none⟩)) rfl rfl (by kernel_rfl) (by kernel_rfl) (by kernel_rfl) (fun _ _ _ h => h) (by kernel_rfl) (fun W hW => by go_simp) (by assumption) rfl rfl ?_
  simp only [Act.put, List.setIfInBounds_toArray, List.set_cons_zero, List.set_cons_succ]
  refine wpAnyH_yield 9 17 (.pointer (some ⟨k, 0, none⟩)) rfl rfl (by kernel_rfl) (by kernel_rfl) (by kernel_rfl) (fun _ _ _ h => h) (by kernel_rfl) (fun W hW => by go_simp) (by assumption) rfl rfl ?_
  simp only [Act.put, List.setIfInBounds_toArray, List.set_cons_zero, List.set_cons_succ]
  refine wpAnyH_yield 10 18 (.int .i64 (g : Int)) rfl rfl (by kernel_rfl) (by kernel_rfl) (by kernel_rfl) (fun _ _ _ h => h) (by kernel_rfl) (fun W hW => by obtain ⟨⟨k0, -⟩, -⟩ := rr_cells (KQ.out W (T0.out.tr hW)); rw [hg] at k0; go_simp) (by assumption) rfl rfl ?_
  simp only [Act.put, List.setIfInBounds_toArray, List.set_cons_zero, List.set_cons_succ]
  refine wpAnyH_enter 11 19 37 #[.string ke, .int .i64 (p : Int), .int .i64 (g : Int)] rfl rfl (by kernel_rfl) (by kernel_rfl) (by kernel_rfl) ?_
  refine ((CO.out _)).mono ?_
  rintro r w4 ⟨rfl, rfl⟩
  refine ⟨_, rfl, hT0, ?_⟩
  simp only [Act.put, List.setIfInBounds_toArray, List.set_cons_zero, List.set_cons_succ]
  refine wpAnyH_yield 12 7 (.tuple #[.int .i64 (K : Int), .int .i64 0]) rfl rfl (by kernel_rfl) (by kernel_rfl) (by kernel_rfl) (fun _ _ _ h => h) (by kernel_rfl) (fun W hW => by kernel_rfl) (by assumption) rfl rfl ?_
  simp only [Act.put, List.setIfInBounds_toArray, List.set_cons_zero, List.set_cons_succ]
  refine wpAnyH_yield 13 20 (.int .i64 (K : Int)) rfl rfl (by kernel_rfl) (by kernel_rfl) (by kernel_rfl) (fun _ _ _ h => h) (by kernel_rfl) (fun W hW => by kernel_rfl) (by assumption) rfl rfl ?_
  simp only [Act.put, List.setIfInBounds_toArray, List.set_cons_zero, List.set_cons_succ]
  refine wpAnyH_yield 14 21 (.int .i64 0) rfl rfl (by kernel_rfl) (by kernel_rfl) (by kernel_rfl) (fun _ _ _ h => h) (by kernel_rfl) (fun W hW => by kernel_rfl) (by assumption) rfl rfl ?_
  simp only [Act.put, List.setIfInBounds_toArray, List.set_cons_zero, List.set_cons_succ]
  refine wpAnyH_yield 15 5 (.int .i64 (K : Int)) rfl rfl (by kernel_rfl) (by kernel_rfl) (by kernel_rfl) (fun _ _ _ h => h) (by kernel_rfl) (fun W hW => by kernel_rfl) (by assumption) rfl rfl ?_
  simp only [Act.put, List.setIfInBounds_toArray, List.set_cons_zero, List.set_cons_succ]
  refine wpAnyH_yield 16 6 (.int .i64 0) rfl rfl (by kernel_rfl) (by kernel_rfl) (by kernel_rfl) (fun _ _ _ h => h) (by kernel_rfl) (fun W hW => by kernel_rfl) (by assumption) rfl rfl ?_
  simp only [Act.put, List.setIfInBounds_toArray, List.set_cons_zero, List.set_cons_succ]
  refine wpAnyH_done (by kernel_rfl) ?_ _
  generalize ({ w1 with drawn := w1.drawn + 1 } : World) = w4 at *
  obtain ⟨⟨k0, k1, k2, k3, k4⟩, -⟩ := mg_cells (hT0.at A0.out)
  have TT := hide (T0.out.tr hT0)
  have HL : Hid (w.heap.size ≤ w4.heap.size) := hide (T0.out.tr hT0).size
  clear hT0 CO KQ A0 T0
  go_wp2_with fail
  go_ret
  have TA := (Touch.refl (fun _ => False) w4).alloc (.cells (snc ⟨(K : Int), ki, sq, ke, tm, va⟩) 65)
  exact ⟨_, 1, rfl, Rc.Own.base (own_one w4 ⟨(K : Int), ki, sq, ke, tm, va⟩) (by have := HL.out; have := HD.out; omega), TT.out.tr TA⟩

end Go.Proofs.YtapnjofplilefaaGreat

namespace Go.Proofs.YtapnjofplilefaaGreat
open Go.RowKit

/-- The first i of the row are written. -/
def Az (w0 : World) (g n i : Nat) (x : Sn) (wr : World) : Prop := ∃ cur : Array Value, wr.heap[g]? = some (.cells cur 65 (0, 0)) ∧ cur.size = n * 6 ∧ (∀ j, j < i → ∀ o, o < 6 → cur[j * 6 + o]? = (snc ⟨(j : Int), x.ki, x.sq, x.ke, x.tm, x.va⟩)[o]?) ∧ Calm w0 wr
theorem Az.free {w0 wr : World} {g n i : Nat} {x : Sn} (h : Az w0 g n i x wr) (hi : i < n) : ((∃ u, wr.cell? ⟨g, i * 6, none⟩ = some u) ∧ (∃ u, wr.cell? ⟨g, i * 6 + 1, none⟩ = some u) ∧ (∃ u, wr.cell? ⟨g, i * 6 + 2, none⟩ = some u) ∧ (∃ u, wr.cell? ⟨g, i * 6 + 3, none⟩ = some u) ∧ (∃ u, wr.cell? ⟨g, i * 6 + 4, none⟩ = some u) ∧ (∃ u, wr.cell? ⟨g, i * 6 + 5, none⟩ = some u)) ∧ ∀ o, wr.frozen? ⟨g, o, none⟩ = false := by
  obtain ⟨cur, h1, h2, -, -⟩ := h
  refine ⟨⟨⟨cur[i * 6]'(by omega), ?_⟩, ⟨cur[i * 6 + 1]'(by omega), ?_⟩, ⟨cur[i * 6 + 2]'(by omega), ?_⟩, ⟨cur[i * 6 + 3]'(by omega), ?_⟩, ⟨cur[i * 6 + 4]'(by omega), ?_⟩, ⟨cur[i * 6 + 5]'(by omega), ?_⟩⟩, fun o => by simp [World.frozen?, h1]⟩ <;> simp [World.cell?, h1]
/-- One more is written. -/
abbrev azW (wr : World) (g i : Nat) (x : Sn) : World := (((((wr.setCell ⟨g, i * 6, none⟩ (.int .i64 (i : Int))).setCell ⟨g, i * 6 + 1, none⟩ (.int .i64 x.ki)).setCell ⟨g, i * 6 + 2, none⟩ (.int .i64 x.sq)).setCell ⟨g, i * 6 + 3, none⟩ (.string x.ke)).setCell ⟨g, i * 6 + 4, none⟩ (.int .i64 x.tm)).setCell ⟨g, i * 6 + 5, none⟩ (.int .i64 x.va)
theorem Az.next {w0 wr : World} {g n i : Nat} {x : Sn} (h : Az w0 g n i x wr) (hi : i < n) (hg : w0.heap.size ≤ g) : Az w0 g n (i + 1) x (azW wr g i x) := by
  obtain ⟨cur, h1, h2, h3, h4⟩ := h
  have k0 := heap_setCell_row (i := i * 6) h1 (.int .i64 (i : Int))
  have k1 := heap_setCell_row (i := i * 6 + 1) k0 (.int .i64 x.ki)
  have k2 := heap_setCell_row (i := i * 6 + 2) k1 (.int .i64 x.sq)
  have k3 := heap_setCell_row (i := i * 6 + 3) k2 (.string x.ke)
  have k4 := heap_setCell_row (i := i * 6 + 4) k3 (.int .i64 x.tm)
  have k5 := heap_setCell_row (i := i * 6 + 5) k4 (.int .i64 x.va)
  have T : Touch (fun d => d = g) wr (azW wr g i x) := ((((((Touch.refl (fun k => k = g) wr).setCell (p := ⟨g, i * 6, none⟩) (fun _ => rfl) _).setCell (p := ⟨g, i * 6 + 1, none⟩) (fun _ => rfl) _).setCell (p := ⟨g, i * 6 + 2, none⟩) (fun _ => rfl) _).setCell (p := ⟨g, i * 6 + 3, none⟩) (fun _ => rfl) _).setCell (p := ⟨g, i * 6 + 4, none⟩) (fun _ => rfl) _).setCell (p := ⟨g, i * 6 + 5, none⟩) (fun _ => rfl) _
  refine ⟨_, k5, by simpa using h2, fun j hj c hc => ?_, h4.trans T (fun d hd e => by omega)⟩
  simp only [Array.getElem?_setIfInBounds, Array.size_setIfInBounds, h2]
  by_cases e : j = i
  · subst e
    rcases (show c = 0 ∨ c = 1 ∨ c = 2 ∨ c = 3 ∨ c = 4 ∨ c = 5 by omega) with rfl | rfl | rfl | rfl | rfl | rfl
    · rw [if_neg (by omega), if_neg (by omega), if_neg (by omega), if_neg (by omega), if_neg (by omega), if_pos (by omega), if_pos (by omega)]; rfl
    · rw [if_neg (by omega), if_neg (by omega), if_neg (by omega), if_neg (by omega), if_pos rfl, if_pos (by omega)]; rfl
    · rw [if_neg (by omega), if_neg (by omega), if_neg (by omega), if_pos rfl, if_pos (by omega)]; rfl
    · rw [if_neg (by omega), if_neg (by omega), if_pos rfl, if_pos (by omega)]; rfl
    · rw [if_neg (by omega), if_pos rfl, if_pos (by omega)]; rfl
    · rw [if_pos rfl, if_pos (by omega)]; rfl
  · rw [if_neg (by omega), if_neg (by omega), if_neg (by omega), if_neg (by omega), if_neg (by omega), if_neg (by omega)]
    exact h3 j (by omega) c hc
theorem Az.own {w0 wr : World} {g n : Nat} {x : Sn} (h : Az w0 g n n x wr) (hg : w0.heap.size ≤ g) (hn : n ≤ 32768) : encSn.Own 65 wr w0.heap.size (.slice (some ⟨g, 0, none⟩) n n) (allS n x) := by
  obtain ⟨cur, h1, h2, h3, -⟩ := h
  unfold Rc.Enc.Own
  rw [all_len]
  have hf : (encSn.flat (allS n x)).length = n * 6 := by rw [Rc.Enc.flat_len, all_len]; rfl
  refine ⟨hf, .inr ⟨g, n, cur, rfl, hg, h1, Nat.le_refl _, by unfold maxLen; omega, h2, ?_⟩⟩
  refine List.ext_getElem? fun i => ?_
  by_cases hi : i < n * 6
  · have hj : i / 6 < n := by omega
    have ho : i % 6 < 6 := Nat.mod_lt _ (by decide)
    have e : i = i / 6 * 6 + i % 6 := by omega
    rw [List.getElem?_take_of_lt (show i < n * encSn.n from hi), Array.getElem?_toList]
    have a := h3 (i / 6) hj (i % 6) ho
    rw [← e] at a
    rw [a]
    have b := Rc.Enc.flat_get encSn (allS n x) (i / 6) (by rw [all_len]; exact hj) (i % 6) ho
    have b' : (encSn.flat (allS n x))[i / 6 * 6 + i % 6]? = (snc ((allS n x)[i / 6]'(by rw [all_len]; exact hj))).toList[i % 6]? := b
    rw [← e] at b'
    rw [b', Array.getElem?_toList]
    simp [allS]
  · rw [List.getElem?_eq_none (by have e6 : encSn.n = 6 := rfl; rw [List.length_take, e6]; omega), List.getElem?_eq_none (by omega)]

set_option maxRecDepth 100000 in
set_option maxHeartbeats 2000000 in
theorem toAll_any {w : World} {k : Nat} {c : Cf} {n : Nat} {m : Value} {s : Int} (x : Sn) (hk : w.heap[k]? = some (.cells (rrc c (n : Int) m s) 89 (0, 0))) (hn1 : 1 ≤ n) (hn2 : n ≤ 32768) : Calls Tryz.prog 55 #[cp k, mgv x] w fun e w' => ∃ a kc, e = .returned (.slice a n kc) ∧ encSn.Own 65 w' w.heap.size (.slice a n kc) (allS n x) ∧ Calm w w' := by
  obtain ⟨i0, hi, hz0, hz1, hz2⟩ := Rc.info_parts infoS
  obtain ⟨M, hM, hMs⟩ : ∃ M : Array Value, (∀ W : World, (Instr.makeSlice 55 (.int .i64 (n : Int)) (.int .i64 (n : Int))).run Tryz.prog W = .ok (.slice (some ⟨W.heap.size, 0, none⟩) n n) (W.alloc (.cells M 65))) ∧ M.size = n * 6 :=
    ⟨madeCells (Value.agg #[.int .i64 0, .int .i64 0, .int .i64 0, .string ⟨#[]⟩, .int .i64 0, .int .i64 0]).cells (((n : Nat) : Int).toNat * i0.size), fun W => by
      have h := run_make (P := Tryz.prog) W 55 65 i0 (.agg #[.int .i64 0, .int .i64 0, .int .i64 0, .string ⟨#[]⟩, .int .i64 0, .int .i64 0]) Tryz.underlying55 hi hz0 .i64 .i64 (n : Int) (n : Int) (by omega) (by omega) (by rw [hz2]; omega) (by omega)
      simpa using h, by rw [size_madeCells, hz1]; simp⟩
  obtain ⟨xw, ki, sq, ke, tm, va⟩ := x
  have k0 := (rr_cells (((Touch.refl (fun _ => False) w).alloc (.cells (mgc ⟨xw, ki, sq, ke, tm, va⟩) 63)).at hk)).2.1
  have FACTS : Hid (∀ w0, w.alloc (.cells (mgc ⟨xw, ki, sq, ke, tm, va⟩) 63) = w0 → w0.heap.size = w.heap.size + 1 ∧ Calm w w0 ∧ Az w0 (w.heap.size + 1) n 0 ⟨xw, ki, sq, ke, tm, va⟩ (w0.alloc (.cells M 65)) ∧ ∀ W, Calm w0 W → (W.cell? ⟨w.heap.size, 0, none⟩ = some (.int .i64 ki) ∧ W.cell? ⟨w.heap.size, 1, none⟩ = some (.int .i64 sq) ∧ W.cell? ⟨w.heap.size, 2, none⟩ = some (.string ke) ∧ W.cell? ⟨w.heap.size, 3, none⟩ = some (.int .i64 tm) ∧ W.cell? ⟨w.heap.size, 4, none⟩ = some (.int .i64 va))) := hide fun w0 e => by
    subst e
    have S0 := al_size w (.cells (mgc ⟨xw, ki, sq, ke, tm, va⟩) 63)
    have A0 := al_new w (.cells (mgc ⟨xw, ki, sq, ke, tm, va⟩) 63)
    refine ⟨S0, (Touch.refl _ _).alloc _, ⟨M, by rw [← S0]; exact al_new _ _, hMs, fun j hj => (nomatch hj), (Touch.refl _ _).alloc _⟩, fun W hW => (mg_cells (hW.at A0)).1⟩
  have HN := hide hn2
  have ANY : Hid (∀ w0 g i wr, w0.heap.size ≤ g → Az w0 g n i ⟨xw, ki, sq, ke, tm, va⟩ wr → Calm w0 wr ∧ (i < n → Az w0 g n (i + 1) ⟨xw, ki, sq, ke, tm, va⟩ (azW wr g i ⟨xw, ki, sq, ke, tm, va⟩)) ∧ (i = n → encSn.Own 65 wr w0.heap.size (.slice (some ⟨g, 0, none⟩) n n) (allS n ⟨xw, ki, sq, ke, tm, va⟩))) := hide fun w0 g i wr hg h => ⟨by obtain ⟨_, _, _, _, h⟩ := h; exact h, fun hi => h.next hi hg, fun e => by rw [e] at h; exact h.own hg hn2⟩
  clear hk hi hz0 hz1 hz2 hMs hn1 hn2
  generalize allS n ⟨xw, ki, sq, ke, tm, va⟩ = A at *
  go_enter Tryz.func55, Tryz.ntmps55
  go_wp2_with fail
  generalize hw0 : w.alloc (.cells (mgc ⟨xw, ki, sq, ke, tm, va⟩) 63) = w0 at *
  obtain ⟨S0, T0, Z0, MS⟩ := FACTS.out w0 rfl
  have Z0 := hide Z0
  have MSG := hide MS
  have TT := hide T0
  have GW : Hid (w0.heap.size ≤ w.heap.size + 1) := hide (by omega)
  clear FACTS MS T0 S0 hw0 hM k0
  generalize hD : w.heap.size = D at *
  have HD := hide hD
  clear hD
  go_loopw [6, 14] (fun s6 s14 wr => ∃ i : Nat, s14 = .int .i64 (i : Int) ∧ i ≤ n ∧ Hid (Az w0 (D + 1) n i ⟨xw, ki, sq, ke, tm, va⟩ wr)) (fun _ s14 _ => n - (intOf s14).toNat)
  case atStart => exact ⟨0, rfl, by omega, Z0⟩
  case round =>
    obtain ⟨i, rfl, hin, HA⟩ := hrel
    clear Z0
    by_cases hlt : i < n
    · have hltz : (i : Int) < (n : Int) := by omega
      obtain ⟨hc, hx, -⟩ := ANY.out w0 (D + 1) i wr GW.out HA.out
      obtain ⟨m0, m1, m2, m3, m4⟩ := MSG.out wr hc
      obtain ⟨⟨⟨u0, f0⟩, ⟨u1, f1⟩, ⟨u2, f2⟩, ⟨u3, f3⟩, ⟨u4, f4⟩, ⟨u5, f5⟩⟩, fz⟩ := HA.out.free hlt
      have NX := hide (hx hlt)
      have zw : IntKind.i64.wrap ((i : Int) + 1) = ((i + 1 : Nat) : Int) := by rw [IntKind.wrap_i64]; have := HN.out; omega
      have g0 := fz (i * 6)
      have g1 := fz (i * 6 + 1)
      have g2 := fz (i * 6 + 2)
      have g3 := fz (i * 6 + 3)
      have g4 := fz (i * 6 + 4)
      have g5 := fz (i * 6 + 5)
      clear fz hx hc HA ANY MSG
      go_wp2_with fail
      go_roundw
      case rel => exact ⟨i + 1, by first | rfl | go_num, by omega, NX⟩
      case measure => simp [intOf]; omega
    · have hltz : ¬ (i : Int) < (n : Int) := by omega
      obtain rfl : i = n := by omega
      obtain ⟨hc, -, hx⟩ := ANY.out w0 (D + 1) i wr GW.out HA.out
      have OW := hide (Rc.Own.base (hx rfl) TT.out.size)
      have TC := hide (TT.out.tr hc)
      clear hx hc HA ANY MSG
      go_wp2_with fail
      go_ret
      exact ⟨_, i, rfl, OW.out, TC.out⟩

end Go.Proofs.YtapnjofplilefaaGreat
