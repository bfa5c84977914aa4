/- The law's place and plays: a step on a clock of the program's and the document's. -/
import Derived.Test.YtcmigkemhoecfaaKP
namespace Go.Proofs.Ytcmigkemhoecfaa
open Go.RowKit

/-- A step. -/
structure Stp where
  k : Int
  who : Int
  to : Int
  src : Int
  lv : Int
  nm : ByteArray
  t : Int
  ok : nm.size ≤ 140737488351232
abbrev stpc (s : Stp) : Array Value := #[.int .i64 s.k, .int .i64 s.who, .int .i64 s.to, .int .i64 s.src, .int .i64 s.lv, .string s.nm, .int .i64 s.t]
theorem stp_cells {w : World} {b : Nat} {s : Stp} {ty : TypeId} (h : w.heap[b]? = some (.cells (stpc s) ty (0, 0))) : w.cell? ⟨b, 0, none⟩ = some (.int .i64 s.k) ∧ w.cell? ⟨b, 3, none⟩ = some (.int .i64 s.src) ∧ w.cell? ⟨b, 4, none⟩ = some (.int .i64 s.lv) ∧ w.cell? ⟨b, 5, none⟩ = some (.string s.nm) ∧ w.cell? ⟨b, 6, none⟩ = some (.int .i64 s.t) := by simp [World.cell?, h]

/-- A clock of the program's and one of the document's, alike and apart. -/
structure Pair (Pk : World → Nat → (Nat → Prop) → List Int → List Hd → Prop) (w : World) (q r : Nat) (G F : Nat → Prop) (L : List Int) (H : List Hd) : Prop where
  p : Pk w q G L H
  r : Rk w r F L H
  ap : ∀ g, G g → ¬ F g
theorem Pair.touch {Pk : World → Nat → (Nat → Prop) → List Int → List Hd → Prop} (I : Pki Pk) {w w' : World} {q r : Nat} {G F S : Nat → Prop} {L : List Int} {H : List Hd} (h : Pair Pk w q r G F L H) (ht : Touch S w w') (hS : ∀ g, G g ∨ F g → ¬ S g) : Pair Pk w' q r G F L H :=
  ⟨I.touch h.p ht fun g hg => hS g (.inl hg), h.r.touch ht fun g hg => hS g (.inr hg), h.ap⟩
/-- What a step leaves. -/
def After (Pk : World → Nat → (Nat → Prop) → List Int → List Hd → Prop) (w : World) (q r : Nat) (G F : Nat → Prop) (n : Nat) (w' : World) : Prop :=
  Touch (fun g => G g ∨ F g) w w' ∧ ∃ G' F' L' H', Pair Pk w' q r G' F' L' H' ∧ H'.length ≤ n + 1 ∧ ∀ g, G' g ∨ F' g → (G g ∨ F g) ∨ w.heap.size ≤ g

/-- One changes, then the other. -/
theorem after_two {Pk : World → Nat → (Nat → Prop) → List Int → List Hd → Prop} (I : Pki Pk) {w w1 w2 : World} {q r : Nat} {G F G' F' : Nat → Prop} {L L' : List Int} {H H' : List Hd} (h : Pair Pk w q r G F L H) (t1 : Touch G w w1) (p1 : Pk w1 q G' L' H') (g1 : ∀ g, G' g → G g ∨ w.heap.size ≤ g) (t2 : Touch F w1 w2) (r2 : Rk w2 r F' L' H') (g2 : ∀ g, F' g → F g ∨ w1.heap.size ≤ g) (hn : H'.length ≤ H.length + 1) : After Pk w q r G F H.length w2 := by
  have s1 := t1.size
  refine ⟨(t1.mono fun g _ h => .inl h).trans (t2.mono fun g _ h => .inr h) (fun g _ h => h), G', F', L', H', ⟨I.touch p1 t2 fun g hg hf => ?_, r2, fun g hg hf => ?_⟩, hn, fun g hg => ?_⟩
  · rcases g1 g hg with h1 | h1
    · exact h.ap g h1 hf
    · have := h.r.lt g hf; omega
  · rcases g1 g hg with h1 | h1
    · rcases g2 g hf with h2 | h2
      · exact h.ap g h1 h2
      · have := I.lt h.p g h1; omega
    · rcases g2 g hf with h2 | h2
      · have := h.r.lt g h2; omega
      · have := I.lt p1 g hg; omega
  · rcases hg with hg | hg
    · rcases g1 g hg with h1 | h1
      · exact .inl (.inl h1)
      · exact .inr h1
    · rcases g2 g hg with h2 | h2
      · exact .inl (.inr h2)
      · exact .inr (by omega)
theorem after_calm {Pk : World → Nat → (Nat → Prop) → List Int → List Hd → Prop} (I : Pki Pk) {w w1 : World} {q r : Nat} {G F : Nat → Prop} {L : List Int} {H : List Hd} (h : Pair Pk w q r G F L H) (t1 : Calm w w1) : After Pk w q r G F H.length w1 :=
  ⟨t1.mono fun _ _ h => h.elim, G, F, L, H, h.touch I t1 fun _ _ h => h, by omega, fun g hg => .inl hg⟩

theorem place_any (x : Int) (w : World) : Calls Try.prog 14 #[.int .i64 x] w fun e w' => (∃ i : Nat, i < 3 ∧ e = .returned (.int .i64 (i : Int))) ∧ w' = w := by
  have h1 : -3 < Int.tmod x 3 ∧ Int.tmod x 3 < 3 := by
    have := Int.natAbs_tmod x 3
    have h2 : x.natAbs % (3 : Int).natAbs < (3 : Int).natAbs := Nat.mod_lt _ (by omega)
    omega
  by_cases hn : Int.tmod x 3 < 0
  · obtain ⟨i, hi⟩ : ∃ i : Nat, Int.tmod x 3 + 3 = (i : Int) := ⟨(Int.tmod x 3 + 3).toNat, by omega⟩
    have hw3 : wrap64 (Int.tmod x 3 + 3) = Int.tmod x 3 + 3 := by unfold wrap64; omega
    have hw0 : wrap64 (Int.tmod x 3) = Int.tmod x 3 := by unfold wrap64; omega
    have HI := hide hi
    have H1 := hide h1
    clear hi h1
    go_enter Try.func14, Try.ntmps14
    go_wp2_with fail
    go_ret
    exact ⟨⟨i, by have := H1.out; have := HI.out; omega, by rw [← HI.out]; show Ending.returned (.int .i64 (wrap64 (Int.tmod x 3 + 3))) = _; rw [hw3]⟩, rfl⟩
  · obtain ⟨i, hi⟩ : ∃ i : Nat, Int.tmod x 3 = (i : Int) := ⟨(Int.tmod x 3).toNat, by omega⟩
    have hw0 : wrap64 (Int.tmod x 3) = Int.tmod x 3 := by unfold wrap64; omega
    have HI := hide hi
    have H1 := hide h1
    clear hi h1
    go_enter Try.func14, Try.ntmps14
    go_wp2_with fail
    go_ret
    exact ⟨⟨i, by have := H1.out; have := HI.out; omega, by rw [← HI.out]; rfl⟩, rfl⟩

end Go.Proofs.Ytcmigkemhoecfaa
