/- The law's known: a small clock that the document names. -/
import Derived.Test.YtcmigkemhoecfaaKV
namespace Go.Proofs.Ytcmigkemhoecfaa
open Go.RowKit

/-- A clock made behind w. -/
def Kn (Pk : World → Nat → (Nat → Prop) → List Int → List Hd → Prop) (w : World) (q : Nat) (L : List Int) (H : List Hd) (w' : World) : Prop := ∃ G, Pk w' q G L H ∧ (∀ g, G g → w.heap.size ≤ g) ∧ Calm w w'
section
variable {Pk : World → Nat → (Nat → Prop) → List Int → List Hd → Prop}

theorem Kn.calm {w w' : World} {q : Nat} {L : List Int} {H : List Hd} (h : Kn Pk w q L H w') : Calm w w' := by
  obtain ⟨G, -, -, h⟩ := h
  exact h
theorem Kn.still (I : Pki Pk) {w w' w2 : World} {q : Nat} {L : List Int} {H : List Hd} (h : Kn Pk w q L H w') (ht : Calm w' w2) : Kn Pk w q L H w2 := by
  obtain ⟨G, h1, h2, h3⟩ := h
  exact ⟨G, I.calm h1 ht, h2, h3.tr ht⟩
theorem Kn.next {w w' w2 : World} {q : Nat} {G G' : Nat → Prop} {L' : List Int} {H' : List Hd} (h2 : ∀ g, G g → w.heap.size ≤ g) (h3 : Calm w w') (ht : Touch G w' w2) (hp : Pk w2 q G' L' H') (hs : ∀ g, G' g → G g ∨ w'.heap.size ≤ g) : Kn Pk w q L' H' w2 := by
  have := h3.size
  exact ⟨G', hp, fun g hg => (hs g hg).elim (h2 g) (by omega), h3.trans ht fun g hg s => by have := h2 g s; omega⟩
theorem Kn.new (I : Pki Pk) (n : Nat) (w : World) (h1 : 1 ≤ n) (h2 : n ≤ 64) : Calls Try.prog 8 #[.int .i64 (n : Int)] w fun e w' => ∃ q, e = .returned (.tuple #[cp q, .int .i64 0]) ∧ Kn Pk w q (List.replicate n minT) [] w' :=
  (I.new_ok n w h1 h2).mono fun _ _ ⟨q, a, b, c⟩ => ⟨q, a, _, b, fun _ hg => hg.1, c⟩
theorem Kn.set (I : Pki Pk) {w w' : World} {q : Nat} {L : List Int} {H : List Hd} (h : Kn Pk w q L H w') (i : Nat) (t : Int) (hi : i < L.length) (ht : timC t = true) : Calls Try.prog 27 #[cp q, .int .i64 (i : Int), .int .i64 t] w' fun e w2 => e = .returned (.tuple #[.int .i64 (mkN L), .int .i64 (mkN (L.set i (max (L.getD i 0) t))), .int .i64 0]) ∧ Kn Pk w q (L.set i (max (L.getD i 0) t)) H w2 := by
  obtain ⟨G, h1, h2, h3⟩ := h
  exact (I.set_ok i t h1 hi ht).mono fun e w2 ⟨a, b, G', c, d⟩ => ⟨a, Kn.next h2 h3 b c d⟩
theorem Kn.setTo (I : Pki Pk) {w w' : World} {q : Nat} {L : List Int} {H : List Hd} (h : Kn Pk w q L H w') (i : Nat) (t : Int) (hi : i < L.length) (ht : timC t = true) {L' : List Int} {a b : Int} (e1 : L.set i (max (L.getD i 0) t) = L') (e2 : mkN L = a) (e3 : mkN L' = b) : Calls Try.prog 27 #[cp q, .int .i64 (i : Int), .int .i64 t] w' fun e w2 => e = .returned (.tuple #[.int .i64 a, .int .i64 b, .int .i64 0]) ∧ Kn Pk w q L' H w2 := by
  subst e1 e2 e3
  exact h.set I i t hi ht
theorem Kn.hold (I : Pki Pk) {w w' : World} {q : Nat} {L : List Int} {H : List Hd} (h : Kn Pk w q L H w') (x : ByteArray) (t : Int) (ht : timC t = true) (hl : H.length ≤ capH) (hx : x.size ≤ 140737488351232) : Calls Try.prog 21 #[cp q, .string x, .int .i64 t] w' fun e w2 => e = .returned (.int .i64 0) ∧ Kn Pk w q L (holdH H x t) w2 := by
  obtain ⟨G, h1, h2, h3⟩ := h
  exact (I.hold_ok x t h1 ht hl hx).mono fun e w2 ⟨a, b, G', c, d⟩ => ⟨a, Kn.next h2 h3 b c d⟩
theorem Kn.first (I : Pki Pk) {w w' : World} {q : Nat} {L : List Int} {H : List Hd} (h : Kn Pk w q L H w') (hl : H.length ≤ capH) : Calls Try.prog 40 #[cp q] w' fun e w2 => e = .returned (firV H) ∧ Kn Pk w q L H w2 := by
  obtain ⟨G, h1, h2, h3⟩ := h
  exact (I.first h1 hl).mono fun e w2 ⟨a, b⟩ => ⟨a, G, I.calm h1 b, h2, h3.tr b⟩
theorem Kn.out (I : Pki Pk) {w w' : World} {q : Nat} {L : List Int} {H : List Hd} (h : Kn Pk w q L H w') (hl : H.length ≤ capH) : Calls Try.prog 25 #[cp q] w' fun e w2 => e = .returned (.int .i64 (outN L H)) ∧ Kn Pk w q L H w2 := by
  obtain ⟨G, h1, h2, h3⟩ := h
  exact (I.out h1 hl).mono fun e w2 ⟨a, b⟩ => ⟨a, G, I.calm h1 b, h2, h3.tr b⟩
theorem Kn.mark (I : Pki Pk) {w w' : World} {q : Nat} {L : List Int} {H : List Hd} (h : Kn Pk w q L H w') : Calls Try.prog 24 #[cp q] w' fun e w2 => e = .returned (.int .i64 (mkN L)) ∧ Kn Pk w q L H w2 := by
  obtain ⟨G, h1, h2, h3⟩ := h
  exact (I.mark h1).mono fun e w2 ⟨a, b⟩ => ⟨a, G, I.calm h1 b, h2, h3.tr b⟩
theorem Kn.size (I : Pki Pk) {w w' : World} {q : Nat} {L : List Int} {H : List Hd} (h : Kn Pk w q L H w') (hl : H.length ≤ capH) : Calls Try.prog 43 #[cp q] w' fun e w2 => e = .returned (.int .i64 (H.length : Int)) ∧ Kn Pk w q L H w2 := by
  obtain ⟨G, h1, h2, h3⟩ := h
  exact (I.size h1 hl).mono fun e w2 ⟨a, b⟩ => ⟨a, G, I.calm h1 b, h2, h3.tr b⟩

abbrev nA : ByteArray := ⟨#[97]⟩
abbrev nB : ByteArray := ⟨#[98]⟩
abbrev nD : ByteArray := ⟨#[100]⟩
theorem kn_h1 : holdH [] nB 5 = [⟨nB, 5⟩] := by simp [holdH, freeH, hasH, plN]
theorem kn_h2 : holdH [⟨nB, 5⟩] nA 1 = [⟨nA, 1⟩, ⟨nB, 5⟩] := by
  have e1 : ltN nB nA = false := by simp [ltN, ByteArray.toList_eq, Op.bytesLess]
  have e2 : eqN nB nA = false := by simp [eqN, ByteArray.toList_eq]
  simp [holdH, freeH, hasH, plN, e1, e2]
theorem kn_h3 : holdH [⟨nA, 1⟩, ⟨nB, 5⟩] nD 1 = [⟨nA, 1⟩, ⟨nB, 5⟩, ⟨nD, 1⟩] := by
  have e1 : ltN nA nD = true := by simp [ltN, ByteArray.toList_eq, Op.bytesLess]
  have e2 : ltN nB nD = true := by simp [ltN, ByteArray.toList_eq, Op.bytesLess]
  simp [holdH, freeH, hasH, plN, e1, e2]

set_option maxRecDepth 100000 in
set_option maxHeartbeats 4000000 in
theorem known13_any (I : Pki Pk) (w : World) : Calls Try.prog 20 #[] w fun e w' => e = .returned (.bool true) ∧ Calm w w' := by
  have CN := fun x w => hide (num13_any x w)
  go_enter Try.func20, Try.ntmps20
  go_wp2_with fail
  refine (Kn.new I 2 w (by omega) (by omega)).mono ?_
  rintro x w1 ⟨q, rfl, k1⟩
  go_wp2_with fail
  refine ((CN _ _).out).mono ?_
  rintro x w2 ⟨rfl, hw⟩
  subst hw
  go_wp2_with fail
  have C := k1.setTo I 0 7 (by simp) (by decide) (L' := [7, minT]) (a := minT) (b := minT) (by decide) (by decide) (by decide)
  clear k1
  refine C.mono ?_
  clear C
  rintro x w2 ⟨rfl, k1⟩
  go_wp2_with fail
  have C := k1.setTo I 1 3 (by simp) (by decide) (L' := [7, 3]) (a := minT) (b := 3) (by decide) (by decide) (by decide)
  clear k1
  refine C.mono ?_
  clear C
  rintro x w3 ⟨rfl, k1⟩
  go_wp2_with fail
  have C := k1.hold I nB 5 (by decide) (by simp) (by decide)
  clear k1
  rw [kn_h1] at C
  refine C.mono ?_
  clear C
  rintro x w4 ⟨rfl, k1⟩
  go_wp2_with fail
  have C := k1.hold I nA 1 (by decide) (by decide) (by decide)
  clear k1
  rw [kn_h2] at C
  refine C.mono ?_
  clear C
  rintro x w5 ⟨rfl, k1⟩
  go_wp2_with fail
  have C := k1.hold I nD 1 (by decide) (by decide) (by decide)
  clear k1
  rw [kn_h3] at C
  refine C.mono ?_
  clear C
  rintro x w6 ⟨rfl, k1⟩
  go_wp2_with fail
  have C := k1.first I (by decide)
  clear k1
  rw [show firV [⟨nA, 1⟩, ⟨nB, 5⟩, ⟨nD, 1⟩] = .tuple #[.string nA, .int .i64 1, .bool true] from rfl] at C
  refine C.mono ?_
  clear C
  rintro x w7 ⟨rfl, k1⟩
  go_wp2_with fail
  refine ((CN _ _).out).mono ?_
  rintro x w8 ⟨rfl, hw⟩
  subst hw
  go_wp2_with fail
  refine ((CN _ _).out).mono ?_
  rintro x w8 ⟨rfl, hw⟩
  subst hw
  go_wp2_with fail
  have C := k1.out I (by decide)
  clear k1
  rw [show outN [7, 3] [⟨nA, 1⟩, ⟨nB, 5⟩, ⟨nD, 1⟩] = 1 from rfl] at C
  refine C.mono ?_
  clear C
  rintro x w8 ⟨rfl, k1⟩
  go_wp2_with fail
  have C := k1.mark I
  clear k1
  rw [show mkN [7, 3] = 3 from rfl] at C
  refine C.mono ?_
  clear C
  rintro x w9 ⟨rfl, k1⟩
  go_wp2_with fail
  have C := k1.size I (by decide)
  clear k1
  refine C.mono ?_
  clear C
  rintro x w10 ⟨rfl, k1⟩
  have cc := k1.calm
  clear k1
  go_wp2_with fail
  go_ret
  exact ⟨rfl, cc⟩
end
end Go.Proofs.Ytcmigkemhoecfaa
