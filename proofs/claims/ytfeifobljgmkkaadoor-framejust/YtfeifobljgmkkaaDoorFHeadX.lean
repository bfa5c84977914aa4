/- Any bytes begin with some frames. -/
import Derived.Test.YtfeifobljgmkkaaDoorFHead
namespace Go.Proofs.YtfeifobljgmkkaaDoor
open Go.RowKit Crcx

theorem heads_from {b : List Int} (h8 : In8 b) : ∀ (n : Nat) (l : List (Int × List Int)) (p : Nat), rowF l = b.take p → (∀ x ∈ l, FrOk x) → p ≤ b.length → b.length - p ≤ n → ∃ l p e, Heads b l p e
  | n, l, p, hr, hok, hp, hn => by
    by_cases hpe : p = b.length
    · exact ⟨l, p, 0, hr, hok, hp, .inl ⟨rfl, hpe⟩⟩
    · by_cases hg : (readF (b.drop p)).err = 0
      · have hx := heads_next h8 hr hok hp hg
        match n with
        | 0 => omega
        | n + 1 => exact heads_from h8 n _ _ hx.1 hx.2.1 hx.2.2.1 (by have := hx.2.2.2.1; have := hx.2.2.1; omega)
      · exact ⟨l, p, _, hr, hok, hp, .inr ⟨hg, rfl, by omega⟩⟩

theorem heads_ex {b : List Int} (h8 : In8 b) : ∃ l p e, Heads b l p e := heads_from h8 b.length [] 0 rfl (fun x hx => by simp at hx) (Nat.zero_le _) (by omega)

end Go.Proofs.YtfeifobljgmkkaaDoor
