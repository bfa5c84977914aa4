/- Burst of any two texts, by the program and by the document. -/
import Derived.Test.YtaldoaampeopoaaDoorBst
import Derived.Test.YtaldoaampeopoaaDoorRBst
namespace Go.Proofs.YtaldoaampeopoaaDoor
open Go.RowKit Crcx

/-- What Burst tells of any two texts. -/
def BQ (xs ys : List Int) (m n : Nat) (ok : Bool) : Prop := (xs.length = ys.length ∧ Brst xs ys m n ok) ∨ (xs.length ≠ ys.length ∧ m = 0 ∧ n = 0 ∧ ok = false)

theorem BQ.unique {xs ys : List Int} {m n m' n' : Nat} {ok ok' : Bool} (h : BQ xs ys m n ok) (h' : BQ xs ys m' n' ok') : m = m' ∧ n = n' ∧ ok = ok' := by
  rcases h with ⟨a, b⟩ | ⟨a, b, c, d⟩ <;> rcases h' with ⟨a', b'⟩ | ⟨a', b', c', d'⟩
  · exact b.unique b'
  · exact absurd a a'
  · exact absurd a' a
  · exact ⟨by omega, by omega, by rw [d, d']⟩

def RetBQ (xs ys : List Int) (e : Ending) : Prop := ∃ (m n : Nat) (ok : Bool), e = .returned (.tuple #[.int .i64 (m : Int), .int .i64 (n : Int), .bool ok]) ∧ BQ xs ys m n ok

set_option maxRecDepth 100000 in
theorem burst_ne (K M : Nat) (ao bo : Option Addr) (ca cb : Nat) (w : World) (hne : K ≠ M) :
    Calls Tryd.prog 25 #[.slice ao K ca, .slice bo M cb] w fun e w' => e = .returned (.tuple #[.int .i64 0, .int .i64 0, .bool false]) ∧ w = w' := by
  have h : ¬ (K : Int) = (M : Int) := by omega
  go_enter Tryd.func25, Tryd.ntmps25
  go_wp2_with fail
  go_ret3
  exact ⟨rfl, rfl⟩

set_option maxRecDepth 100000 in
theorem rburst_ne (K M : Nat) (ao bo : Option Addr) (ca cb : Nat) (w : World) (hne : K ≠ M) :
    Calls Tryd.prog 26 #[.slice ao K ca, .slice bo M cb] w fun e w' => e = .returned (.tuple #[.int .i64 0, .int .i64 0, .bool false]) ∧ w = w' := by
  have h : ¬ (K : Int) = (M : Int) := by omega
  go_enter Tryd.func26, Tryd.ntmps26
  go_wp2_with fail
  go_ret3
  exact ⟨rfl, rfl⟩

theorem burst_all (ao bo : Option Addr) (xs ys : List Int) (ca cb : Nat) (w : World) (hx : Seg w .u8 ao xs) (hy : Seg w .u8 bo ys) (h8 : In8 xs) (h8' : In8 ys) (hb : xs.length ≤ 140737488351232) :
    Calls Tryd.prog 25 #[.slice ao xs.length ca, .slice bo ys.length cb] w fun e w' => RetBQ xs ys e ∧ Touch (fun _ => False) w w' := by
  by_cases hl : xs.length = ys.length
  · rw [← hl]
    refine (burst_any xs.length ao bo xs ys ca cb w hx hy h8 h8' (hide rfl) (hide hl.symm) hb).mono ?_
    rintro e w' ⟨⟨m, n, ok, rfl, h⟩, t⟩
    exact ⟨⟨m, n, ok, rfl, .inl ⟨hl, h⟩⟩, t⟩
  · refine (burst_ne _ _ ao bo ca cb w hl).mono ?_
    rintro e w' ⟨rfl, rfl⟩
    exact ⟨⟨0, 0, false, rfl, .inr ⟨hl, rfl, rfl, rfl⟩⟩, Touch.refl _ _⟩

theorem rburst_all (ao bo : Option Addr) (xs ys : List Int) (ca cb : Nat) (w : World) (hx : Seg w .u8 ao xs) (hy : Seg w .u8 bo ys) (h8 : In8 xs) (h8' : In8 ys) (hb : xs.length ≤ 140737488351232) :
    Calls Tryd.prog 26 #[.slice ao xs.length ca, .slice bo ys.length cb] w fun e w' => RetBQ xs ys e ∧ w = w' := by
  by_cases hl : xs.length = ys.length
  · rw [← hl]
    refine (rburst_any xs.length ao bo xs ys ca cb w hx hy h8 h8' (hide rfl) (hide hl.symm) hb).mono ?_
    rintro e w' ⟨⟨m, n, ok, rfl, h⟩, t⟩
    exact ⟨⟨m, n, ok, rfl, .inl ⟨hl, h⟩⟩, t⟩
  · refine (rburst_ne _ _ ao bo ca cb w hl).mono ?_
    rintro e w' ⟨rfl, rfl⟩
    exact ⟨⟨0, 0, false, rfl, .inr ⟨hl, rfl, rfl, rfl⟩⟩, rfl⟩

/-- Within 32 bits the sums are unlike. -/
theorem BQ.differ {xs ys : List Int} {m n : Nat} (h8 : In8 xs) (h8' : In8 ys) (h : BQ xs ys m n true) (hmn : n < m + 32) : more 0 (nats xs) ≠ more 0 (nats ys) := by
  rcases h with ⟨a, b⟩ | ⟨_, _, _, d⟩
  · rcases b with ⟨_, b, c, d⟩ | ⟨e, _⟩
    · exact sums_differ h8 h8' a ⟨m, b⟩ (fun j hj => (d j hj).1) (fun j hj => by have := (d j hj).2; omega) 0
    · cases e
  · cases d

theorem dif_lt {xs ys : List Int} (hl : xs.length = ys.length) {j : Nat} (h : Dif xs ys j) : j < 8 * xs.length :=
  Nat.lt_of_not_le fun hj => no_dif_end rfl hl.symm j hj h

theorem BQ.le {xs ys : List Int} {m n : Nat} {ok : Bool} (h : BQ xs ys m n ok) (hb : xs.length ≤ 140737488351232) : m ≤ 1125899906809856 ∧ n ≤ 1125899906809856 := by
  rcases h with ⟨a, b⟩ | ⟨_, b, c, d⟩
  · rcases b with ⟨_, b, c, d⟩ | ⟨_, b, c, d⟩
    · have := dif_lt a b; have := dif_lt a c; omega
    · omega
  · omega

end Go.Proofs.YtaldoaampeopoaaDoor
