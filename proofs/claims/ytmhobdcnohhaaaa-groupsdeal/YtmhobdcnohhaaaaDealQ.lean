/- The copy of the keys that the law of Deal makes; Deal, with its count apart. -/
import Derived.Test.YtmhobdcnohhaaaaDealP
namespace Go.Proofs.Ytmhobdcnohhaaaa
open Go.RowKit

abbrev room : ByteArray := { data := #[114, 111, 111, 109] }
abbrev spoiltT : ByteArray := { data := #[115, 112, 111, 105, 108, 116] }

/-- The copy: the keys, and 'room' behind them. -/
structure Cpy (W : World) (B n : Nat) (ks : List ByteArray) : Prop where
  seg : SegT W (some ⟨B, 0, none⟩) ks
  room : W.cell? ⟨B, n, none⟩ = some (.string room)
  lt : B < W.heap.size

theorem Cpy.touch {S : Nat → Prop} {W W' : World} {B n : Nat} {ks : List ByteArray} (h : Cpy W B n ks) (ht : Touch S W W') (hn : ¬ S B) : Cpy W' B n ks :=
  ⟨h.seg.touch ht (fun b off e _ => by injection e with e; injection e with e _ _; subst e; exact hn), (ht.cell (p := ⟨B, n, none⟩) h.lt hn).trans h.room, Nat.lt_of_lt_of_le h.lt ht.size⟩

theorem copied {W : World} {base n c : Nat} {ao : Option Addr} {ks : List ByteArray} (hn : ks.length = n) (h : W.ownsRow base 9 1 (.slice ao (n + 1) c) (n + 1) (ks.map Value.string ++ [.string room])) : ∃ B, ao = some ⟨B, 0, none⟩ ∧ base ≤ B ∧ n + 1 ≤ c ∧ Cpy W B n ks := by
  rcases h.2 with ⟨h1, h2⟩ | ⟨B, cap, cur, h1, h2, h3, h4, _⟩
  · omega
  · injection h1 with h1 _ h5
    subst h1 h5
    have hc := h.cells (g := B) rfl
    refine ⟨B, rfl, h2, h4, ⟨fun _ => ⟨B, 0, rfl⟩, fun b off e i hi => ?_⟩, ?_, lt_of_heap h3⟩
    · injection e with e; injection e with e1 e2 _
      subst e1 e2
      have := hc i (.string ks[i]) (by rw [List.getElem?_append_left (by simpa using hi)]; simp [hi])
      rwa [Addr.add_lit] at this
    · have := hc n (.string room) (by rw [List.getElem?_append_right (by simp [hn])]; simp [hn])
      rwa [Addr.add_lit, Nat.zero_add] at this

theorem deal_n (P G : Nat) (may : May P G) (ao : Option Addr) (c : Nat) (ks : List ByteArray) (n : Nat) (hn : ks.length = n) (hlen : n ≤ 8796093021952) (hks : ∀ s ∈ ks, s.size ≤ 256) (w : World) (hseg : SegT w ao ks) :
    Calls Try.prog 25 #[.int .i64 P, .int .i64 G, .slice ao n c] w fun e w' => ∃ O vs, e = .returned (.tuple #[.slice (some ⟨O, 0, none⟩) P P, .int .i64 0]) ∧ vs.length = P ∧ Dl w.heap.size w' O vs (dealt P G ks) ∧ Touch (fun _ => False) w w' := by
  subst hn; exact deal_any P G may ao c ks (by omega) hks w hseg

theorem rdeal_n (P G : Nat) (may : May P G) (ao : Option Addr) (c : Nat) (ks : List ByteArray) (n : Nat) (hn : ks.length = n) (hlen : n ≤ 8796093021952) (hks : ∀ s ∈ ks, s.size ≤ 256) (w : World) (hseg : SegT w ao ks) :
    Calls Try.prog 26 #[.int .i64 P, .int .i64 G, .slice ao n c] w fun e w' => ∃ O vs, e = .returned (.tuple #[.slice (some ⟨O, 0, none⟩) P P, .int .i64 0]) ∧ vs.length = P ∧ Dl w.heap.size w' O vs (dealt P G ks) ∧ Touch (fun _ => False) w w' := by
  subst hn; exact rdeal_any P G may ao c ks (by omega) hks w hseg

/-- Deal says no, on both sides. -/
structure No (p g : Int) (ks : List ByteArray) (n : Nat) (E : Int) : Prop where
  ne : E ≠ 0
  mine : ∀ (ao : Option Addr) (c : Nat) (w : World), SegT w ao ks → Calls Try.prog 25 #[.int .i64 p, .int .i64 g, .slice ao n c] w fun e w' => e = .returned (.tuple #[.slice none 0 0, .int .i64 E]) ∧ w' = w
  its : ∀ (ao : Option Addr) (c : Nat) (w : World), SegT w ao ks → Calls Try.prog 26 #[.int .i64 p, .int .i64 g, .slice ao n c] w fun e w' => e = .returned (.tuple #[.slice none 0 0, .int .i64 E]) ∧ w' = w

theorem no_may {p g : Int} (h : mayW p g = false) (ks : List ByteArray) (n : Nat) : No p g ks n 2 :=
  ⟨by decide, fun ao c w _ => deal_no p g h _ w, fun ao c w _ => rdeal_no p g h _ w⟩

theorem no_long {p g : Int} (h : mayW p g = true) {ks : List ByteArray} {n : Nat} (hn : ks.length = n) (hlen : n ≤ 8796093021952) (hks : ¬ ∀ s ∈ ks, s.size ≤ 256) : No p g ks n 3 :=
  ⟨by decide, fun ao c w hs => by subst hn; exact deal_long p g h ao c ks (by omega) hks w hs, fun ao c w hs => by subst hn; exact rdeal_long p g h ao c ks (by omega) hks w hs⟩

/-- A longer list written over at one place. -/
theorem own_spoil {w : World} {base n b cap j : Nat} {l : List ByteArray} (h : w.ownsRow base 9 1 (.slice (some ⟨b, 0, none⟩) n cap) n (l.map Value.string)) : (w.setCell ⟨b, j, none⟩ (.string spoiltT)).ownsRow base 9 1 (.slice (some ⟨b, 0, none⟩) n cap) n ((l.set j spoiltT).map Value.string) := by
  have := own_set (j := j) h (.string spoiltT)
  rwa [← List.map_set] at this

end Go.Proofs.Ytmhobdcnohhaaaa
