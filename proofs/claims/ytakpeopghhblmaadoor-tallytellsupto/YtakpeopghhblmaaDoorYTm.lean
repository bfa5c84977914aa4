/- Values cut in three: put together in any way it is the whole's tally, which can be; its mean lies between. -/
import Derived.Test.YtakpeopghhblmaaDoorYT
import Derived.Test.YtakpeopghhblmaaDoorYM
namespace Go.Proofs.YtakpeopghhblmaaDoor
open Go.RowKit Go.Lib

theorem IsT.pair {t u : Tl} {xs ys : List Int} (h : IsT t xs) (g : IsT u ys) (hl : xs.length + ys.length ≤ 9007199254740992) : IsT (joinT [t, u]) (xs ++ ys) := by
  have a := (IsT.nothing.join h (by simp; omega)).join g (by simpa using hl)
  rw [List.nil_append] at a
  exact a

theorem tot_comm3 (A B C : List Int) : tot (C ++ B ++ A) = tot (A ++ B ++ C) := by simp only [tot_append]; omega

/-- What the law asks of the three parts. -/
structure Told (A B C : List Int) (v : Int) (x y z t : Tl) : Prop where
  one : joinT [joinT [x, y], z] = t
  two : joinT [x, joinT [y, z]] = t
  turned : joinT [z, tl0, y, x, ⟨-3, 9, -9, 9⟩] = t
  can : canT t = true
  more : canT (addT t v) = true
  join : canT (joinT [t, x]) = true
  cm : (addT t v).c ≠ 9007199254740992
  cj : (joinT [t, x]).c ≠ 9007199254740992
  c : t.c = ((A ++ B ++ C).length : Nat)
  s : t.s = wrap64 (tot (A ++ B ++ C))
  mean : ∀ r, 1 ≤ t.c → (A ++ B ++ C).length ≤ 4000 → (∀ n ∈ A ++ B ++ C, -1099511627776 < n ∧ n < 1099511627776) → floatBits .quo .f64 (floatOfInt .f64 t.s) (floatOfInt .f64 t.c) = some r → Fl.Leq (floatOfInt .f64 t.m) r ∧ Fl.Leq r (floatOfInt .f64 t.x)

theorem told {A B C : List Int} {v : Int} (hA : ∀ n ∈ A, I64 n) (hB : ∀ n ∈ B, I64 n) (hC : ∀ n ∈ C, I64 n) (hv : I64 v) (la : A.length ≤ 1048576) (lb : B.length ≤ 1048576) (lc : C.length ≤ 1048576) :
    Told A B C v (ofT A) (ofT B) (ofT C) (ofT (A ++ B ++ C)) := by
  have hall : ∀ n ∈ A ++ B ++ C, I64 n := fun n hn => by
    rcases List.mem_append.1 hn with h | h
    · rcases List.mem_append.1 h with h | h
      · exact hA n h
      · exact hB n h
    · exact hC n h
  have ll : (A ++ B ++ C).length = A.length + B.length + C.length := by simp; omega
  have iA := IsT.of hA (by omega)
  have iB := IsT.of hB (by omega)
  have iC := IsT.of hC (by omega)
  have iT := IsT.of hall (by omega)
  have one := ((iA.pair iB (by omega)).pair iC (by simp; omega)).of_eq hall (by omega)
  have two : joinT [ofT A, joinT [ofT B, ofT C]] = ofT (A ++ B ++ C) := by
    have := iA.pair (iB.pair iC (by omega)) (by simp; omega)
    rw [← List.append_assoc] at this
    exact this.of_eq hall (by omega)
  have turned : joinT [ofT C, tl0, ofT B, ofT A, ⟨-3, 9, -9, 9⟩] = ofT (A ++ B ++ C) := by
    have a := (((IsT.nothing.join iC (by simp; omega)).join IsT.nothing (by simp; omega)).join iB (by simp; omega)).join iA (by simp; omega)
    rw [List.nil_append, List.append_nil] at a
    have e : joinT [ofT C, tl0, ofT B, ofT A, ⟨-3, 9, -9, 9⟩] = joinS (joinS (joinS (joinS tl0 (ofT C)) tl0) (ofT B)) (ofT A) := rfl
    rw [e]
    refine a.uniq iT ?_ (tot_comm3 A B C) (fun n => ?_)
    · simp; omega
    · simp only [List.mem_append]; constructor <;> (intro h; rcases h with (h | h) | h <;> simp [h])
  refine ⟨one, two, turned, iT.can hall (by omega), ?_, ?_, ?_, ?_, iT.count, ?_, ?_⟩
  · refine (iT.add hv (by omega)).can (fun n hn => ?_) (by simp; omega)
    rcases List.mem_append.1 hn with h | h
    · exact hall n h
    · rw [List.mem_singleton.1 h]; exact hv
  · refine (iT.pair iA (by omega)).can (fun n hn => ?_) (by simp; omega)
    rcases List.mem_append.1 hn with h | h
    · exact hall n h
    · exact hA n h
  · rw [(iT.add hv (by omega)).count]; simp; omega
  · rw [(iT.pair iA (by omega)).count]; simp; omega
  · by_cases he : A ++ B ++ C = []
    · rw [iT.none he, he]; show (0 : Int) = wrap64 0; rw [wrap64_id (by unfold I64; omega)]
    · exact iT.s he
  · intro r hc hl hs hr
    have hne : A ++ B ++ C ≠ [] := fun e => by
      have := iT.none e
      rw [this] at hc
      exact absurd hc (by decide)
    have tc := iT.c hne
    have ts := iT.s hne
    have hm := hs _ (iT.lin hne)
    have hx := hs _ (iT.hin hne)
    have g1 := tot_ge _ iT.lo
    have g2 := tot_le _ iT.hi
    have b1 : -(4398046511104000 : Int) ≤ tot (A ++ B ++ C) ∧ tot (A ++ B ++ C) ≤ 4398046511104000 := by
      have k1 := tot_ge (m := -1099511627776) (A ++ B ++ C) (fun n hn => by have := hs n hn; omega)
      have k2 := tot_le (m := 1099511627776) (A ++ B ++ C) (fun n hn => by have := hs n hn; omega)
      generalize (A ++ B ++ C).length = n at *
      omega
    have es : (ofT (A ++ B ++ C)).s = tot (A ++ B ++ C) := by rw [ts]; exact wrap64_id (by unfold I64; omega)
    rw [es, tc] at hr
    have h0 : (A ++ B ++ C).length ≠ 0 := fun e => hne (List.eq_nil_of_length_eq_zero e)
    refine Fl.mean_in h0 ?_ ?_ ?_ ?_ g1 g2 hr
    · exact Nat.lt_of_le_of_lt hl (by decide)
    · generalize tot (A ++ B ++ C) = T at *
      omega
    · generalize (ofT (A ++ B ++ C)).m = M at *
      omega
    · generalize (ofT (A ++ B ++ C)).x = X at *
      omega

end Go.Proofs.YtakpeopghhblmaaDoor
