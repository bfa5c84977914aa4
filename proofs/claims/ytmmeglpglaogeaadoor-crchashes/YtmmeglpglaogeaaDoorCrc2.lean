/- The program's Zeros, Join, Bytes, From and Sum. -/
import Derived.Test.YtmmeglpglaogeaaDoorMov2
import Derived.Laws.BitsAll
namespace Go.Proofs.YtmmeglpglaogeaaDoor
open Go.RowKit Crcx

set_option maxRecDepth 100000 in
theorem zeros_any (n : Int) (h1 : I63 n) (w : World) (ht : Tab w) :
    Calls Tryd.prog 21 #[.int .i64 n] w fun e w' => e = .returned (.int .u32 ((4294967295 ^^^ stps (far n) 4294967295 : Nat) : Int)) ∧ Touch (fun _ => False) w w' := by
  have CA := hide (fun W h => carry_any 4294967295 (by omega) n h1 W h)
  have hn := not32 _ (stps_lt (n := far n) (x := 4294967295) (by omega))
  generalize stps (far n) 4294967295 = y at *
  generalize 4294967295 ^^^ y = z at *
  go_enter Tryd.func21, Tryd.ntmps21
  go_wp2_with fail
  refine (CA.out _ ht).mono ?_
  rintro e w' ⟨rfl, ht1⟩
  go_wp2_with fail
  go_ret
  exact ⟨rfl, ht1⟩

set_option maxRecDepth 100000 in
theorem join_any (a b : Nat) (ha : a < 4294967296) (hb : b < 4294967296) (n : Int) (h1 : I63 n) (w : World) (ht : Tab w) :
    Calls Tryd.prog 20 #[.int .u32 a, .int .u32 b, .int .i64 n] w fun e w' => e = .returned (.int .u32 ((stps (far n) a ^^^ b : Nat) : Int)) ∧ Touch (fun _ => False) w w' := by
  have CA := hide (fun W h => carry_any a ha n h1 W h)
  have hx := u32_xor_nat _ b (stps_lt (n := far n) ha) hb
  generalize stps (far n) a = y at *
  generalize y ^^^ b = z at *
  go_enter Tryd.func20, Tryd.ntmps20
  go_wp2_with fail
  refine (CA.out _ ht).mono ?_
  rintro e w' ⟨rfl, ht1⟩
  go_wp2_with fail
  go_ret
  exact ⟨rfl, ht1⟩

/-- Slices that lie in a row. -/
structure SegV (w : World) (ao : Option Addr) (vs : List Value) : Prop where
  none : ao = .none → vs = []
  spot : ∀ a, ao = some a → vs ≠ [] → a.spot = .none
  cell : ∀ a, ao = some a → ∀ j (hj : j < vs.length), w.cell? (a.add j) = some vs[j]

/-- A text in memory. -/
structure Txt where
  ao : Option Addr
  cap : Nat
  xs : List Int

def Txt.val (t : Txt) : Value := .slice t.ao t.xs.length t.cap

/-- It can be read. -/
structure Txt.Ok (w : World) (t : Txt) : Prop where
  seg : Seg w .u8 t.ao t.xs
  in8 : In8 t.xs
  len : t.xs.length ≤ 281474976710656

theorem SegV.addr {w : World} {ao : Option Addr} {vs : List Value} (h : SegV w ao vs) (hx : 0 < vs.length) : ∃ b off, ao = .some ⟨b, off, .none⟩ := by
  cases ao with
  | none => rw [h.none rfl] at hx; cases hx
  | some a =>
    have := h.spot a rfl (fun e => by rw [e] at hx; cases hx)
    obtain ⟨b, off, s⟩ := a
    simp at this; subst this
    exact ⟨b, off, rfl⟩

theorem SegV.at {w : World} {b off : Nat} {vs : List Value} (h : SegV w (.some ⟨b, off, .none⟩) vs) (j : Nat) (hj : j < vs.length) : w.cell? ⟨b, off + j, .none⟩ = some vs[j] := by
  have := h.cell _ rfl j hj
  rwa [Addr.add_lit] at this

/-- All bytes, one text behind the other. -/
def alls (ts : List Txt) : List Int := ts.flatMap Txt.xs

theorem alls_take (ts : List Txt) (i : Nat) (hi : i < ts.length) : nats (alls (ts.take (i + 1))) = nats (alls (ts.take i)) ++ nats ts[i].xs := by
  unfold alls nats
  rw [List.take_add_one, List.getElem?_eq_getElem hi, List.flatMap_append, List.map_append]
  simp

theorem alls_in8 {w : World} {ts : List Txt} (h : ∀ t ∈ ts, t.Ok w) : In8 (alls ts) := by
  intro x hx
  obtain ⟨t, ht, hx⟩ := List.mem_flatMap.1 hx
  exact (h t ht).in8 x hx

set_option maxRecDepth 100000 in
theorem sum_any (ao : Option Addr) (ts : List Txt) (cap : Nat) (w : World) (ht : Tab w) (hs : SegV w ao (ts.map Txt.val)) (hts : ∀ t ∈ ts, t.Ok w) (hb : ts.length ≤ 281474976710656) :
    Calls Tryd.prog 18 #[.slice ao ts.length cap] w fun e w' => e = .returned (.int .u32 ((more 0 (nats (alls ts)) : Nat) : Int)) ∧ w = w' := by
  have hlt : ∀ i, more 0 (nats (alls (ts.take i))) < 4294967296 := fun i => more_lt (by omega) (nats_lt (alls_in8 (w := w) fun t h => hts t (List.mem_of_mem_take h)))
  go_enter Tryd.func18, Tryd.ntmps18
  go_wp2_with fail
  go_loopw [3, 8] (fun x i wr => ∃ n : Nat, i = .int .i64 n ∧ n ≤ ts.length ∧ x = .int .u32 ((more 0 (nats (alls (ts.take n))) : Nat) : Int) ∧ wr = w) (fun _ i _ => ts.length - (intOf i).toNat)
  case atStart => exact ⟨0, rfl, Nat.zero_le _, by rw [show ts.take 0 = [] from rfl]; rfl, rfl⟩
  case round =>
    obtain ⟨n, rfl, hn, rfl, rfl⟩ := hrel
    by_cases hlast : n < ts.length
    · obtain ⟨b, off, rfl⟩ := hs.addr (by simpa using (by omega : 0 < ts.length))
      have hc := hs.at n (by simpa using hlast)
      have hc1 : wr.cell? ⟨b, off + n, .none⟩ = some (.slice ts[n].ao ts[n].xs.length ts[n].cap) := by
        rw [hc, List.getElem_map]; rfl
      have ho := hts ts[n] (List.getElem_mem hlast)
      have MO := hide (more_any _ (hlt n) ts[n].ao ts[n].xs ts[n].cap wr ht ho.seg ho.in8 ho.len)
      rw [← more_append, ← alls_take ts n hlast] at MO
      generalize more 0 (nats (alls (ts.take n))) = y at *
      generalize ts[n].ao = ta at *
      generalize ts[n].xs.length = tl at *
      generalize ts[n].cap = tc at *
      clear hc ho hs hts hlt
      go_wp2_with fail
      refine MO.out.mono ?_
      rintro e w' ⟨rfl, rfl⟩
      go_wp2_with fail
      go_roundw
      case rel => exact ⟨n + 1, by go_num, by omega, rfl, trivial⟩
      case measure => simp [intOf]; omega
    · have e : n = ts.length := by omega
      subst e
      rw [List.take_length]
      clear hlt hts hs
      go_wp2_with fail
      go_ret
      exact ⟨rfl, rfl⟩

end Go.Proofs.YtmmeglpglaogeaaDoor
