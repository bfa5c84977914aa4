/- What Just says; the document's Just; SameLists. -/
import Derived.Test.YtfeifobljgmkkaaDoorFEach
import Derived.Test.YtfeifobljgmkkaaDoorFRHead
import Derived.Deep.QuietTactic
import Derived.BigQuiet
namespace Go.Proofs.YtfeifobljgmkkaaDoor
open Go.RowKit Crcx

/-- The first k tags are those of the frames. -/
def Fits (lst : List (Int × List Int)) (tags : List Int) (k : Nat) : Prop := k ≤ tags.length ∧ ∀ j (h : j < lst.length), j < k → tags.getD j 0 = lst[j].1

/-- What Just says. -/
inductive JSays (lst : List (Int × List Int)) (p e xl : Nat) (tags : List Int) : List (List Int) → Nat → Nat → Prop
  | tag (k : Nat) (hk : k < lst.length) (hf : Fits lst tags k) (hm : k = tags.length ∨ tags.getD k 0 ≠ lst[k].1) : JSays lst p e xl tags [] (pl lst k) 133
  | err (hf : Fits lst tags lst.length) (he : e ≠ 0) : JSays lst p e xl tags [] p e
  | few (hf : Fits lst tags lst.length) (he : e = 0) (hl : lst.length < tags.length) : JSays lst p e xl tags [] xl 133
  | all (hf : Fits lst tags lst.length) (he : e = 0) (hl : ¬ lst.length < tags.length) : JSays lst p e xl tags (lst.map Prod.snd) xl 0

theorem fits_not {lst : List (Int × List Int)} {tags : List Int} {k m : Nat} (hk : k < lst.length) (hm : k = tags.length ∨ tags.getD k 0 ≠ lst[k].1) (hf : Fits lst tags m) : m ≤ k := by
  rcases hm with h | h
  · have := hf.1; omega
  · rcases Nat.lt_or_ge k m with h' | h'
    · exact absurd (hf.2 k hk h') h
    · exact h'

theorem jsays_one {lst : List (Int × List Int)} {p e xl : Nat} {tags : List Int} {bd bd' : List (List Int)} {q q' er er' : Nat} (h : JSays lst p e xl tags bd q er) (h' : JSays lst p e xl tags bd' q' er') : bd = bd' ∧ q = q' ∧ er = er' := by
  cases h with
  | tag k hk hf hm =>
    cases h' with
    | tag k' hk' hf' hm' =>
      have a := fits_not hk hm hf'
      have b := fits_not hk' hm' hf
      have : k = k' := by omega
      subst this
      exact ⟨rfl, rfl, rfl⟩
    | err hf' _ => have := fits_not hk hm hf'; omega
    | few hf' _ _ => have := fits_not hk hm hf'; omega
    | all hf' _ _ => have := fits_not hk hm hf'; omega
  | err hf he =>
    cases h' with
    | tag k' hk' hf' hm' => have := fits_not hk' hm' hf; omega
    | err _ _ => exact ⟨rfl, rfl, rfl⟩
    | few _ h _ => exact absurd h he
    | all _ h _ => exact absurd h he
  | few hf he hl =>
    cases h' with
    | tag k' hk' hf' hm' => have := fits_not hk' hm' hf; omega
    | err _ h => exact absurd he h
    | few _ _ _ => exact ⟨rfl, rfl, rfl⟩
    | all _ _ h => exact absurd hl h
  | all hf he hl =>
    cases h' with
    | tag k' hk' hf' hm' => have := fits_not hk' hm' hf; omega
    | err _ h => exact absurd he h
    | few _ _ h => exact absurd h hl
    | all _ _ _ => exact ⟨rfl, rfl, rfl⟩

theorem infoSl : (Tryd.prog.info? 22).map (fun i => (i.zero, i.size, i.bytes)) = some (some (.slice none 0 0), 1, 24) := by kernel_rfl

/-- Bodies in a row of their own, each in a row of its own. -/
structure Bods (w wr : World) (v : Value) (ts : List Txt) : Prop where
  own : wr.ownsRow w.heap.size 22 1 v ts.length (ts.map Txt.val)
  body : ∀ x ∈ ts, New w wr x.val x.xs
  touch : Touch (fun _ => False) w wr
  dist : ts.Pairwise fun x y => ∀ g, x.val.ownBlock = some g → y.val.ownBlock ≠ some g

theorem Bods.nil {w wr : World} (h : Touch (fun _ => False) w wr) : Bods w wr (.slice none 0 0) [] := ⟨World.ownsRow_nil wr _ _ _, fun x hx => by simp at hx, h, List.Pairwise.nil⟩

theorem Bods.keep {w wr w2 : World} {v : Value} {ts : List Txt} (h : Bods w wr v ts) (ht : Touch (fun _ => False) wr w2) : Bods w w2 v ts :=
  ⟨own_touch h.own ht (fun _ _ h => h), fun x hx => (h.body x hx).keep ht, h.touch.trans ht (fun _ _ h => h), h.dist⟩

theorem Bods.shape {w wr : World} {v : Value} {ts : List Txt} (h : Bods w wr v ts) : ∃ ao c, v = .slice ao ts.length c := by
  rcases h.own.2 with ⟨rfl, h0⟩ | ⟨g, cap, cur, rfl, _⟩
  · exact ⟨none, 0, by rw [h0]⟩
  · exact ⟨_, _, rfl⟩

/-- One body more; x in wr as w says, apart from the others. -/
theorem Bods.more {w wr w1 w2 : World} {v v' : Value} {ts : List Txt} {x : Txt} (h : Bods w wr v ts) (ht : Touch (fun _ => False) wr w1) (hx : New w w1 x.val x.xs) (hd : ∀ y ∈ ts, ∀ g, y.val.ownBlock = some g → x.val.ownBlock ≠ some g)
    (hown : w2.ownsRow w.heap.size 22 1 v' (ts.length + 1) (ts.map Txt.val ++ [x.val])) (hg : w1.grownBy w2 v.ownBlock) : Bods w w2 v' (ts ++ [x]) := by
  have h1 := h.keep ht
  have tg := Touch.of_grownBy hg
  have far : ∀ (u : Value) (ys : List Int), New w w1 u ys → New w w2 u ys := fun u ys hu => by
    refine ⟨hu.row.touch tg (fun g hgu e => ?_), hu.lo, h1.touch.trans tg (fun k hk e => ?_)⟩
    · obtain ⟨cur, hc⟩ := hu.row.block hgu
      obtain ⟨_, cur', hc'⟩ := own_block h1.own e
      exact tags hc hc' (by decide) rfl
    · have := (own_block h1.own e).1; omega
  refine ⟨by simpa using hown, fun y hy => ?_, (far _ _ hx).touch, List.pairwise_append.2 ⟨h.dist, List.pairwise_singleton _ _, fun y hy z hz => by obtain rfl := List.mem_singleton.1 hz; exact hd y hy⟩⟩
  rcases List.mem_append.1 hy with hy | hy
  · exact far _ _ (h1.body y hy)
  · obtain rfl := List.mem_singleton.1 hy; exact far _ _ hx

theorem Bods.cell {w wr : World} {g n c : Nat} {ts : List Txt} (h : Bods w wr (.slice (some ⟨g, 0, none⟩) n c) ts) (i : Nat) (hi : i < ts.length) : wr.cell? ⟨g, i, none⟩ = some ts[i].val := by
  have a1 := h.own.cells (g := g) rfl i ts[i].val (by rw [List.getElem?_map, List.getElem?_eq_getElem hi]; rfl)
  rw [Addr.add_lit, Nat.zero_add] at a1
  exact a1

theorem Bods.addr {w wr : World} {ao : Option Addr} {n c : Nat} {ts : List Txt} (h : Bods w wr (.slice ao n c) ts) (h0 : 0 < ts.length) : ∃ g, ao = some ⟨g, 0, none⟩ := by
  rcases h.own.2 with ⟨_, h1⟩ | ⟨g, cap, cur, e, _⟩
  · omega
  · injection e with e _ _; exact ⟨g, e⟩

set_option maxRecDepth 100000 in
set_option maxHeartbeats 1000000 in
theorem sameLists_any (wa wb : World) (ao bo : Option Addr) (ta tb : List Txt) (na nb ca cb : Nat) (w : World) (ha : Bods wa w (.slice ao na ca) ta) (hb : Bods wb w (.slice bo nb cb) tb) (hk : ta.map Txt.xs = tb.map Txt.xs) (hna : na = ta.length) (hnb : nb = tb.length) (hl : ta.length ≤ 70368744177664) :
    Calls Tryd.prog 29 #[.slice ao na ca, .slice bo nb cb] w fun e w' => e = .returned (.bool true) ∧ Touch (fun _ => False) w w' := by
  have hll : tb.length = ta.length := by have := congrArg List.length hk; simpa using this.symm
  have e2 : nb = na := by omega
  subst e2
  have HNA := hide hna
  rw [← hna] at hl
  have hli : (nb : Int) ≤ 70368744177664 := by omega
  clear hna hnb
  go_enter Tryd.func29, Tryd.ntmps29
  go_wp2_with fail
  go_loopw [5] (fun i wr => ∃ k : Nat, i = .int .i64 k ∧ k ≤ nb ∧ Touch (fun _ => False) w wr) (fun i _ => nb - (intOf i).toNat)
  case atStart => exact ⟨0, rfl, Nat.zero_le _, Touch.refl _ _⟩
  case round =>
    obtain ⟨k, rfl, hkl, ht⟩ := hrel
    by_cases hlt : k < nb
    · have hka : k < ta.length := by rw [← HNA.out]; exact hlt
      have hkb : k < tb.length := by rw [hll]; exact hka
      obtain ⟨g1, rfl⟩ := ha.addr (by omega)
      obtain ⟨g2, rfl⟩ := hb.addr (by omega)
      have c1 := (ha.keep ht).cell k hka
      have d1 := (hb.keep ht).cell k hkb
      have hkey : ta[k].xs = tb[k].xs := by
        have h1 : (ta.map Txt.xs)[k]? = some ta[k].xs := by rw [List.getElem?_map, List.getElem?_eq_getElem hka]; rfl
        rw [hk, List.getElem?_map, List.getElem?_eq_getElem hkb] at h1
        injection h1 with h1; exact h1.symm
      have ra := ((ha.keep ht).body _ (List.getElem_mem hka)).row
      have rb := ((hb.keep ht).body _ (List.getElem_mem hkb)).row
      have CV1 : ∀ n, (convert 22 9 (.slice ta[k].ao ta[k].xs.length ta[k].cap)).run Tryd.prog (wr.drewN n) = .ok (.string (strOfNums ta[k].xs)) (wr.drewN n) := fun n => conv_seg (Seg.of_row (ra.touch (Touch.drewN (Touch.refl (fun _ => False) wr) n) (fun _ _ h => h))) _
      have CV2 : ∀ n, (convert 22 9 (.slice tb[k].ao tb[k].xs.length tb[k].cap)).run Tryd.prog (wr.drewN n) = .ok (.string (strOfNums tb[k].xs)) (wr.drewN n) := fun n => conv_seg (Seg.of_row (rb.touch (Touch.drewN (Touch.refl (fun _ => False) wr) n) (fun _ _ h => h))) _
      simp only [Txt.val] at c1 d1
      rw [← hkey] at d1 CV2
      have hlt' : (k : Int) < (nb : Int) := by omega
      have HT := hide (fun n => Touch.drewN ht n)
      generalize strOfNums ta[k].xs = st at *
      generalize ta[k].xs.length = n1 at *
      generalize ta[k].ao = a1 at *
      generalize ta[k].cap = p1 at *
      generalize tb[k].ao = a2 at *
      generalize tb[k].cap = p2 at *
      clear ha hb ra rb hk hkey hll ht
      go_wp2_with fail
      go_quiet (fail)
      go_wp2_with fail
      go_roundw
      case rel => exact ⟨k + 1, by go_num, by omega, HT.out _⟩
      case measure => simp [intOf]; omega
    · have e : k = nb := by omega
      subst e
      clear ha hb hk hll
      go_wp2_with fail
      go_ret
      exact ⟨rfl, ht⟩

end Go.Proofs.YtfeifobljgmkkaaDoor
