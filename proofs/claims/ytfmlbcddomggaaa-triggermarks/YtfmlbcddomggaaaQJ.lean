/- The library's stable sort: symMergeCmpFunc where one stands at the left. -/
import Derived.Test.YtfmlbcddomggaaaQI
namespace Go.Proofs.Ytfmlbcddomggaaa
open Go.Shelf Go.RowKit Go.Lib Go.Sort
namespace Sb
variable {P : Program} {k : Nat} {α : Type} [Inhabited α] {key : α → Int}

/-- What the sort is given: the row, the order. -/
structure Gv (P : Program) (k : Nat) (key : α → Int) (enc : α → List Value) (g : Nat) (cb : Array Value) (blk off : Nat) (d0 : Array α) (w0 : World) : Prop where
  row : RowK enc k w0 blk off d0
  eg : ∀ args w, (callFunc g args).run P w = .ok (.enter g args) w
  cmp : CmpLays P g cb enc k (fun x y => Lib.compareInt (key x) (key y)) blk off d0.size w0
  size : d0.size < 4611686018427387904

omit [Inhabited α] in
theorem cmp_lt (x y : α) : Lib.compareInt (key x) (key y) < 0 ↔ key x < key y := by
  unfold Lib.compareInt
  split
  · rename_i h; simp [h]
  · split <;> simp <;> omega

set_option maxHeartbeats 4000000 in
set_option maxRecDepth 1000000 in
theorem sym_left (L : Ls P k) {enc : α → List Value} {g : Nat} {cb : Array Value} {blk off : Nat} {d0 : Array α} {w0 : World} (G : Gv P k key enc g cb blk off d0 w0) (cap a b : Nat) (d : Array α) (w : World)
    (hs : d.size = d0.size) (S : SWK enc k w0 blk off d w) (hab : a + 1 < b) (hb : b ≤ d.size) (hu : Up key (a + 1) b d) :
    Calls P 43 #[.slice (some ⟨blk, off, none⟩) d0.size cap, .int .i64 a, .int .i64 ((a + 1 : Nat) : Int), .int .i64 b, .func (.func g) #[] cb] w fun e w' => e = .returned (.tuple #[]) ∧ ∃ d' : Array α, Mg key a b d d' ∧ SWK enc k w0 blk off d' w' := by
  have mixed := L.mixed; have t0 := L.t0; have a0 := L.a0; have z0 := L.z0; have v0 := L.v0; have t3 := L.t3; have a3 := L.a3; have z3 := L.z3; have v3 := L.v3; have t4 := L.t4; have a4 := L.a4; have z4 := L.z4; have v4 := L.v4; have tp := L.tp; have ap := L.ap; have zp := L.zp; have vp := L.vp; have tf := L.tf; have af := L.af; have zf := L.zf; have vf := L.vf; have tu := L.tu; have au := L.au; have zu := L.zu; have vu := L.vu; have aE := L.aE; have zE := L.zE
  have FG := L.fSy
  have eg := G.eg
  have S0 : Aside (SWK enc k w0 blk off d w) := S
  have HG := hide G
  have hsz := G.size
  have HU := hide hu
  have HN := hide hs
  obtain ⟨N, eN⟩ : ∃ N, N = d0.size := ⟨_, rfl⟩
  rw [← eN] at hsz hs ⊢
  have HNe := hide eN
  have hdN : d.size = N := hs
  have HdN := hide hdN
  obtain ⟨m, hm⟩ : ∃ m, m = a + 1 := ⟨_, rfl⟩
  rw [← hm]
  have r1 : IntKind.i64.wrap ((m : Int) - (a : Int)) = 1 := by rw [IntKind.wrap_i64]; omega
  have Hm := hide hm
  have hmb : m < b := by omega
  have hbN : b ≤ N := by omega
  have ham : a < m := by omega
  clear S L G hu hs hm hdN hab hb eN
  go_enter FG, Try.ntmps43
  go_wp2
  go_loopg [10, 11] (b - m) (fun kx s10 s11 wr => ∃ (i j : Nat), s10 = .int .i64 i ∧ s11 = .int .i64 j ∧ m ≤ i ∧ i ≤ j ∧ j ≤ b ∧ j - i ≤ kx ∧ Aside (SWK enc k w0 blk off d wr) ∧ Hid (∀ x, m ≤ x → x < i → key d[x]! < key d[a]!) ∧ Hid (∀ x, j ≤ x → x < b → key d[a]! ≤ key d[x]!))
  case atStart => exact ⟨m, b, rfl, rfl, Nat.le_refl _, by omega, Nat.le_refl _, Nat.le_refl _, S0, hide (fun x h1 h2 => by omega), hide (fun x h1 h2 => by omega)⟩
  case round =>
    clear S0
    obtain ⟨i, j, rfl, rfl, hi, hij, hjb, hkx, S1, HL, HH⟩ := hrel
    by_cases hlt : i < j
    · have hltz : (i : Int) < (j : Int) := by omega
      obtain ⟨h, hh⟩ : ∃ h, h = (i + j) / 2 := ⟨_, rfl⟩
      have r2 : IntKind.i64.wrap ((i : Int) + (j : Int)) = ((i + j : Nat) : Int) := by rw [IntKind.wrap_i64]; omega
      go_wp2_with fail
      have e2 : ((i : Int) + (j : Int)) / 2 = (h : Int) := by omega
      rw [e2]
      have hih : i ≤ h := by omega
      have hhj : h < j := by omega
      have HMn : Hid (∀ x y, m ≤ x → x ≤ y → y < b → key d[x]! ≤ key d[y]!) := hide fun x y h1 h2 h3 => HU.out x y (by have := Hm.out; omega) h2 h3
      clear hh e2 r2
      have bx : (h : Int) < (N : Int) := by omega
      have by_ : (a : Int) < (N : Int) := by omega
      obtain ⟨vx, hvx⟩ : ∃ v, v = d[h]! := ⟨_, rfl⟩
      obtain ⟨vy, hvy⟩ : ∃ v, v = d[a]! := ⟨_, rfl⟩
      have lx := S1.out.ld HG.out.row HN.out P h (by have := HdN.out; omega)
      have ly := S1.out.ld HG.out.row HN.out P a (by have := HdN.out; omega)
      rw [← hvx] at lx
      rw [← hvy] at ly
      have hc := S1.out.cmp HG.out.cmp HN.out vx vy
      have hkv : Hid (key vx = key d[h]! ∧ key vy = key d[a]!) := hide ⟨by rw [hvx], by rw [hvy]⟩
      have hlt' := cmp_lt (key := key) vx vy
      generalize Lib.compareInt (key vx) (key vy) = cv at hc hlt'
      have HLT := hide hlt'
      clear hvx hvy hlt'
      by_cases hcv : cv < 0
      · have hdv : decide (cv < 0) = true := decide_eq_true hcv
        go_wp2_with fail
        go_quiet_grown (first | (go_at_fn g; refine Calls.grown_of (hc _ _)))
        have S2 : Aside (SWK enc k w0 blk off d (grow (wr.drewN nq) osq)) := S1.out.grown nq osq
        clear lx ly hc S1
        generalize grow (wr.drewN nq) osq = wu2 at S2 ⊢
        clear nq osq
        have hlow : Hid (∀ x, m ≤ x → x < h + 1 → key d[x]! < key d[a]!) := hide fun x h1 h2 => by
          have q := HLT.out.1 hcv
          rw [hkv.out.1, hkv.out.2] at q
          have := HMn.out x h h1 (by omega) (by omega)
          omega
        go_wp2
        go_roundg (j - (h + 1))
        case measure => omega
        case rel => exact ⟨h + 1, j, by go_num, rfl, by omega, by omega, hjb, Nat.le_refl _, S2, hlow, HH⟩
      · have hdv : decide (cv < 0) = false := decide_eq_false hcv
        have HCV := hide hcv
        clear hcv
        go_wp2_with fail
        go_quiet_grown (first | (go_at_fn g; refine Calls.grown_of (hc _ _)))
        have S2 : Aside (SWK enc k w0 blk off d (grow (wr.drewN nq) osq)) := S1.out.grown nq osq
        clear lx ly hc S1
        generalize grow (wr.drewN nq) osq = wu2 at S2 ⊢
        clear nq osq
        have hhigh : Hid (∀ x, h ≤ x → x < b → key d[a]! ≤ key d[x]!) := hide fun x h1 h2 => by
          have q : ¬ key vx < key vy := fun z => by have q1 := HLT.out.2 z; have q2 := HCV.out; omega
          rw [hkv.out.1, hkv.out.2] at q
          have := HMn.out h x (by omega) h1 h2
          omega
        go_wp2
        go_roundg (h - i)
        case measure => omega
        case rel => exact ⟨i, h, rfl, rfl, hi, hih, by omega, Nat.le_refl _, S2, HL, hhigh⟩
    · have hltz : ¬ (i : Int) < (j : Int) := by omega
      obtain rfl : i = j := by omega
      have HB : Hid (Mv key a a d d) := hide (Mv.begin key a d)
      have r3 : IntKind.i64.wrap ((i : Int) - 1) = ((i - 1 : Nat) : Int) := by rw [IntKind.wrap_i64]; omega
      obtain ⟨i1, hi1⟩ : ∃ i1, i1 = i - 1 := ⟨_, rfl⟩
      rw [← hi1] at r3
      have hi2 : Hid (i = i1 + 1) := hide (by omega)
      have ha1 : a ≤ i1 := by have := Hm.out; omega
      have hi1b : i1 < b := by omega
      clear hi1 hkx hij
      go_wp2
      go_loopg [13] (i1 - a) (fun kx s13 wr => ∃ (t : Nat) (dk : Array α), s13 = .int .i64 t ∧ a ≤ t ∧ t ≤ i1 ∧ i1 - t ≤ kx ∧ dk.size = d.size ∧ Aside (SWK enc k w0 blk off dk wr) ∧ Hid (Mv key a t d dk))
      case atStart => exact ⟨a, d, rfl, Nat.le_refl _, ha1, Nat.le_refl _, rfl, S1, HB⟩
      case round =>
        clear S1 HB
        obtain ⟨t, dk, rfl, hat, hti, hkx, hds, S1, HM⟩ := hrel
        by_cases hlt2 : t < i1
        · have hlt2z : (t : Int) < (i1 : Int) := by omega
          have HM2 : Hid (Mv key a (t + 1) d (swp dk t (t + 1))) := hide (HM.out.step hat (by have := HdN.out; have := HNe.out; omega) (HL.out (t + 1) (by have := Hm.out; omega) (by have := hi2.out; omega)))
          obtain ⟨t1, ht1⟩ : ∃ t1, t1 = t + 1 := ⟨_, rfl⟩
          rw [← ht1] at HM2
          have r4 : IntKind.i64.wrap ((t : Int) + 1) = (t1 : Int) := by rw [IntKind.wrap_i64]; omega
          have b1 : (t : Int) < (N : Int) := by omega
          have b2 : (t1 : Int) < (N : Int) := by omega
          have nt : t < dk.size := by have := HdN.out; omega
          have nt1 : t1 < dk.size := by have := HdN.out; omega
          have hdn : dk.size = d0.size := by have := HdN.out; have := HNe.out; omega
          have S2 : Aside (SWK enc k w0 blk off (swp dk t t1) ((wr.drew.setCells blk (off + t * k) (enc dk[t1]!)).setCells blk (off + t1 * k) (enc dk[t]!))) := S1.out.swapped HG.out.row t t1 nt nt1
          have la := S1.out.ld1 HG.out.row hdn P t nt
          have lb := S1.out.ld1 HG.out.row hdn P t1 nt1
          have sa := S1.out.st1 HG.out.row hdn P t nt dk[t1]!
          have sb := S1.out.st2 HG.out.row hdn P t t1 nt nt1 dk[t1]! dk[t]!
          have n1 : (enc dk[t]!).length = k := HG.out.row.hk _
          have n2 : (enc dk[t1]!).length = k := HG.out.row.hk _
          have Ht1 := hide ht1
          clear ht1 hdn
          generalize enc dk[t]! = cA at S2 la sb n1
          generalize enc dk[t1]! = cB at S2 lb sa sb n2
          clear S1
          go_wp2_with fail
          go_big_region_o
          clear la lb sa sb
          generalize (wr.drew.setCells blk (off + t * k) cB).setCells blk (off + t1 * k) cA = w2 at S2 ⊢
          go_wp2
          go_roundg (i1 - t1)
          case measure => have := Ht1.out; omega
          case rel => exact ⟨t1, swp dk t t1, by go_num, by have := Ht1.out; omega, by have := Ht1.out; omega, Nat.le_refl _, by rw [swp_size]; exact hds, S2, HM2⟩
        · have hlt2z : ¬ (t : Int) < (i1 : Int) := by omega
          obtain rfl : t = i1 := by omega
          have HD : Hid (Mg key a b d dk) := hide (HM.out.done hat hi1b (by have := HdN.out; omega) HU.out (fun x h1 h2 => HL.out x (by have := Hm.out; omega) (by have := hi2.out; omega)) (fun x h1 h2 => Int.not_lt.2 (HH.out x (by have := hi2.out; omega) h2)))
          have S2 : Hid (SWK enc k w0 blk off dk wr) := S1.out
          clear HM S1
          go_wp2
          (try simp only [Exit.inBlock, Exit.then]); refine bodyPost_ret (results_none rfl _ _ _) rfl ?_
          exact ⟨rfl, dk, HD.out, S2.out⟩

end Sb
end Go.Proofs.Ytfmlbcddomggaaa
