/- The library's stable sort: symMergeCmpFunc where one stands at the right. -/
import Derived.Test.YtfmlbcddomggaaaQJ
namespace Go.Proofs.Ytfmlbcddomggaaa
open Go.Shelf Go.RowKit Go.Lib Go.Sort
namespace Sb
variable {P : Program} {k : Nat} {α : Type} [Inhabited α] {key : α → Int}

set_option maxHeartbeats 4000000 in
set_option maxRecDepth 1000000 in
theorem sym_right (L : Ls P k) {enc : α → List Value} {g : Nat} {cb : Array Value} {blk off : Nat} {d0 : Array α} {w0 : World} (G : Gv P k key enc g cb blk off d0 w0) (cap a m : Nat) (d : Array α) (w : World)
    (hs : d.size = d0.size) (S : SWK enc k w0 blk off d w) (ham1 : a + 1 < m) (hb : m + 1 ≤ d.size) (hu : Up key a m d) :
    Calls P 43 #[.slice (some ⟨blk, off, none⟩) d0.size cap, .int .i64 a, .int .i64 m, .int .i64 ((m + 1 : Nat) : Int), .func (.func g) #[] cb] w fun e w' => e = .returned (.tuple #[]) ∧ ∃ d' : Array α, Mg key a (m + 1) d d' ∧ SWK enc k w0 blk off d' w' := by
  have mixed := L.mixed; have t0 := L.t0; have a0 := L.a0; have z0 := L.z0; have v0 := L.v0; have t3 := L.t3; have a3 := L.a3; have z3 := L.z3; have v3 := L.v3; have t4 := L.t4; have a4 := L.a4; have z4 := L.z4; have v4 := L.v4; have tp := L.tp; have ap := L.ap; have zp := L.zp; have vp := L.vp; have tf := L.tf; have af := L.af; have zf := L.zf; have vf := L.vf; have tu := L.tu; have au := L.au; have zu := L.zu; have vu := L.vu; have aE := L.aE; have zE := L.zE
  have FG := L.fSy
  have eg := G.eg
  have S0 : Aside (SWK enc k w0 blk off d w) := S
  have HG := hide G
  have hsz := G.size
  have HU := hide hu
  have HN := hide hs
  obtain ⟨N, eN⟩ : ∃ N, N = d0.size := ⟨_, rfl⟩
  rw [← eN] at hsz hs ⊢
  have HNe := hide eN
  have hdN : d.size = N := hs
  have HdN := hide hdN
  obtain ⟨b, hm⟩ : ∃ b, b = m + 1 := ⟨_, rfl⟩
  rw [← hm]
  have r1 : IntKind.i64.wrap ((m : Int) - (a : Int)) = ((m - a : Nat) : Int) := by rw [IntKind.wrap_i64]; omega
  have r1b : IntKind.i64.wrap ((b : Int) - (m : Int)) = 1 := by rw [IntKind.wrap_i64]; omega
  obtain ⟨ma, hma⟩ : ∃ ma, ma = m - a := ⟨_, rfl⟩
  rw [← hma] at r1
  have r1c : ((ma : Int) == 1) = false := by simp; omega
  have Hm := hide hm
  have hmN : m < N := by omega
  have ham : a < m := by omega
  clear S L G hu hs hm hdN hb eN hma ham1
  go_enter FG, Try.ntmps43
  go_wp2
  go_loopg [14, 15] (m - a) (fun kx s10 s11 wr => ∃ (i j : Nat), s10 = .int .i64 i ∧ s11 = .int .i64 j ∧ a ≤ i ∧ i ≤ j ∧ j ≤ m ∧ j - i ≤ kx ∧ Aside (SWK enc k w0 blk off d wr) ∧ Hid (∀ x, a ≤ x → x < i → key d[x]! ≤ key d[m]!) ∧ Hid (∀ x, j ≤ x → x < m → key d[m]! < key d[x]!))
  case atStart => exact ⟨a, m, rfl, rfl, Nat.le_refl _, by omega, Nat.le_refl _, Nat.le_refl _, S0, hide (fun x h1 h2 => by omega), hide (fun x h1 h2 => by omega)⟩
  case round =>
    clear S0
    obtain ⟨i, j, rfl, rfl, hi, hij, hjb, hkx, S1, HL, HH⟩ := hrel
    by_cases hlt : i < j
    · have hltz : (i : Int) < (j : Int) := by omega
      obtain ⟨h, hh⟩ : ∃ h, h = (i + j) / 2 := ⟨_, rfl⟩
      have r2 : IntKind.i64.wrap ((i : Int) + (j : Int)) = ((i + j : Nat) : Int) := by rw [IntKind.wrap_i64]; omega
      go_wp2_with fail
      have e2 : ((i : Int) + (j : Int)) / 2 = (h : Int) := by omega
      rw [e2]
      have hih : i ≤ h := by omega
      have hhj : h < j := by omega
      have HMn : Hid (∀ x y, a ≤ x → x ≤ y → y < m → key d[x]! ≤ key d[y]!) := hide HU.out
      clear hh e2 r2
      have bx : (m : Int) < (N : Int) := by omega
      have by_ : (h : Int) < (N : Int) := by omega
      obtain ⟨vx, hvx⟩ : ∃ v, v = d[m]! := ⟨_, rfl⟩
      obtain ⟨vy, hvy⟩ : ∃ v, v = d[h]! := ⟨_, rfl⟩
      have lx := S1.out.ld HG.out.row HN.out P m (by have := HdN.out; omega)
      have ly := S1.out.ld HG.out.row HN.out P h (by have := HdN.out; omega)
      rw [← hvx] at lx
      rw [← hvy] at ly
      have hc := S1.out.cmp HG.out.cmp HN.out vx vy
      have hkv : Hid (key vx = key d[m]! ∧ key vy = key d[h]!) := hide ⟨by rw [hvx], by rw [hvy]⟩
      have hlt' := cmp_lt (key := key) vx vy
      generalize Lib.compareInt (key vx) (key vy) = cv at hc hlt'
      have HLT := hide hlt'
      clear hvx hvy hlt'
      by_cases hcv : cv < 0
      · have hdv : decide (cv < 0) = true := decide_eq_true hcv
        go_wp2_with fail
        go_quiet_grown (first | (go_at_fn g; refine Calls.grown_of (hc _ _)))
        have S2 : Aside (SWK enc k w0 blk off d (grow (wr.drewN nq) osq)) := S1.out.grown nq osq
        clear lx ly hc S1
        generalize grow (wr.drewN nq) osq = wu2 at S2 ⊢
        clear nq osq
        have hhigh : Hid (∀ x, h ≤ x → x < m → key d[m]! < key d[x]!) := hide fun x h1 h2 => by
          have q := HLT.out.1 hcv
          rw [hkv.out.1, hkv.out.2] at q
          have := HMn.out h x (by omega) h1 h2
          omega
        go_wp2
        go_roundg (h - i)
        case measure => omega
        case rel => exact ⟨i, h, rfl, rfl, hi, hih, by omega, Nat.le_refl _, S2, HL, hhigh⟩
      · have hdv : decide (cv < 0) = false := decide_eq_false hcv
        have HCV := hide hcv
        clear hcv
        go_wp2_with fail
        go_quiet_grown (first | (go_at_fn g; refine Calls.grown_of (hc _ _)))
        have S2 : Aside (SWK enc k w0 blk off d (grow (wr.drewN nq) osq)) := S1.out.grown nq osq
        clear lx ly hc S1
        generalize grow (wr.drewN nq) osq = wu2 at S2 ⊢
        clear nq osq
        have hlow : Hid (∀ x, a ≤ x → x < h + 1 → key d[x]! ≤ key d[m]!) := hide fun x h1 h2 => by
          have q : ¬ key vx < key vy := fun z => by have q1 := HLT.out.2 z; have q2 := HCV.out; omega
          rw [hkv.out.1, hkv.out.2] at q
          have := HMn.out x h h1 (by omega) (by omega)
          omega
        go_wp2
        go_roundg (j - (h + 1))
        case measure => omega
        case rel => exact ⟨h + 1, j, by go_num, rfl, by omega, by omega, hjb, Nat.le_refl _, S2, hlow, HH⟩
    · have hltz : ¬ (i : Int) < (j : Int) := by omega
      obtain rfl : i = j := by omega
      have HB : Hid (Mw key m m d d) := hide (Mw.begin key m d)
      clear hkx hij
      go_wp2
      go_loopg [17] (m - i) (fun kx s17 wr => ∃ (t : Nat) (dk : Array α), s17 = .int .i64 t ∧ i ≤ t ∧ t ≤ m ∧ t - i ≤ kx ∧ dk.size = d.size ∧ Aside (SWK enc k w0 blk off dk wr) ∧ Hid (Mw key m t d dk))
      case atStart => exact ⟨m, d, rfl, hjb, Nat.le_refl _, Nat.le_refl _, rfl, S1, HB⟩
      case round =>
        clear S1 HB
        obtain ⟨t1, dk, rfl, hit, htm, hkx, hds, S1, HM⟩ := hrel
        by_cases hlt2 : i < t1
        · have hlt2z : (i : Int) < (t1 : Int) := by omega
          obtain ⟨t, ht1⟩ : ∃ t, t1 = t + 1 := ⟨t1 - 1, by omega⟩
          have HM2 : Hid (Mw key m t d (swp dk t1 t)) := hide (by
            rw [ht1] at HM ⊢
            exact HM.out.step (by omega) (by have := HdN.out; omega) (HH.out t (by omega) (by omega)))
          have r4 : IntKind.i64.wrap ((t1 : Int) - 1) = (t : Int) := by rw [IntKind.wrap_i64]; omega
          have b1 : (t : Int) < (N : Int) := by omega
          have b2 : (t1 : Int) < (N : Int) := by omega
          have nt : t < dk.size := by have := HdN.out; omega
          have nt1 : t1 < dk.size := by have := HdN.out; omega
          have hdn : dk.size = d0.size := by have := HdN.out; have := HNe.out; omega
          have S2 : Aside (SWK enc k w0 blk off (swp dk t1 t) ((wr.drew.setCells blk (off + t1 * k) (enc dk[t]!)).setCells blk (off + t * k) (enc dk[t1]!))) := S1.out.swapped HG.out.row t1 t nt1 nt
          have la := S1.out.ld1 HG.out.row hdn P t1 nt1
          have lb := S1.out.ld1 HG.out.row hdn P t nt
          have sa := S1.out.st1 HG.out.row hdn P t1 nt1 dk[t]!
          have sb := S1.out.st2 HG.out.row hdn P t1 t nt1 nt dk[t]! dk[t1]!
          have n1 : (enc dk[t1]!).length = k := HG.out.row.hk _
          have n2 : (enc dk[t]!).length = k := HG.out.row.hk _
          have Ht1 := hide ht1
          clear ht1 hdn
          generalize enc dk[t1]! = cA at S2 la sb n1
          generalize enc dk[t]! = cB at S2 lb sa sb n2
          clear S1
          go_wp2_with fail
          go_big_region_o
          clear la lb sa sb
          generalize (wr.drew.setCells blk (off + t1 * k) cB).setCells blk (off + t * k) cA = w2 at S2 ⊢
          go_wp2
          go_roundg (t - i)
          case measure => have := Ht1.out; omega
          case rel => exact ⟨t, swp dk t1 t, by go_num, by have := Ht1.out; omega, by have := Ht1.out; omega, Nat.le_refl _, by rw [swp_size]; exact hds, S2, HM2⟩
        · have hlt2z : ¬ (i : Int) < (t1 : Int) := by omega
          obtain rfl : i = t1 := by omega
          have HD : Hid (Mg key a (m + 1) d dk) := hide (HM.out.done hi hjb (by have := HdN.out; omega) HU.out (fun x h1 h2 => Int.not_lt.2 (HL.out x h1 h2)) (fun x h1 h2 => HH.out x h1 h2))
          have S2 : Hid (SWK enc k w0 blk off dk wr) := S1.out
          clear HM S1
          go_wp2
          (try simp only [Exit.inBlock, Exit.then]); refine bodyPost_ret (results_none rfl _ _ _) rfl ?_
          exact ⟨rfl, dk, by rw [Hm.out]; exact HD.out, S2.out⟩

end Sb
end Go.Proofs.Ytfmlbcddomggaaa
