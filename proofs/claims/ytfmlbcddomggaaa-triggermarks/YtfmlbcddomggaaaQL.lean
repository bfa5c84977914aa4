/- The library's stable sort: stableCmpFunc. -/
import Derived.Test.YtfmlbcddomggaaaQK
namespace Go.Proofs.Ytfmlbcddomggaaa
open Go.Shelf Go.RowKit Go.Lib Go.Sort
namespace Sb
variable {P : Program} {k : Nat} {α : Type} [Inhabited α] {key : α → Int}

/-- Each block of bs rises. -/
def Bk (key : α → Int) (bs N : Nat) (d : Array α) : Prop := ∀ r, Up key (r * bs) (min ((r + 1) * bs) N) d

theorem Bk.all {bs N : Nat} {d : Array α} (h : Bk key bs N d) (hb : N ≤ bs) : Up key 0 N d := by
  have := h 0
  rw [Nat.zero_mul, Nat.zero_add, Nat.one_mul, Nat.min_eq_right hb] at this
  exact this

/-- The first q pairs of blocks are merged. -/
structure Pr (key : α → Int) (bs N q : Nat) (d : Array α) : Prop where
  low : ∀ r, r < q → Up key (r * (2 * bs)) ((r + 1) * (2 * bs)) d
  high : ∀ r, 2 * q ≤ r → Up key (r * bs) (min ((r + 1) * bs) N) d

theorem two_mul_bs (q bs : Nat) : 2 * q * bs = q * (2 * bs) := by rw [Nat.mul_comm 2 q, Nat.mul_assoc]
theorem next_bs (q bs : Nat) : (q + 1) * (2 * bs) = q * (2 * bs) + 2 * bs := by rw [Nat.add_mul, Nat.one_mul]

theorem Pr.begin {bs N : Nat} {d : Array α} (h : Bk key bs N d) : Pr key bs N 0 d := ⟨fun r hr => by omega, fun r _ => h r⟩

theorem Pr.left {bs N q : Nat} {d : Array α} (h : Pr key bs N q d) (hN : q * (2 * bs) + bs ≤ N) : Up key (q * (2 * bs)) (q * (2 * bs) + bs) d := by
  have := h.high (2 * q) (Nat.le_refl _)
  rw [Nat.add_mul, Nat.one_mul, two_mul_bs, Nat.min_eq_left hN] at this
  exact this
theorem Pr.right {bs N q : Nat} {d : Array α} (h : Pr key bs N q d) : Up key (q * (2 * bs) + bs) (min (q * (2 * bs) + 2 * bs) N) d := by
  have := h.high (2 * q + 1) (by omega)
  rw [Nat.add_mul (2 * q + 1), Nat.add_mul, Nat.one_mul, two_mul_bs, Nat.add_assoc, ← Nat.two_mul] at this
  exact this

theorem Pr.step {bs N q : Nat} {d d' : Array α} (h : Pr key bs N q d) (hm : Mg key (q * (2 * bs)) ((q + 1) * (2 * bs)) d d') : Pr key bs N (q + 1) d' := by
  refine ⟨fun r hr => ?_, fun r hr => ?_⟩
  · rcases Nat.lt_or_ge r q with h1 | h1
    · refine (h.low r h1).same fun i _ h3 => hm.st.out i (.inl ?_)
      exact Nat.lt_of_lt_of_le h3 (Nat.mul_le_mul_right _ h1)
    · obtain rfl : r = q := by omega
      exact hm.up
  · refine (h.high r (by omega)).same fun i h2 _ => hm.st.out i (.inr ?_)
    have := Nat.mul_le_mul_right bs hr
    rw [two_mul_bs] at this
    omega

theorem Pr.end_ {bs N q : Nat} {d d' : Array α} (h : Pr key bs N q d) (hm : Mg key (q * (2 * bs)) N d d') (hN : N < (q + 1) * (2 * bs)) : Bk key (2 * bs) N d' := fun r => by
  rcases Nat.lt_trichotomy r q with h1 | h1 | h1
  · have g := Nat.mul_le_mul_right (2 * bs) h1
    rcases Nat.le_total ((r + 1) * (2 * bs)) N with h2 | h2
    · rw [Nat.min_eq_left h2]
      exact (h.low r h1).same fun i _ h3 => hm.st.out i (.inl (Nat.lt_of_lt_of_le h3 g))
    · rw [Nat.min_eq_right h2]
      exact (((h.low r h1).mono (Nat.le_refl _) h2)).same fun i _ h3 => hm.st.out i (.inl (by have : N ≤ (r + 1) * (2 * bs) := h2; exact Nat.lt_of_lt_of_le (Nat.lt_of_lt_of_le h3 h2) g))
  · subst h1
    rw [Nat.min_eq_right (Nat.le_of_lt hN)]
    exact hm.up
  · intro i j h2 h3 h4
    have g := Nat.mul_le_mul_right (2 * bs) h1
    have : min ((r + 1) * (2 * bs)) N ≤ N := Nat.min_le_right _ _
    exfalso
    have g2 : (q + 1) * (2 * bs) ≤ r * (2 * bs) := g
    omega

/-- The first q blocks of twenty are sorted. -/
structure Tw20 (key : α → Int) (q : Nat) (d : Array α) : Prop where
  low : ∀ r, r < q → Up key (r * 20) ((r + 1) * 20) d

theorem Tw20.step {q : Nat} {d d' : Array α} (h : Tw20 key q d) (hs : St key (q * 20) ((q + 1) * 20) d d') (hu : Up key (q * 20) ((q + 1) * 20) d') : Tw20 key (q + 1) d' := ⟨fun r hr => by
  rcases Nat.lt_or_ge r q with h1 | h1
  · exact (h.low r h1).same fun i _ h3 => hs.out i (.inl (by omega))
  · obtain rfl : r = q := by omega
    exact hu⟩

theorem Tw20.end_ {q N : Nat} {d d' : Array α} (h : Tw20 key q d) (hs : St key (q * 20) N d d') (hu : Up key (q * 20) N d') (hN : N < (q + 1) * 20) : Bk key 20 N d' := fun r => by
  rcases Nat.lt_trichotomy r q with h1 | h1 | h1
  · exact (((h.low r h1).mono (Nat.le_refl _) (Nat.min_le_left _ _))).same fun i _ h3 => hs.out i (.inl (by omega))
  · subst h1
    exact hu.mono (Nat.le_refl _) (Nat.min_le_right _ _)
  · intro i j h2 h3 h4
    exfalso
    omega

set_option maxHeartbeats 8000000 in
set_option maxRecDepth 1000000 in
theorem stable_any (L : Ls P k) {enc : α → List Value} {g : Nat} {cb : Array Value} {blk off : Nat} {d0 : Array α} {w0 : World} (G : Gv P k key enc g cb blk off d0 w0) (cap : Nat) (hsz : d0.size ≤ 1152921504606846976)
    (CI : ∀ (a b : Nat) (d : Array α) (w : World), d.size = d0.size → SWK enc k w0 blk off d w → a ≤ b → b ≤ d0.size →
      Calls P 42 #[.slice (some ⟨blk, off, none⟩) d0.size cap, .int .i64 a, .int .i64 b, .func (.func g) #[] cb] w fun e w' => e = .returned (.tuple #[]) ∧ SWK enc k w0 blk off (insertionSort (lt key) d a b) w')
    (S : SWK enc k w0 blk off d0 w0) :
    Calls P 38 #[.slice (some ⟨blk, off, none⟩) d0.size cap, .int .i64 d0.size, .func (.func g) #[] cb] w0 fun e w' => e = .returned (.tuple #[]) ∧ ∃ d' : Array α, St key 0 d0.size d0 d' ∧ Up key 0 d0.size d' ∧ SWK enc k w0 blk off d' w' := by
  have eIn : ∀ args w, (callFunc 42 args).run P w = .ok (.enter 42 args) w := enters_of L.fIn (by kernel_rfl) rfl
  have eSy : ∀ args w, (callFunc 43 args).run P w = .ok (.enter 43 args) w := enters_of L.fSy (by kernel_rfl) rfl
  have mixed := L.mixed; have t0 := L.t0; have a0 := L.a0; have z0 := L.z0; have v0 := L.v0; have t3 := L.t3; have a3 := L.a3; have z3 := L.z3; have v3 := L.v3; have t4 := L.t4; have a4 := L.a4; have z4 := L.z4; have v4 := L.v4; have tp := L.tp; have ap := L.ap; have zp := L.zp; have vp := L.vp; have tf := L.tf; have af := L.af; have zf := L.zf; have vf := L.vf
  have FG := L.fSt
  have CM : Hid (∀ (a m b : Nat) (d : Array α) (w : World), d.size = d0.size → SWK enc k w0 blk off d w → a < m → m < b → b ≤ d0.size → Up key a m d → Up key m b d → Calls P 43 #[.slice (some ⟨blk, off, none⟩) d0.size cap, .int .i64 a, .int .i64 m, .int .i64 b, .func (.func g) #[] cb] w fun e w' => e = .returned (.tuple #[]) ∧ ∃ d' : Array α, Mg key a b d d' ∧ SWK enc k w0 blk off d' w') := hide fun a m b d w h1 h2 h3 h4 h5 h6 h7 => symMerge_any L G cap (b - a) a m b d w (Nat.le_refl _) h1 h2 h3 h4 (by omega) h6 h7
  have HCI := hide CI
  have S0 : Aside (SWK enc k w0 blk off d0 w0) := S
  obtain ⟨N, eN⟩ : ∃ N, N = d0.size := ⟨_, rfl⟩
  rw [← eN] at hsz CM HCI ⊢
  have HNe := hide eN
  clear L G CI S eN
  go_enter FG, Try.ntmps38
  go_wp2
  go_loopg [7, 8] (N + 1) (fun kx s7 s8 wr => ∃ (q x y : Nat) (dk : Array α), s7 = .int .i64 x ∧ s8 = .int .i64 y ∧ x = q * 20 ∧ y = (q + 1) * 20 ∧ x ≤ N ∧ N + 1 - x ≤ kx ∧ Aside (SWK enc k w0 blk off dk wr) ∧ Hid (St key 0 N d0 dk) ∧ Hid (Tw20 key q dk))
  case atStart => exact ⟨0, 0, 20, d0, rfl, rfl, rfl, rfl, Nat.zero_le _, Nat.le_refl _, S0, hide (St.refl _ _ _), hide ⟨fun r hr => by omega⟩⟩
  case round =>
    clear S0
    obtain ⟨q, x, y, dk, rfl, rfl, hx, hy, hxN, hkx, S1, HS, HT⟩ := hrel
    have hdk : Hid (dk.size = N) := hide (by rw [HS.out.size]; exact HNe.out.symm)
    by_cases hle : y ≤ N
    · have hlez : (y : Int) ≤ (N : Int) := by omega
      have C1 := hide (HCI.out x y dk wr hdk.out S1.out (by omega) hle)
      have INS := hide (St.ins (key := key) dk x y (by omega) (by have := hdk.out; omega))
      have HS2 : Hid (St key 0 N d0 (insertionSort (lt key) dk x y)) := hide (HS.out.trans (INS.out.1.mono (Nat.zero_le _) hle (by have := hdk.out; omega)))
      have HT2 : Hid (Tw20 key (q + 1) (insertionSort (lt key) dk x y)) := hide (by
        have g1 := INS.out.1
        have g2 := Up.of INS.out.2
        rw [hx, hy] at g1 g2 ⊢
        exact HT.out.step g1 g2)
      have r1 : IntKind.i64.wrap ((y : Int) + 20) = ((y + 20 : Nat) : Int) := by rw [IntKind.wrap_i64]; omega
      have Hx := hide hx
      have Hy := hide hy
      clear hx hy S1
      go_wp2_with (go_at_fn 42; refine C1.out.mono ?_; rintro e w2 ⟨rfl, S2'⟩; have S2 : Aside (SWK enc k w0 blk off (insertionSort (lt key) dk x y) w2) := S2'; clear S2' C1)
      go_roundg (N + 1 - y)
      case measure => have := Hx.out; have := Hy.out; omega
      case rel => exact ⟨q + 1, y, y + 20, _, rfl, by go_num, Hy.out, by have := Hy.out; omega, hle, Nat.le_refl _, S2, HS2, HT2⟩
    · have hlez : ¬ (y : Int) ≤ (N : Int) := by omega
      have C1 := hide (HCI.out x N dk wr hdk.out S1.out hxN (Nat.le_refl _))
      have INS := hide (St.ins (key := key) dk x N hxN (by have := hdk.out; omega))
      have HS2 : Hid (St key 0 N d0 (insertionSort (lt key) dk x N)) := hide (HS.out.trans (INS.out.1.mono (Nat.zero_le _) (Nat.le_refl _) (by have := hdk.out; omega)))
      have HB : Hid (Bk key 20 N (insertionSort (lt key) dk x N)) := hide (by
        have g1 := INS.out.1
        have g2 := Up.of INS.out.2
        rw [hx] at g1 g2 ⊢
        exact HT.out.end_ g1 g2 (by omega))
      clear hx hy S1 hkx HT HS
      go_wp2_with (go_at_fn 42; refine C1.out.mono ?_; rintro e w2 ⟨rfl, S2'⟩; have S2 : Aside (SWK enc k w0 blk off (insertionSort (lt key) dk x N) w2) := S2'; clear S2' C1)
      generalize insertionSort (lt key) dk x N = d1 at *
      clear INS hdk
      go_loopg [6] N (fun kx s6 wr => ∃ (bs : Nat) (dk : Array α), s6 = .int .i64 bs ∧ 20 ≤ bs ∧ bs ≤ 20 + 2 * N ∧ N - bs ≤ kx ∧ Aside (SWK enc k w0 blk off dk wr) ∧ Hid (St key 0 N d0 dk) ∧ Hid (Bk key bs N dk))
      case atStart => exact ⟨20, d1, rfl, Nat.le_refl _, by omega, by omega, S2, HS2, HB⟩
      case round =>
        clear S2 HS2 HB
        obtain ⟨bs, dk, rfl, hb20, hbN, hkx, S1, HS, HB⟩ := hrel
        by_cases hlt : bs < N
        · have hltz : (bs : Int) < (N : Int) := by omega
          obtain ⟨bb, hbb⟩ : ∃ bb, bb = 2 * bs := ⟨_, rfl⟩
          have r1 : IntKind.i64.wrap (2 * (bs : Int)) = (bb : Int) := by rw [IntKind.wrap_i64]; omega
          have r2 : IntKind.i64.wrap ((bs : Int) * 2) = (bb : Int) := by rw [IntKind.wrap_i64]; omega
          have HP : Hid (Pr key bs N 0 dk) := hide (Pr.begin HB.out)
          have Hbb := hide hbb
          clear HB hbb
          go_wp2
          go_loopg [7, 8] (N + 1) (fun kx s7 s8 wr => ∃ (q x y : Nat) (d2 : Array α), s7 = .int .i64 x ∧ s8 = .int .i64 y ∧ x ≤ N ∧ y = x + bb ∧ N + 1 - x ≤ kx ∧ Aside (SWK enc k w0 blk off d2 wr) ∧ Hid (x = q * bb) ∧ Hid (St key 0 N d0 d2) ∧ Hid (Pr key bs N q d2))
          case atStart => exact ⟨0, 0, bb, dk, rfl, rfl, Nat.zero_le _, by omega, Nat.le_refl _, S1, hide (by omega), HS, HP⟩
          case round =>
            clear S1 HS HP
            obtain ⟨q, x, y, d2, rfl, rfl, hxN, hxy, hkx2, S2, Hx, HS, HP⟩ := hrel
            have hd2 : Hid (d2.size = N) := hide (by rw [HS.out.size]; exact HNe.out.symm)
            obtain ⟨m, hm⟩ : ∃ m, m = x + bs := ⟨_, rfl⟩
            have r3 : IntKind.i64.wrap ((x : Int) + (bs : Int)) = (m : Int) := by rw [IntKind.wrap_i64]; omega
            have ex : Hid (x = q * (2 * bs)) := hide (by rw [Hx.out, Hbb.out])
            have ey : Hid (y = (q + 1) * (2 * bs)) := hide (by rw [next_bs, ← ex.out]; have := Hbb.out; omega)
            by_cases hle : y ≤ N
            · have hlez : (y : Int) ≤ (N : Int) := by omega
              have U1 : Hid (Up key x m d2) := hide (by have g := HP.out.left (by rw [← ex.out]; have := Hbb.out; omega); rw [← ex.out, ← hm] at g; exact g)
              have U2 : Hid (Up key m y d2) := hide (by have g := HP.out.right; rw [← ex.out, ← hm, show x + 2 * bs = y by have := Hbb.out; omega, Nat.min_eq_left hle] at g; exact g)
              have C1 := hide (CM.out x m y d2 wr hd2.out S2.out (by omega) (by have := Hbb.out; omega) hle U1.out U2.out)
              have r4 : IntKind.i64.wrap ((y : Int) + (bb : Int)) = ((y + bb : Nat) : Int) := by rw [IntKind.wrap_i64]; have := Hbb.out; omega
              have PS : Hid (∀ d3, Mg key x y d2 d3 → St key 0 N d0 d3 ∧ Pr key bs N (q + 1) d3) := hide fun d3 M => ⟨HS.out.trans (M.st.mono (Nat.zero_le _) hle (by have := hd2.out; omega)), by
                have M' := M
                rw [ex.out, ey.out] at M'
                exact HP.out.step M'⟩
              have Hxy := hide hxy
              have Hxq : Hid (y = (q + 1) * bb) := hide (by rw [ey.out, Hbb.out])
              clear hxy hm S2 HS HP
              go_wp2_with (go_at_fn 43; refine C1.out.mono ?_; rintro e w3 ⟨rfl, d3, M3, S3'⟩; have S3 : Aside (SWK enc k w0 blk off d3 w3) := S3'; have P3 := hide (PS.out d3 M3); clear S3' C1 M3 PS)
              go_roundg (N + 1 - y)
              case measure => have := Hxy.out; have := Hbb.out; omega
              case rel => exact ⟨q + 1, y, y + bb, d3, rfl, by go_num, hle, rfl, Nat.le_refl _, S3, Hxq, hide P3.out.1, hide P3.out.2⟩
            · have hlez : ¬ (y : Int) ≤ (N : Int) := by omega
              by_cases hmN : m < N
              · have hmz : (m : Int) < (N : Int) := by omega
                have U1 : Hid (Up key x m d2) := hide (by have g := HP.out.left (by rw [← ex.out]; omega); rw [← ex.out, ← hm] at g; exact g)
                have U2 : Hid (Up key m N d2) := hide (by have g := HP.out.right; rw [← ex.out, ← hm, show x + 2 * bs = y by have := Hbb.out; omega, Nat.min_eq_right (by omega)] at g; exact g)
                have C1 := hide (CM.out x m N d2 wr hd2.out S2.out (by omega) hmN (Nat.le_refl _) U1.out U2.out)
                have PE : Hid (∀ d3, Mg key x N d2 d3 → St key 0 N d0 d3 ∧ Bk key bb N d3) := hide fun d3 M => ⟨HS.out.trans (M.st.mono (Nat.zero_le _) (Nat.le_refl _) (by have := hd2.out; omega)), by
                  have M' := M
                  rw [ex.out] at M'
                  rw [Hbb.out]
                  exact HP.out.end_ M' (by rw [← ey.out]; omega)⟩
                clear hxy hm S2 HS HP hkx2
                go_wp2_with (go_at_fn 43; refine C1.out.mono ?_; rintro e w3 ⟨rfl, d3, M3, S3'⟩; have S3 : Aside (SWK enc k w0 blk off d3 w3) := S3'; have P3 := hide (PE.out d3 M3); clear S3' C1 M3 PE)
                go_roundg (N - bb)
                case measure => have := Hbb.out; omega
                case rel => exact ⟨bb, d3, rfl, by have := Hbb.out; omega, by have := Hbb.out; omega, Nat.le_refl _, S3, hide P3.out.1, hide P3.out.2⟩
              · have hmz : ¬ (m : Int) < (N : Int) := by omega
                have PE : Hid (Bk key bb N d2) := hide (by
                  have g : Up key x N d2 := by
                    have g := HP.out.high (2 * q) (Nat.le_refl _)
                    rw [Nat.add_mul, Nat.one_mul, two_mul_bs, ← ex.out, Nat.min_eq_right (by omega)] at g
                    exact g
                  have M : Mg key x N d2 d2 := Mg.none g
                  rw [ex.out] at M
                  rw [Hbb.out]
                  exact HP.out.end_ M (by rw [← ey.out]; omega))
                have S3 : Aside (SWK enc k w0 blk off d2 wr) := S2.out
                clear hxy hm S2 HP hkx2
                go_wp2
                go_roundg (N - bb)
                case measure => have := Hbb.out; omega
                case rel => exact ⟨bb, d2, rfl, by have := Hbb.out; omega, by have := Hbb.out; omega, Nat.le_refl _, S3, HS, PE⟩
        · have hltz : ¬ (bs : Int) < (N : Int) := by omega
          have HA : Hid (Up key 0 N dk) := hide (HB.out.all (by omega))
          have S3 : Hid (SWK enc k w0 blk off dk wr) := S1.out
          clear S1 HB
          go_wp2
          go_end0
          exact ⟨rfl, dk, HS.out, HA.out, S3.out⟩

end Sb
end Go.Proofs.Ytfmlbcddomggaaa
