/- The library's stable sort: symMergeCmpFunc. -/
import Derived.Test.YtfmlbcddomggaaaQJr
namespace Go.Proofs.Ytfmlbcddomggaaa
open Go.Shelf Go.RowKit Go.Lib Go.Sort
namespace Sb
variable {P : Program} {k : Nat} {α : Type} [Inhabited α] {key : α → Int}

set_option maxHeartbeats 8000000 in
set_option maxRecDepth 1000000 in
theorem sym_mid (L : Ls P k) {enc : α → List Value} {g : Nat} {cb : Array Value} {blk off : Nat} {d0 : Array α} {w0 : World} (G : Gv P k key enc g cb blk off d0 w0) (cap a m b : Nat) (d : Array α) (w : World)
    (hs : d.size = d0.size) (S : SWK enc k w0 blk off d w) (ham1 : a + 1 < m) (hmb1 : m + 1 < b) (hb : b ≤ d.size) (hu1 : Up key a m d) (hu2 : Up key m b d)
    (IH : ∀ (a' m' b' : Nat) (d' : Array α) (w' : World), b' - a' < b - a → d'.size = d0.size → SWK enc k w0 blk off d' w' → a' < m' → m' < b' → b' ≤ d'.size → Up key a' m' d' → Up key m' b' d' →
      Calls P 43 #[.slice (some ⟨blk, off, none⟩) d0.size cap, .int .i64 a', .int .i64 m', .int .i64 b', .func (.func g) #[] cb] w' fun e w'' => e = .returned (.tuple #[]) ∧ ∃ d'' : Array α, Mg key a' b' d' d'' ∧ SWK enc k w0 blk off d'' w'') :
    Calls P 43 #[.slice (some ⟨blk, off, none⟩) d0.size cap, .int .i64 a, .int .i64 m, .int .i64 b, .func (.func g) #[] cb] w fun e w' => e = .returned (.tuple #[]) ∧ ∃ d' : Array α, Mg key a b d d' ∧ SWK enc k w0 blk off d' w' := by
  have mixed := L.mixed; have t0 := L.t0; have a0 := L.a0; have z0 := L.z0; have v0 := L.v0; have t3 := L.t3; have a3 := L.a3; have z3 := L.z3; have v3 := L.v3; have t4 := L.t4; have a4 := L.a4; have z4 := L.z4; have v4 := L.v4; have tp := L.tp; have ap := L.ap; have zp := L.zp; have vp := L.vp; have tf := L.tf; have af := L.af; have zf := L.zf; have vf := L.vf; have tu := L.tu; have au := L.au; have zu := L.zu; have vu := L.vu; have aE := L.aE; have zE := L.zE
  have FG := L.fSy
  have eg := G.eg
  have eRo : ∀ args w, (callFunc 44 args).run P w = .ok (.enter 44 args) w := enters_of L.fRo (by kernel_rfl) rfl
  have eSy : ∀ args w, (callFunc 43 args).run P w = .ok (.enter 43 args) w := enters_of L.fSy (by kernel_rfl) rfl
  have S0 : Aside (SWK enc k w0 blk off d w) := S
  have HG := hide G
  have hsz := G.size
  have HIH := hide IH
  have HU1 := hide hu1
  have HU2 := hide hu2
  have HN := hide hs
  have HL := hide L
  obtain ⟨N, eN⟩ : ∃ N, N = d0.size := ⟨_, rfl⟩
  rw [← eN] at hsz hs HIH ⊢
  have HNe := hide eN
  have HdN : Hid (d.size = N) := hide hs
  have hbN : b ≤ N := by omega
  have r1 : IntKind.i64.wrap ((m : Int) - (a : Int)) = ((m - a : Nat) : Int) := by rw [IntKind.wrap_i64]; omega
  obtain ⟨ma, hma⟩ : ∃ ma, ma = m - a := ⟨_, rfl⟩
  rw [← hma] at r1
  have r1c : ((ma : Int) == 1) = false := by simp; omega
  have r2 : IntKind.i64.wrap ((b : Int) - (m : Int)) = ((b - m : Nat) : Int) := by rw [IntKind.wrap_i64]; omega
  obtain ⟨bm, hbm⟩ : ∃ bm, bm = b - m := ⟨_, rfl⟩
  rw [← hbm] at r2
  have r2c : ((bm : Int) == 1) = false := by simp; omega
  obtain ⟨mid, hmid⟩ : ∃ mid, mid = (a + b) / 2 := ⟨_, rfl⟩
  have r3 : IntKind.i64.wrap ((a : Int) + (b : Int)) = ((a + b : Nat) : Int) := by rw [IntKind.wrap_i64]; omega
  have r4 : ((a : Int) + (b : Int)) / 2 = (mid : Int) := by omega
  obtain ⟨n, hn⟩ : ∃ n, n = mid + m := ⟨_, rfl⟩
  have r5 : IntKind.i64.wrap ((mid : Int) + (m : Int)) = (n : Int) := by rw [IntKind.wrap_i64]; omega
  have r6 : IntKind.i64.wrap ((n : Int) - 1) = ((n - 1 : Nat) : Int) := by rw [IntKind.wrap_i64]; omega
  obtain ⟨p, hp⟩ : ∃ p, p = n - 1 := ⟨_, rfl⟩
  rw [← hp] at r6
  have r7 : m > mid → IntKind.i64.wrap ((n : Int) - (b : Int)) = ((n - b : Nat) : Int) := fun h => by rw [IntKind.wrap_i64]; omega
  have Hmid := hide hmid
  have Hn := hide hn
  have Hp := hide hp
  have am : a < m := by omega
  have mb : m < b := by omega
  have amid : a < mid := by omega
  have midb : mid < b := by omega
  clear S L G hu1 hu2 hs eN IH hma hbm hmid hn hp ham1 hmb1 hb
  go_enter FG, Try.ntmps43
  by_cases hgt : m > mid
  · have r7' := r7 hgt
    have hgtz : (mid : Int) < (m : Int) := by omega
    clear r7
    obtain ⟨s0, hs0⟩ : ∃ s0, s0 = n - b := ⟨_, rfl⟩
    obtain ⟨r0, hr0⟩ : ∃ r0, r0 = mid := ⟨_, rfl⟩
    have Hs : Hid (s0 = if m > mid then mid + m - b else a) := hide (by rw [if_pos hgt, hs0]; have := Hn.out; omega)
    have Hr : Hid (r0 = if m > mid then mid else m) := hide (by rw [if_pos hgt, hr0])
    have RNG : Hid (∀ x, s0 ≤ x → x < r0 → a ≤ x ∧ x < m ∧ m ≤ p - x ∧ p - x < b ∧ x ≤ p) := hide fun x h1 h2 => by have := Hn.out; have := Hp.out; have := Hmid.out; omega
    have hsr : s0 ≤ r0 := by have := Hn.out; have := Hmid.out; omega
    rw [← hs0] at r7'
    clear hgt
    go_wp2
    go_loopg [20, 21] (r0 - s0) (fun kx s20 s21 wr => ∃ (st r : Nat), s20 = .int .i64 st ∧ s21 = .int .i64 r ∧ s0 ≤ st ∧ st ≤ r ∧ r ≤ r0 ∧ r - st ≤ kx ∧ Aside (SWK enc k w0 blk off d wr) ∧ Hid (∀ x, s0 ≤ x → x < st → key d[x]! ≤ key d[p - x]!) ∧ Hid (∀ x, r ≤ x → x < r0 → key d[p - x]! < key d[x]!))
    case atStart => exact ⟨s0, r0, by rw [hs0], by rw [hr0], Nat.le_refl _, hsr, Nat.le_refl _, Nat.le_refl _, S0, hide (fun x h1 h2 => by omega), hide (fun x h1 h2 => by omega)⟩
    case round =>
      clear S0
      obtain ⟨st, r, rfl, rfl, hst, hsr', hrr, hkx, S1, HLo, HHi⟩ := hrel
      have Hs0 := hide hs0
      have Hr0 := hide hr0
      clear hs0 hr0 hsr
      by_cases hlt : st < r
      · have hltz : (st : Int) < (r : Int) := by omega
        obtain ⟨c, hc0⟩ : ∃ c, c = (st + r) / 2 := ⟨_, rfl⟩
        obtain ⟨g1, g2, g3, g4, g5⟩ := RNG.out c (by omega) (by omega)
        have q2 : IntKind.i64.wrap ((st : Int) + (r : Int)) = ((st + r : Nat) : Int) := by rw [IntKind.wrap_i64]; omega
        obtain ⟨pc, hpc⟩ : ∃ pc, pc = p - c := ⟨_, rfl⟩
        have q3 : IntKind.i64.wrap ((p : Int) - (c : Int)) = (pc : Int) := by rw [IntKind.wrap_i64]; omega
        go_wp2_with fail
        have e2 : ((st : Int) + (r : Int)) / 2 = (c : Int) := by omega
        rw [e2]
        have hsc : st ≤ c := by omega
        have hcr : c < r := by omega
        have LO : Hid (∀ x, s0 ≤ x → x ≤ c → key d[c]! ≤ key d[pc]! → key d[x]! ≤ key d[p - x]!) := hide fun x h1 h2 h3 => by
          obtain ⟨k1, k2, k3, k4, k5⟩ := RNG.out x h1 (by omega)
          have := HU1.out x c k1 h2 g2
          have := HU2.out pc (p - x) (by omega) (by omega) k4
          omega
        have HI : Hid (∀ x, c ≤ x → x < r0 → key d[pc]! < key d[c]! → key d[p - x]! < key d[x]!) := hide fun x h1 h2 h3 => by
          obtain ⟨k1, k2, k3, k4, k5⟩ := RNG.out x (by omega) h2
          have := HU1.out c x g1 h1 k2
          have := HU2.out (p - x) pc k3 (by omega) (by omega)
          omega
        have bx : (pc : Int) < (N : Int) := by omega
        have by_ : (c : Int) < (N : Int) := by omega
        have npc : pc < d.size := by have := HdN.out; omega
        have nc : c < d.size := by have := HdN.out; omega
        obtain ⟨vx, hvx⟩ : ∃ v, v = d[pc]! := ⟨_, rfl⟩
        obtain ⟨vy, hvy⟩ : ∃ v, v = d[c]! := ⟨_, rfl⟩
        have lx := S1.out.ld HG.out.row HN.out P pc npc
        have ly := S1.out.ld HG.out.row HN.out P c nc
        rw [← hvx] at lx
        rw [← hvy] at ly
        have hc := S1.out.cmp HG.out.cmp HN.out vx vy
        have hkv : Hid (key vx = key d[pc]! ∧ key vy = key d[c]!) := hide ⟨by rw [hvx], by rw [hvy]⟩
        have hlt' := cmp_lt (key := key) vx vy
        generalize Lib.compareInt (key vx) (key vy) = cv at hc hlt'
        have HLT := hide hlt'
        clear hvx hvy hlt' hc0 e2 q2 g3 g4 g5 npc nc hpc
        by_cases hcv : cv < 0
        · have hdv : decide (cv < 0) = true := decide_eq_true hcv
          have hhigh : Hid (∀ x, c ≤ x → x < r0 → key d[p - x]! < key d[x]!) := hide fun x h1 h2 => HI.out x h1 h2 (by have q := HLT.out.1 hcv; rw [hkv.out.1, hkv.out.2] at q; exact q)
          go_wp2_with fail
          go_quiet_grown (first | (go_at_fn g; refine Calls.grown_of (hc _ _)))
          have S2 : Aside (SWK enc k w0 blk off d (grow (wr.drewN nq) osq)) := S1.out.grown nq osq
          clear lx ly hc S1
          generalize grow (wr.drewN nq) osq = wu2 at S2 ⊢
          clear nq osq
          go_wp2
          go_roundg (c - st)
          case measure => omega
          case rel => exact ⟨st, c, rfl, rfl, hst, hsc, by omega, Nat.le_refl _, S2, HLo, hhigh⟩
        · have hdv : decide (cv < 0) = false := decide_eq_false hcv
          have hlow : Hid (∀ x, s0 ≤ x → x < c + 1 → key d[x]! ≤ key d[p - x]!) := hide fun x h1 h2 => LO.out x h1 (by omega) (by have q : ¬ key vx < key vy := fun z => hcv (HLT.out.2 z); rw [hkv.out.1, hkv.out.2] at q; omega)
          go_wp2_with fail
          go_quiet_grown (first | (go_at_fn g; refine Calls.grown_of (hc _ _)))
          have S2 : Aside (SWK enc k w0 blk off d (grow (wr.drewN nq) osq)) := S1.out.grown nq osq
          clear lx ly hc S1
          generalize grow (wr.drewN nq) osq = wu2 at S2 ⊢
          clear nq osq
          go_wp2
          go_roundg (r - (c + 1))
          case measure => omega
          case rel => exact ⟨c + 1, r, by go_num, rfl, by omega, by omega, hrr, Nat.le_refl _, S2, hlow, HHi⟩
      · have hltz : ¬ (st : Int) < (r : Int) := by omega
        obtain rfl : st = r := by omega
        have CUT : Hid (Cut key a m b mid st d) := hide (Cut.of am mb Hmid.out HU1.out HU2.out Hs.out Hr.out hst hrr (fun x h1 h2 => by have q := HLo.out x h1 h2; have := Hn.out; have := Hp.out; rw [show mid + m - 1 - x = p - x by omega]; exact Int.not_lt.2 q) (fun x h1 h2 => by have q := HHi.out x h1 h2; have := Hn.out; have := Hp.out; rw [show mid + m - 1 - x = p - x by omega]; exact q))
        have k0 := CUT.out.s0
        have k1 := CUT.out.s1
        have k2 := CUT.out.s2
        have k3 := CUT.out.e0
        obtain ⟨en, hen⟩ : ∃ en, en = n - st := ⟨_, rfl⟩
        have hen2 : mid + m - st = en := by have := Hn.out; omega
        rw [hen2] at k3
        have q4 : IntKind.i64.wrap ((n : Int) - (st : Int)) = (en : Int) := by have := Hn.out; rw [IntKind.wrap_i64]; omega
        have Hen := hide hen
        have k4 : mid ≤ en := by omega
        have k5 : en + st = mid + m := by omega
        have PARTS : Hid (∃ A X Y B : List α, d.toList = A ++ (X ++ (Y ++ B)) ∧ A.length = st ∧ X.length = m - st ∧ Y.length = en - m ∧ ∀ d1 : Array α, d1.toList = A ++ (Y ++ (X ++ B)) → Half key a st mid en b d d1) := hide (by
          have hY : mid + m - st - m = en - m := by omega
          by_cases hme : m ≤ en
          · obtain ⟨A, X, Y, B, h1, h2, h3, h4⟩ := parts d st m en k1 hme (by have := HdN.out; omega)
            refine ⟨A, X, Y, B, h1, h2, h3, h4, fun d1 hd1 => ?_⟩
            have := Half.of A X Y B (by have := HdN.out; omega) (by omega) (by omega) CUT.out HU1.out HU2.out h1 hd1 h2 h3 (by omega)
            rwa [hen2] at this
          · exfalso; omega)
        clear hen hen2 HLo HHi Hs Hr RNG hltz hlt hkx
        rcases (by omega : (st < m ∧ m < en) ∨ ¬ st < m ∨ (st < m ∧ ¬ m < en)) with ⟨o1, o2⟩ | o1 | ⟨o1, o2⟩
        · rcases (by omega : (a < st ∧ st < mid) ∨ ¬ a < st ∨ (a < st ∧ ¬ st < mid)) with ⟨p1, p2⟩ | p1 | ⟨p1, p2⟩
          · rcases (by omega : (mid < en ∧ en < b) ∨ ¬ mid < en ∨ (mid < en ∧ ¬ en < b)) with ⟨q1, q2⟩ | q1 | ⟨q1, q2⟩
            · have x1 : (st : Int) < (m : Int) := by omega
              have x2 : (m : Int) < (en : Int) := by omega
              have y1 : (a : Int) < (st : Int) := by omega
              have y2 : (st : Int) < (mid : Int) := by omega
              have z1 : (mid : Int) < (en : Int) := by omega
              have z2 : (en : Int) < (b : Int) := by omega
              obtain ⟨A, X, Y, B, h1, h2, h3, h4, h5⟩ := PARTS.out
              have CR : Hid (Calls P 44 #[.slice (some ⟨blk, off, none⟩) N cap, .int .i64 st, .int .i64 m, .int .i64 en, .func (.func g) #[] cb] wr fun e w' => e = .returned (.tuple #[]) ∧ ∃ d' : Array α, d'.toList = A ++ (Y ++ (X ++ B)) ∧ d'.size = d.size ∧ SWK enc k w0 blk off d' w') := hide (by
                have := rotate_any HL.out enc (.func (.func g) #[] cb) blk off cap st m en d0 d (A ++ (Y ++ (X ++ B))) w0 wr HG.out.row HN.out S1.out o1 o2 ⟨A, X, Y, B, h1, by omega, h3, h4, rfl⟩ (by have := HdN.out; omega)
                rw [HdN.out] at this
                rw [HdN.out]
                exact this)
              have H5 := hide h5
              clear h1 h2 h3 h4 h5 PARTS S1
              go_wp2_with (first | (go_at_fn 44; refine CR.out.mono ?_; rintro e w7 ⟨rfl, d7, T7, Z7, S7'⟩; have HALF := hide (H5.out d7 T7); have S7 : Aside (SWK enc k w0 blk off d7 w7) := S7'; have HZ1 : Hid (d7.size = N) := hide (Z7.trans HdN.out); clear T7 Z7 S7' CR H5) | (go_at_fn 43; refine (HIH.out a st mid d7 w7 (by omega) (by have := HZ1.out; have := HNe.out; omega) S7.out p1 p2 (by have := HZ1.out; omega) HALF.out.u1 HALF.out.u2).mono ?_; rintro e w8 ⟨rfl, d8, M8', S8'⟩; have M8 := hide M8'; have S8 : Aside (SWK enc k w0 blk off d8 w8) := S8'; clear M8' S8') | (go_at_fn 43; refine (HIH.out mid en b d8 w8 (by omega) (by have := M8.out.st.size; have := HZ1.out; have := HNe.out; omega) S8.out q1 q2 (by have := M8.out.st.size; have := HZ1.out; have := HNe.out; omega) (HALF.out.u3.same fun i h1 h2 => M8.out.st.out i (by omega)) (HALF.out.u4.same fun i h1 h2 => M8.out.st.out i (by omega))).mono ?_; rintro e w9 ⟨rfl, d9, M9', S9'⟩; have M9 := hide M9'; have S9 : Aside (SWK enc k w0 blk off d9 w9) := S9'; clear M9' S9'))
              have SE : Hid (SWK enc k w0 blk off d9 _) := S9.out
              clear S9
              go_end0
              exact ⟨rfl, d9, HALF.out.done (by omega) (by omega) (by have := HdN.out; omega) M8.out M9.out, SE.out⟩
            · have x1 : (st : Int) < (m : Int) := by omega
              have x2 : (m : Int) < (en : Int) := by omega
              have y1 : (a : Int) < (st : Int) := by omega
              have y2 : (st : Int) < (mid : Int) := by omega
              have z1 : ¬ (mid : Int) < (en : Int) := by omega
              obtain ⟨A, X, Y, B, h1, h2, h3, h4, h5⟩ := PARTS.out
              have CR : Hid (Calls P 44 #[.slice (some ⟨blk, off, none⟩) N cap, .int .i64 st, .int .i64 m, .int .i64 en, .func (.func g) #[] cb] wr fun e w' => e = .returned (.tuple #[]) ∧ ∃ d' : Array α, d'.toList = A ++ (Y ++ (X ++ B)) ∧ d'.size = d.size ∧ SWK enc k w0 blk off d' w') := hide (by
                have := rotate_any HL.out enc (.func (.func g) #[] cb) blk off cap st m en d0 d (A ++ (Y ++ (X ++ B))) w0 wr HG.out.row HN.out S1.out o1 o2 ⟨A, X, Y, B, h1, by omega, h3, h4, rfl⟩ (by have := HdN.out; omega)
                rw [HdN.out] at this
                rw [HdN.out]
                exact this)
              have H5 := hide h5
              clear h1 h2 h3 h4 h5 PARTS S1
              go_wp2_with (first | (go_at_fn 44; refine CR.out.mono ?_; rintro e w7 ⟨rfl, d7, T7, Z7, S7'⟩; have HALF := hide (H5.out d7 T7); have S7 : Aside (SWK enc k w0 blk off d7 w7) := S7'; have HZ1 : Hid (d7.size = N) := hide (Z7.trans HdN.out); clear T7 Z7 S7' CR H5) | (go_at_fn 43; refine (HIH.out a st mid d7 w7 (by omega) (by have := HZ1.out; have := HNe.out; omega) S7.out p1 p2 (by have := HZ1.out; omega) HALF.out.u1 HALF.out.u2).mono ?_; rintro e w8 ⟨rfl, d8, M8', S8'⟩; have M8 := hide M8'; have S8 : Aside (SWK enc k w0 blk off d8 w8) := S8'; clear M8' S8'))
              have M9 : Hid (Mg key mid b d8 d8) := hide (Mg.none (by have e := (HALF.out.u4.same fun i h1 h2 => M8.out.st.out i (by omega)); rw [show en = mid by omega] at e; exact e))
              have SE : Hid (SWK enc k w0 blk off d8 _) := S8.out
              clear S8
              go_end0
              exact ⟨rfl, d8, HALF.out.done (by omega) (by omega) (by have := HdN.out; omega) M8.out M9.out, SE.out⟩
            · have x1 : (st : Int) < (m : Int) := by omega
              have x2 : (m : Int) < (en : Int) := by omega
              have y1 : (a : Int) < (st : Int) := by omega
              have y2 : (st : Int) < (mid : Int) := by omega
              have z1 : (mid : Int) < (en : Int) := by omega
              have z2 : ¬ (en : Int) < (b : Int) := by omega
              obtain ⟨A, X, Y, B, h1, h2, h3, h4, h5⟩ := PARTS.out
              have CR : Hid (Calls P 44 #[.slice (some ⟨blk, off, none⟩) N cap, .int .i64 st, .int .i64 m, .int .i64 en, .func (.func g) #[] cb] wr fun e w' => e = .returned (.tuple #[]) ∧ ∃ d' : Array α, d'.toList = A ++ (Y ++ (X ++ B)) ∧ d'.size = d.size ∧ SWK enc k w0 blk off d' w') := hide (by
                have := rotate_any HL.out enc (.func (.func g) #[] cb) blk off cap st m en d0 d (A ++ (Y ++ (X ++ B))) w0 wr HG.out.row HN.out S1.out o1 o2 ⟨A, X, Y, B, h1, by omega, h3, h4, rfl⟩ (by have := HdN.out; omega)
                rw [HdN.out] at this
                rw [HdN.out]
                exact this)
              have H5 := hide h5
              clear h1 h2 h3 h4 h5 PARTS S1
              go_wp2_with (first | (go_at_fn 44; refine CR.out.mono ?_; rintro e w7 ⟨rfl, d7, T7, Z7, S7'⟩; have HALF := hide (H5.out d7 T7); have S7 : Aside (SWK enc k w0 blk off d7 w7) := S7'; have HZ1 : Hid (d7.size = N) := hide (Z7.trans HdN.out); clear T7 Z7 S7' CR H5) | (go_at_fn 43; refine (HIH.out a st mid d7 w7 (by omega) (by have := HZ1.out; have := HNe.out; omega) S7.out p1 p2 (by have := HZ1.out; omega) HALF.out.u1 HALF.out.u2).mono ?_; rintro e w8 ⟨rfl, d8, M8', S8'⟩; have M8 := hide M8'; have S8 : Aside (SWK enc k w0 blk off d8 w8) := S8'; clear M8' S8'))
              have M9 : Hid (Mg key mid b d8 d8) := hide (Mg.none (by have e := (HALF.out.u3.same fun i h1 h2 => M8.out.st.out i (by omega)); rw [show en = b by omega] at e; exact e))
              have SE : Hid (SWK enc k w0 blk off d8 _) := S8.out
              clear S8
              go_end0
              exact ⟨rfl, d8, HALF.out.done (by omega) (by omega) (by have := HdN.out; omega) M8.out M9.out, SE.out⟩
          · rcases (by omega : (mid < en ∧ en < b) ∨ ¬ mid < en ∨ (mid < en ∧ ¬ en < b)) with ⟨q1, q2⟩ | q1 | ⟨q1, q2⟩
            · have x1 : (st : Int) < (m : Int) := by omega
              have x2 : (m : Int) < (en : Int) := by omega
              have y1 : ¬ (a : Int) < (st : Int) := by omega
              have z1 : (mid : Int) < (en : Int) := by omega
              have z2 : (en : Int) < (b : Int) := by omega
              obtain ⟨A, X, Y, B, h1, h2, h3, h4, h5⟩ := PARTS.out
              have CR : Hid (Calls P 44 #[.slice (some ⟨blk, off, none⟩) N cap, .int .i64 st, .int .i64 m, .int .i64 en, .func (.func g) #[] cb] wr fun e w' => e = .returned (.tuple #[]) ∧ ∃ d' : Array α, d'.toList = A ++ (Y ++ (X ++ B)) ∧ d'.size = d.size ∧ SWK enc k w0 blk off d' w') := hide (by
                have := rotate_any HL.out enc (.func (.func g) #[] cb) blk off cap st m en d0 d (A ++ (Y ++ (X ++ B))) w0 wr HG.out.row HN.out S1.out o1 o2 ⟨A, X, Y, B, h1, by omega, h3, h4, rfl⟩ (by have := HdN.out; omega)
                rw [HdN.out] at this
                rw [HdN.out]
                exact this)
              have H5 := hide h5
              clear h1 h2 h3 h4 h5 PARTS S1
              go_wp2_with (first | (go_at_fn 44; refine CR.out.mono ?_; rintro e w7 ⟨rfl, d7, T7, Z7, S7'⟩; have HALF := hide (H5.out d7 T7); have S7 : Aside (SWK enc k w0 blk off d7 w7) := S7'; have HZ1 : Hid (d7.size = N) := hide (Z7.trans HdN.out); clear T7 Z7 S7' CR H5) | (go_at_fn 43; refine (HIH.out mid en b d7 w7 (by omega) (by have := HZ1.out; have := HNe.out; omega) S7.out q1 q2 (by have := HZ1.out; have := HNe.out; omega) HALF.out.u3 HALF.out.u4).mono ?_; rintro e w9 ⟨rfl, d9, M9', S9'⟩; have M9 := hide M9'; have S9 : Aside (SWK enc k w0 blk off d9 w9) := S9'; clear M9' S9'))
              have M8 : Hid (Mg key a mid d7 d7) := hide (Mg.none (by have e := HALF.out.u2; rw [show st = a by omega] at e; exact e))
              have SE : Hid (SWK enc k w0 blk off d9 _) := S9.out
              clear S9
              go_end0
              exact ⟨rfl, d9, HALF.out.done (by omega) (by omega) (by have := HdN.out; omega) M8.out M9.out, SE.out⟩
            · have x1 : (st : Int) < (m : Int) := by omega
              have x2 : (m : Int) < (en : Int) := by omega
              have y1 : ¬ (a : Int) < (st : Int) := by omega
              have z1 : ¬ (mid : Int) < (en : Int) := by omega
              obtain ⟨A, X, Y, B, h1, h2, h3, h4, h5⟩ := PARTS.out
              have CR : Hid (Calls P 44 #[.slice (some ⟨blk, off, none⟩) N cap, .int .i64 st, .int .i64 m, .int .i64 en, .func (.func g) #[] cb] wr fun e w' => e = .returned (.tuple #[]) ∧ ∃ d' : Array α, d'.toList = A ++ (Y ++ (X ++ B)) ∧ d'.size = d.size ∧ SWK enc k w0 blk off d' w') := hide (by
                have := rotate_any HL.out enc (.func (.func g) #[] cb) blk off cap st m en d0 d (A ++ (Y ++ (X ++ B))) w0 wr HG.out.row HN.out S1.out o1 o2 ⟨A, X, Y, B, h1, by omega, h3, h4, rfl⟩ (by have := HdN.out; omega)
                rw [HdN.out] at this
                rw [HdN.out]
                exact this)
              have H5 := hide h5
              clear h1 h2 h3 h4 h5 PARTS S1
              go_wp2_with (go_at_fn 44; refine CR.out.mono ?_; rintro e w7 ⟨rfl, d7, T7, Z7, S7'⟩; have HALF := hide (H5.out d7 T7); have S7 : Aside (SWK enc k w0 blk off d7 w7) := S7'; have HZ1 : Hid (d7.size = N) := hide (Z7.trans HdN.out); clear T7 Z7 S7' CR H5)
              have M8 : Hid (Mg key a mid d7 d7) := hide (Mg.none (by have e := HALF.out.u2; rw [show st = a by omega] at e; exact e))
              have M9 : Hid (Mg key mid b d7 d7) := hide (Mg.none (by have e := HALF.out.u4; rw [show en = mid by omega] at e; exact e))
              have SE : Hid (SWK enc k w0 blk off d7 _) := S7.out
              clear S7
              go_end0
              exact ⟨rfl, d7, HALF.out.done (by omega) (by omega) (by have := HdN.out; omega) M8.out M9.out, SE.out⟩
            · have x1 : (st : Int) < (m : Int) := by omega
              have x2 : (m : Int) < (en : Int) := by omega
              have y1 : ¬ (a : Int) < (st : Int) := by omega
              have z1 : (mid : Int) < (en : Int) := by omega
              have z2 : ¬ (en : Int) < (b : Int) := by omega
              obtain ⟨A, X, Y, B, h1, h2, h3, h4, h5⟩ := PARTS.out
              have CR : Hid (Calls P 44 #[.slice (some ⟨blk, off, none⟩) N cap, .int .i64 st, .int .i64 m, .int .i64 en, .func (.func g) #[] cb] wr fun e w' => e = .returned (.tuple #[]) ∧ ∃ d' : Array α, d'.toList = A ++ (Y ++ (X ++ B)) ∧ d'.size = d.size ∧ SWK enc k w0 blk off d' w') := hide (by
                have := rotate_any HL.out enc (.func (.func g) #[] cb) blk off cap st m en d0 d (A ++ (Y ++ (X ++ B))) w0 wr HG.out.row HN.out S1.out o1 o2 ⟨A, X, Y, B, h1, by omega, h3, h4, rfl⟩ (by have := HdN.out; omega)
                rw [HdN.out] at this
                rw [HdN.out]
                exact this)
              have H5 := hide h5
              clear h1 h2 h3 h4 h5 PARTS S1
              go_wp2_with (go_at_fn 44; refine CR.out.mono ?_; rintro e w7 ⟨rfl, d7, T7, Z7, S7'⟩; have HALF := hide (H5.out d7 T7); have S7 : Aside (SWK enc k w0 blk off d7 w7) := S7'; have HZ1 : Hid (d7.size = N) := hide (Z7.trans HdN.out); clear T7 Z7 S7' CR H5)
              have M8 : Hid (Mg key a mid d7 d7) := hide (Mg.none (by have e := HALF.out.u2; rw [show st = a by omega] at e; exact e))
              have M9 : Hid (Mg key mid b d7 d7) := hide (Mg.none (by have e := HALF.out.u3; rw [show en = b by omega] at e; exact e))
              have SE : Hid (SWK enc k w0 blk off d7 _) := S7.out
              clear S7
              go_end0
              exact ⟨rfl, d7, HALF.out.done (by omega) (by omega) (by have := HdN.out; omega) M8.out M9.out, SE.out⟩
          · rcases (by omega : (mid < en ∧ en < b) ∨ ¬ mid < en ∨ (mid < en ∧ ¬ en < b)) with ⟨q1, q2⟩ | q1 | ⟨q1, q2⟩
            · have x1 : (st : Int) < (m : Int) := by omega
              have x2 : (m : Int) < (en : Int) := by omega
              have y1 : (a : Int) < (st : Int) := by omega
              have y2 : ¬ (st : Int) < (mid : Int) := by omega
              have z1 : (mid : Int) < (en : Int) := by omega
              have z2 : (en : Int) < (b : Int) := by omega
              obtain ⟨A, X, Y, B, h1, h2, h3, h4, h5⟩ := PARTS.out
              have CR : Hid (Calls P 44 #[.slice (some ⟨blk, off, none⟩) N cap, .int .i64 st, .int .i64 m, .int .i64 en, .func (.func g) #[] cb] wr fun e w' => e = .returned (.tuple #[]) ∧ ∃ d' : Array α, d'.toList = A ++ (Y ++ (X ++ B)) ∧ d'.size = d.size ∧ SWK enc k w0 blk off d' w') := hide (by
                have := rotate_any HL.out enc (.func (.func g) #[] cb) blk off cap st m en d0 d (A ++ (Y ++ (X ++ B))) w0 wr HG.out.row HN.out S1.out o1 o2 ⟨A, X, Y, B, h1, by omega, h3, h4, rfl⟩ (by have := HdN.out; omega)
                rw [HdN.out] at this
                rw [HdN.out]
                exact this)
              have H5 := hide h5
              clear h1 h2 h3 h4 h5 PARTS S1
              go_wp2_with (first | (go_at_fn 44; refine CR.out.mono ?_; rintro e w7 ⟨rfl, d7, T7, Z7, S7'⟩; have HALF := hide (H5.out d7 T7); have S7 : Aside (SWK enc k w0 blk off d7 w7) := S7'; have HZ1 : Hid (d7.size = N) := hide (Z7.trans HdN.out); clear T7 Z7 S7' CR H5) | (go_at_fn 43; refine (HIH.out mid en b d7 w7 (by omega) (by have := HZ1.out; have := HNe.out; omega) S7.out q1 q2 (by have := HZ1.out; have := HNe.out; omega) HALF.out.u3 HALF.out.u4).mono ?_; rintro e w9 ⟨rfl, d9, M9', S9'⟩; have M9 := hide M9'; have S9 : Aside (SWK enc k w0 blk off d9 w9) := S9'; clear M9' S9'))
              have M8 : Hid (Mg key a mid d7 d7) := hide (Mg.none (by have e := HALF.out.u1; rw [show st = mid by omega] at e; exact e))
              have SE : Hid (SWK enc k w0 blk off d9 _) := S9.out
              clear S9
              go_end0
              exact ⟨rfl, d9, HALF.out.done (by omega) (by omega) (by have := HdN.out; omega) M8.out M9.out, SE.out⟩
            · have x1 : (st : Int) < (m : Int) := by omega
              have x2 : (m : Int) < (en : Int) := by omega
              have y1 : (a : Int) < (st : Int) := by omega
              have y2 : ¬ (st : Int) < (mid : Int) := by omega
              have z1 : ¬ (mid : Int) < (en : Int) := by omega
              obtain ⟨A, X, Y, B, h1, h2, h3, h4, h5⟩ := PARTS.out
              have CR : Hid (Calls P 44 #[.slice (some ⟨blk, off, none⟩) N cap, .int .i64 st, .int .i64 m, .int .i64 en, .func (.func g) #[] cb] wr fun e w' => e = .returned (.tuple #[]) ∧ ∃ d' : Array α, d'.toList = A ++ (Y ++ (X ++ B)) ∧ d'.size = d.size ∧ SWK enc k w0 blk off d' w') := hide (by
                have := rotate_any HL.out enc (.func (.func g) #[] cb) blk off cap st m en d0 d (A ++ (Y ++ (X ++ B))) w0 wr HG.out.row HN.out S1.out o1 o2 ⟨A, X, Y, B, h1, by omega, h3, h4, rfl⟩ (by have := HdN.out; omega)
                rw [HdN.out] at this
                rw [HdN.out]
                exact this)
              have H5 := hide h5
              clear h1 h2 h3 h4 h5 PARTS S1
              go_wp2_with (go_at_fn 44; refine CR.out.mono ?_; rintro e w7 ⟨rfl, d7, T7, Z7, S7'⟩; have HALF := hide (H5.out d7 T7); have S7 : Aside (SWK enc k w0 blk off d7 w7) := S7'; have HZ1 : Hid (d7.size = N) := hide (Z7.trans HdN.out); clear T7 Z7 S7' CR H5)
              have M8 : Hid (Mg key a mid d7 d7) := hide (Mg.none (by have e := HALF.out.u1; rw [show st = mid by omega] at e; exact e))
              have M9 : Hid (Mg key mid b d7 d7) := hide (Mg.none (by have e := HALF.out.u4; rw [show en = mid by omega] at e; exact e))
              have SE : Hid (SWK enc k w0 blk off d7 _) := S7.out
              clear S7
              go_end0
              exact ⟨rfl, d7, HALF.out.done (by omega) (by omega) (by have := HdN.out; omega) M8.out M9.out, SE.out⟩
            · have x1 : (st : Int) < (m : Int) := by omega
              have x2 : (m : Int) < (en : Int) := by omega
              have y1 : (a : Int) < (st : Int) := by omega
              have y2 : ¬ (st : Int) < (mid : Int) := by omega
              have z1 : (mid : Int) < (en : Int) := by omega
              have z2 : ¬ (en : Int) < (b : Int) := by omega
              obtain ⟨A, X, Y, B, h1, h2, h3, h4, h5⟩ := PARTS.out
              have CR : Hid (Calls P 44 #[.slice (some ⟨blk, off, none⟩) N cap, .int .i64 st, .int .i64 m, .int .i64 en, .func (.func g) #[] cb] wr fun e w' => e = .returned (.tuple #[]) ∧ ∃ d' : Array α, d'.toList = A ++ (Y ++ (X ++ B)) ∧ d'.size = d.size ∧ SWK enc k w0 blk off d' w') := hide (by
                have := rotate_any HL.out enc (.func (.func g) #[] cb) blk off cap st m en d0 d (A ++ (Y ++ (X ++ B))) w0 wr HG.out.row HN.out S1.out o1 o2 ⟨A, X, Y, B, h1, by omega, h3, h4, rfl⟩ (by have := HdN.out; omega)
                rw [HdN.out] at this
                rw [HdN.out]
                exact this)
              have H5 := hide h5
              clear h1 h2 h3 h4 h5 PARTS S1
              go_wp2_with (go_at_fn 44; refine CR.out.mono ?_; rintro e w7 ⟨rfl, d7, T7, Z7, S7'⟩; have HALF := hide (H5.out d7 T7); have S7 : Aside (SWK enc k w0 blk off d7 w7) := S7'; have HZ1 : Hid (d7.size = N) := hide (Z7.trans HdN.out); clear T7 Z7 S7' CR H5)
              have M8 : Hid (Mg key a mid d7 d7) := hide (Mg.none (by have e := HALF.out.u1; rw [show st = mid by omega] at e; exact e))
              have M9 : Hid (Mg key mid b d7 d7) := hide (Mg.none (by have e := HALF.out.u3; rw [show en = b by omega] at e; exact e))
              have SE : Hid (SWK enc k w0 blk off d7 _) := S7.out
              clear S7
              go_end0
              exact ⟨rfl, d7, HALF.out.done (by omega) (by omega) (by have := HdN.out; omega) M8.out M9.out, SE.out⟩
        · rcases (by omega : (a < st ∧ st < mid) ∨ ¬ a < st ∨ (a < st ∧ ¬ st < mid)) with ⟨p1, p2⟩ | p1 | ⟨p1, p2⟩
          · rcases (by omega : (mid < en ∧ en < b) ∨ ¬ mid < en ∨ (mid < en ∧ ¬ en < b)) with ⟨q1, q2⟩ | q1 | ⟨q1, q2⟩
            · have x1 : ¬ (st : Int) < (m : Int) := by omega
              have y1 : (a : Int) < (st : Int) := by omega
              have y2 : (st : Int) < (mid : Int) := by omega
              have z1 : (mid : Int) < (en : Int) := by omega
              have z2 : (en : Int) < (b : Int) := by omega
              have HALF : Hid (Half key a st mid en b d d) := hide (by
                obtain ⟨A, X, Y, B, h1, h2, h3, h4, h5⟩ := PARTS.out
                obtain rfl : X = [] := List.eq_nil_of_length_eq_zero (by omega)
                exact h5 d (by rw [h1]; simp))
              have HZ1 : Hid (d.size = N) := HdN
              clear PARTS
              go_wp2_with (first | (go_at_fn 43; refine (HIH.out a st mid d wr (by omega) (by have := HZ1.out; have := HNe.out; omega) S1.out p1 p2 (by have := HZ1.out; omega) HALF.out.u1 HALF.out.u2).mono ?_; rintro e w8 ⟨rfl, d8, M8', S8'⟩; have M8 := hide M8'; have S8 : Aside (SWK enc k w0 blk off d8 w8) := S8'; clear M8' S8') | (go_at_fn 43; refine (HIH.out mid en b d8 w8 (by omega) (by have := M8.out.st.size; have := HZ1.out; have := HNe.out; omega) S8.out q1 q2 (by have := M8.out.st.size; have := HZ1.out; have := HNe.out; omega) (HALF.out.u3.same fun i h1 h2 => M8.out.st.out i (by omega)) (HALF.out.u4.same fun i h1 h2 => M8.out.st.out i (by omega))).mono ?_; rintro e w9 ⟨rfl, d9, M9', S9'⟩; have M9 := hide M9'; have S9 : Aside (SWK enc k w0 blk off d9 w9) := S9'; clear M9' S9'))
              have SE : Hid (SWK enc k w0 blk off d9 _) := S9.out
              clear S9
              go_end0
              exact ⟨rfl, d9, HALF.out.done (by omega) (by omega) (by have := HdN.out; omega) M8.out M9.out, SE.out⟩
            · have x1 : ¬ (st : Int) < (m : Int) := by omega
              have y1 : (a : Int) < (st : Int) := by omega
              have y2 : (st : Int) < (mid : Int) := by omega
              have z1 : ¬ (mid : Int) < (en : Int) := by omega
              have HALF : Hid (Half key a st mid en b d d) := hide (by
                obtain ⟨A, X, Y, B, h1, h2, h3, h4, h5⟩ := PARTS.out
                obtain rfl : X = [] := List.eq_nil_of_length_eq_zero (by omega)
                exact h5 d (by rw [h1]; simp))
              have HZ1 : Hid (d.size = N) := HdN
              clear PARTS
              go_wp2_with (go_at_fn 43; refine (HIH.out a st mid d wr (by omega) (by have := HZ1.out; have := HNe.out; omega) S1.out p1 p2 (by have := HZ1.out; omega) HALF.out.u1 HALF.out.u2).mono ?_; rintro e w8 ⟨rfl, d8, M8', S8'⟩; have M8 := hide M8'; have S8 : Aside (SWK enc k w0 blk off d8 w8) := S8'; clear M8' S8')
              have M9 : Hid (Mg key mid b d8 d8) := hide (Mg.none (by have e := (HALF.out.u4.same fun i h1 h2 => M8.out.st.out i (by omega)); rw [show en = mid by omega] at e; exact e))
              have SE : Hid (SWK enc k w0 blk off d8 _) := S8.out
              clear S8
              go_end0
              exact ⟨rfl, d8, HALF.out.done (by omega) (by omega) (by have := HdN.out; omega) M8.out M9.out, SE.out⟩
            · have x1 : ¬ (st : Int) < (m : Int) := by omega
              have y1 : (a : Int) < (st : Int) := by omega
              have y2 : (st : Int) < (mid : Int) := by omega
              have z1 : (mid : Int) < (en : Int) := by omega
              have z2 : ¬ (en : Int) < (b : Int) := by omega
              have HALF : Hid (Half key a st mid en b d d) := hide (by
                obtain ⟨A, X, Y, B, h1, h2, h3, h4, h5⟩ := PARTS.out
                obtain rfl : X = [] := List.eq_nil_of_length_eq_zero (by omega)
                exact h5 d (by rw [h1]; simp))
              have HZ1 : Hid (d.size = N) := HdN
              clear PARTS
              go_wp2_with (go_at_fn 43; refine (HIH.out a st mid d wr (by omega) (by have := HZ1.out; have := HNe.out; omega) S1.out p1 p2 (by have := HZ1.out; omega) HALF.out.u1 HALF.out.u2).mono ?_; rintro e w8 ⟨rfl, d8, M8', S8'⟩; have M8 := hide M8'; have S8 : Aside (SWK enc k w0 blk off d8 w8) := S8'; clear M8' S8')
              have M9 : Hid (Mg key mid b d8 d8) := hide (Mg.none (by have e := (HALF.out.u3.same fun i h1 h2 => M8.out.st.out i (by omega)); rw [show en = b by omega] at e; exact e))
              have SE : Hid (SWK enc k w0 blk off d8 _) := S8.out
              clear S8
              go_end0
              exact ⟨rfl, d8, HALF.out.done (by omega) (by omega) (by have := HdN.out; omega) M8.out M9.out, SE.out⟩
          · rcases (by omega : (mid < en ∧ en < b) ∨ ¬ mid < en ∨ (mid < en ∧ ¬ en < b)) with ⟨q1, q2⟩ | q1 | ⟨q1, q2⟩
            · have x1 : ¬ (st : Int) < (m : Int) := by omega
              have y1 : ¬ (a : Int) < (st : Int) := by omega
              have z1 : (mid : Int) < (en : Int) := by omega
              have z2 : (en : Int) < (b : Int) := by omega
              have HALF : Hid (Half key a st mid en b d d) := hide (by
                obtain ⟨A, X, Y, B, h1, h2, h3, h4, h5⟩ := PARTS.out
                obtain rfl : X = [] := List.eq_nil_of_length_eq_zero (by omega)
                exact h5 d (by rw [h1]; simp))
              have HZ1 : Hid (d.size = N) := HdN
              clear PARTS
              go_wp2_with (go_at_fn 43; refine (HIH.out mid en b d wr (by omega) (by have := HZ1.out; have := HNe.out; omega) S1.out q1 q2 (by have := HZ1.out; have := HNe.out; omega) HALF.out.u3 HALF.out.u4).mono ?_; rintro e w9 ⟨rfl, d9, M9', S9'⟩; have M9 := hide M9'; have S9 : Aside (SWK enc k w0 blk off d9 w9) := S9'; clear M9' S9')
              have M8 : Hid (Mg key a mid d d) := hide (Mg.none (by have e := HALF.out.u2; rw [show st = a by omega] at e; exact e))
              have SE : Hid (SWK enc k w0 blk off d9 _) := S9.out
              clear S9
              go_end0
              exact ⟨rfl, d9, HALF.out.done (by omega) (by omega) (by have := HdN.out; omega) M8.out M9.out, SE.out⟩
            · have x1 : ¬ (st : Int) < (m : Int) := by omega
              have y1 : ¬ (a : Int) < (st : Int) := by omega
              have z1 : ¬ (mid : Int) < (en : Int) := by omega
              have HALF : Hid (Half key a st mid en b d d) := hide (by
                obtain ⟨A, X, Y, B, h1, h2, h3, h4, h5⟩ := PARTS.out
                obtain rfl : X = [] := List.eq_nil_of_length_eq_zero (by omega)
                exact h5 d (by rw [h1]; simp))
              have HZ1 : Hid (d.size = N) := HdN
              clear PARTS
              go_wp2
              have M8 : Hid (Mg key a mid d d) := hide (Mg.none (by have e := HALF.out.u2; rw [show st = a by omega] at e; exact e))
              have M9 : Hid (Mg key mid b d d) := hide (Mg.none (by have e := HALF.out.u4; rw [show en = mid by omega] at e; exact e))
              have SE : Hid (SWK enc k w0 blk off d _) := S1.out
              clear S1
              go_end0
              exact ⟨rfl, d, HALF.out.done (by omega) (by omega) (by have := HdN.out; omega) M8.out M9.out, SE.out⟩
            · have x1 : ¬ (st : Int) < (m : Int) := by omega
              have y1 : ¬ (a : Int) < (st : Int) := by omega
              have z1 : (mid : Int) < (en : Int) := by omega
              have z2 : ¬ (en : Int) < (b : Int) := by omega
              have HALF : Hid (Half key a st mid en b d d) := hide (by
                obtain ⟨A, X, Y, B, h1, h2, h3, h4, h5⟩ := PARTS.out
                obtain rfl : X = [] := List.eq_nil_of_length_eq_zero (by omega)
                exact h5 d (by rw [h1]; simp))
              have HZ1 : Hid (d.size = N) := HdN
              clear PARTS
              go_wp2
              have M8 : Hid (Mg key a mid d d) := hide (Mg.none (by have e := HALF.out.u2; rw [show st = a by omega] at e; exact e))
              have M9 : Hid (Mg key mid b d d) := hide (Mg.none (by have e := HALF.out.u3; rw [show en = b by omega] at e; exact e))
              have SE : Hid (SWK enc k w0 blk off d _) := S1.out
              clear S1
              go_end0
              exact ⟨rfl, d, HALF.out.done (by omega) (by omega) (by have := HdN.out; omega) M8.out M9.out, SE.out⟩
          · rcases (by omega : (mid < en ∧ en < b) ∨ ¬ mid < en ∨ (mid < en ∧ ¬ en < b)) with ⟨q1, q2⟩ | q1 | ⟨q1, q2⟩
            · have x1 : ¬ (st : Int) < (m : Int) := by omega
              have y1 : (a : Int) < (st : Int) := by omega
              have y2 : ¬ (st : Int) < (mid : Int) := by omega
              have z1 : (mid : Int) < (en : Int) := by omega
              have z2 : (en : Int) < (b : Int) := by omega
              have HALF : Hid (Half key a st mid en b d d) := hide (by
                obtain ⟨A, X, Y, B, h1, h2, h3, h4, h5⟩ := PARTS.out
                obtain rfl : X = [] := List.eq_nil_of_length_eq_zero (by omega)
                exact h5 d (by rw [h1]; simp))
              have HZ1 : Hid (d.size = N) := HdN
              clear PARTS
              go_wp2_with (go_at_fn 43; refine (HIH.out mid en b d wr (by omega) (by have := HZ1.out; have := HNe.out; omega) S1.out q1 q2 (by have := HZ1.out; have := HNe.out; omega) HALF.out.u3 HALF.out.u4).mono ?_; rintro e w9 ⟨rfl, d9, M9', S9'⟩; have M9 := hide M9'; have S9 : Aside (SWK enc k w0 blk off d9 w9) := S9'; clear M9' S9')
              have M8 : Hid (Mg key a mid d d) := hide (Mg.none (by have e := HALF.out.u1; rw [show st = mid by omega] at e; exact e))
              have SE : Hid (SWK enc k w0 blk off d9 _) := S9.out
              clear S9
              go_end0
              exact ⟨rfl, d9, HALF.out.done (by omega) (by omega) (by have := HdN.out; omega) M8.out M9.out, SE.out⟩
            · have x1 : ¬ (st : Int) < (m : Int) := by omega
              have y1 : (a : Int) < (st : Int) := by omega
              have y2 : ¬ (st : Int) < (mid : Int) := by omega
              have z1 : ¬ (mid : Int) < (en : Int) := by omega
              have HALF : Hid (Half key a st mid en b d d) := hide (by
                obtain ⟨A, X, Y, B, h1, h2, h3, h4, h5⟩ := PARTS.out
                obtain rfl : X = [] := List.eq_nil_of_length_eq_zero (by omega)
                exact h5 d (by rw [h1]; simp))
              have HZ1 : Hid (d.size = N) := HdN
              clear PARTS
              go_wp2
              have M8 : Hid (Mg key a mid d d) := hide (Mg.none (by have e := HALF.out.u1; rw [show st = mid by omega] at e; exact e))
              have M9 : Hid (Mg key mid b d d) := hide (Mg.none (by have e := HALF.out.u4; rw [show en = mid by omega] at e; exact e))
              have SE : Hid (SWK enc k w0 blk off d _) := S1.out
              clear S1
              go_end0
              exact ⟨rfl, d, HALF.out.done (by omega) (by omega) (by have := HdN.out; omega) M8.out M9.out, SE.out⟩
            · have x1 : ¬ (st : Int) < (m : Int) := by omega
              have y1 : (a : Int) < (st : Int) := by omega
              have y2 : ¬ (st : Int) < (mid : Int) := by omega
              have z1 : (mid : Int) < (en : Int) := by omega
              have z2 : ¬ (en : Int) < (b : Int) := by omega
              have HALF : Hid (Half key a st mid en b d d) := hide (by
                obtain ⟨A, X, Y, B, h1, h2, h3, h4, h5⟩ := PARTS.out
                obtain rfl : X = [] := List.eq_nil_of_length_eq_zero (by omega)
                exact h5 d (by rw [h1]; simp))
              have HZ1 : Hid (d.size = N) := HdN
              clear PARTS
              go_wp2
              have M8 : Hid (Mg key a mid d d) := hide (Mg.none (by have e := HALF.out.u1; rw [show st = mid by omega] at e; exact e))
              have M9 : Hid (Mg key mid b d d) := hide (Mg.none (by have e := HALF.out.u3; rw [show en = b by omega] at e; exact e))
              have SE : Hid (SWK enc k w0 blk off d _) := S1.out
              clear S1
              go_end0
              exact ⟨rfl, d, HALF.out.done (by omega) (by omega) (by have := HdN.out; omega) M8.out M9.out, SE.out⟩
        · rcases (by omega : (a < st ∧ st < mid) ∨ ¬ a < st ∨ (a < st ∧ ¬ st < mid)) with ⟨p1, p2⟩ | p1 | ⟨p1, p2⟩
          · rcases (by omega : (mid < en ∧ en < b) ∨ ¬ mid < en ∨ (mid < en ∧ ¬ en < b)) with ⟨q1, q2⟩ | q1 | ⟨q1, q2⟩
            · have x1 : (st : Int) < (m : Int) := by omega
              have x2 : ¬ (m : Int) < (en : Int) := by omega
              have y1 : (a : Int) < (st : Int) := by omega
              have y2 : (st : Int) < (mid : Int) := by omega
              have z1 : (mid : Int) < (en : Int) := by omega
              have z2 : (en : Int) < (b : Int) := by omega
              have HALF : Hid (Half key a st mid en b d d) := hide (by
                obtain ⟨A, X, Y, B, h1, h2, h3, h4, h5⟩ := PARTS.out
                obtain rfl : Y = [] := List.eq_nil_of_length_eq_zero (by omega)
                exact h5 d (by rw [h1]; simp))
              have HZ1 : Hid (d.size = N) := HdN
              clear PARTS
              go_wp2_with (first | (go_at_fn 43; refine (HIH.out a st mid d wr (by omega) (by have := HZ1.out; have := HNe.out; omega) S1.out p1 p2 (by have := HZ1.out; omega) HALF.out.u1 HALF.out.u2).mono ?_; rintro e w8 ⟨rfl, d8, M8', S8'⟩; have M8 := hide M8'; have S8 : Aside (SWK enc k w0 blk off d8 w8) := S8'; clear M8' S8') | (go_at_fn 43; refine (HIH.out mid en b d8 w8 (by omega) (by have := M8.out.st.size; have := HZ1.out; have := HNe.out; omega) S8.out q1 q2 (by have := M8.out.st.size; have := HZ1.out; have := HNe.out; omega) (HALF.out.u3.same fun i h1 h2 => M8.out.st.out i (by omega)) (HALF.out.u4.same fun i h1 h2 => M8.out.st.out i (by omega))).mono ?_; rintro e w9 ⟨rfl, d9, M9', S9'⟩; have M9 := hide M9'; have S9 : Aside (SWK enc k w0 blk off d9 w9) := S9'; clear M9' S9'))
              have SE : Hid (SWK enc k w0 blk off d9 _) := S9.out
              clear S9
              go_end0
              exact ⟨rfl, d9, HALF.out.done (by omega) (by omega) (by have := HdN.out; omega) M8.out M9.out, SE.out⟩
            · have x1 : (st : Int) < (m : Int) := by omega
              have x2 : ¬ (m : Int) < (en : Int) := by omega
              have y1 : (a : Int) < (st : Int) := by omega
              have y2 : (st : Int) < (mid : Int) := by omega
              have z1 : ¬ (mid : Int) < (en : Int) := by omega
              have HALF : Hid (Half key a st mid en b d d) := hide (by
                obtain ⟨A, X, Y, B, h1, h2, h3, h4, h5⟩ := PARTS.out
                obtain rfl : Y = [] := List.eq_nil_of_length_eq_zero (by omega)
                exact h5 d (by rw [h1]; simp))
              have HZ1 : Hid (d.size = N) := HdN
              clear PARTS
              go_wp2_with (go_at_fn 43; refine (HIH.out a st mid d wr (by omega) (by have := HZ1.out; have := HNe.out; omega) S1.out p1 p2 (by have := HZ1.out; omega) HALF.out.u1 HALF.out.u2).mono ?_; rintro e w8 ⟨rfl, d8, M8', S8'⟩; have M8 := hide M8'; have S8 : Aside (SWK enc k w0 blk off d8 w8) := S8'; clear M8' S8')
              have M9 : Hid (Mg key mid b d8 d8) := hide (Mg.none (by have e := (HALF.out.u4.same fun i h1 h2 => M8.out.st.out i (by omega)); rw [show en = mid by omega] at e; exact e))
              have SE : Hid (SWK enc k w0 blk off d8 _) := S8.out
              clear S8
              go_end0
              exact ⟨rfl, d8, HALF.out.done (by omega) (by omega) (by have := HdN.out; omega) M8.out M9.out, SE.out⟩
            · have x1 : (st : Int) < (m : Int) := by omega
              have x2 : ¬ (m : Int) < (en : Int) := by omega
              have y1 : (a : Int) < (st : Int) := by omega
              have y2 : (st : Int) < (mid : Int) := by omega
              have z1 : (mid : Int) < (en : Int) := by omega
              have z2 : ¬ (en : Int) < (b : Int) := by omega
              have HALF : Hid (Half key a st mid en b d d) := hide (by
                obtain ⟨A, X, Y, B, h1, h2, h3, h4, h5⟩ := PARTS.out
                obtain rfl : Y = [] := List.eq_nil_of_length_eq_zero (by omega)
                exact h5 d (by rw [h1]; simp))
              have HZ1 : Hid (d.size = N) := HdN
              clear PARTS
              go_wp2_with (go_at_fn 43; refine (HIH.out a st mid d wr (by omega) (by have := HZ1.out; have := HNe.out; omega) S1.out p1 p2 (by have := HZ1.out; omega) HALF.out.u1 HALF.out.u2).mono ?_; rintro e w8 ⟨rfl, d8, M8', S8'⟩; have M8 := hide M8'; have S8 : Aside (SWK enc k w0 blk off d8 w8) := S8'; clear M8' S8')
              have M9 : Hid (Mg key mid b d8 d8) := hide (Mg.none (by have e := (HALF.out.u3.same fun i h1 h2 => M8.out.st.out i (by omega)); rw [show en = b by omega] at e; exact e))
              have SE : Hid (SWK enc k w0 blk off d8 _) := S8.out
              clear S8
              go_end0
              exact ⟨rfl, d8, HALF.out.done (by omega) (by omega) (by have := HdN.out; omega) M8.out M9.out, SE.out⟩
          · rcases (by omega : (mid < en ∧ en < b) ∨ ¬ mid < en ∨ (mid < en ∧ ¬ en < b)) with ⟨q1, q2⟩ | q1 | ⟨q1, q2⟩
            · have x1 : (st : Int) < (m : Int) := by omega
              have x2 : ¬ (m : Int) < (en : Int) := by omega
              have y1 : ¬ (a : Int) < (st : Int) := by omega
              have z1 : (mid : Int) < (en : Int) := by omega
              have z2 : (en : Int) < (b : Int) := by omega
              have HALF : Hid (Half key a st mid en b d d) := hide (by
                obtain ⟨A, X, Y, B, h1, h2, h3, h4, h5⟩ := PARTS.out
                obtain rfl : Y = [] := List.eq_nil_of_length_eq_zero (by omega)
                exact h5 d (by rw [h1]; simp))
              have HZ1 : Hid (d.size = N) := HdN
              clear PARTS
              go_wp2_with (go_at_fn 43; refine (HIH.out mid en b d wr (by omega) (by have := HZ1.out; have := HNe.out; omega) S1.out q1 q2 (by have := HZ1.out; have := HNe.out; omega) HALF.out.u3 HALF.out.u4).mono ?_; rintro e w9 ⟨rfl, d9, M9', S9'⟩; have M9 := hide M9'; have S9 : Aside (SWK enc k w0 blk off d9 w9) := S9'; clear M9' S9')
              have M8 : Hid (Mg key a mid d d) := hide (Mg.none (by have e := HALF.out.u2; rw [show st = a by omega] at e; exact e))
              have SE : Hid (SWK enc k w0 blk off d9 _) := S9.out
              clear S9
              go_end0
              exact ⟨rfl, d9, HALF.out.done (by omega) (by omega) (by have := HdN.out; omega) M8.out M9.out, SE.out⟩
            · have x1 : (st : Int) < (m : Int) := by omega
              have x2 : ¬ (m : Int) < (en : Int) := by omega
              have y1 : ¬ (a : Int) < (st : Int) := by omega
              have z1 : ¬ (mid : Int) < (en : Int) := by omega
              have HALF : Hid (Half key a st mid en b d d) := hide (by
                obtain ⟨A, X, Y, B, h1, h2, h3, h4, h5⟩ := PARTS.out
                obtain rfl : Y = [] := List.eq_nil_of_length_eq_zero (by omega)
                exact h5 d (by rw [h1]; simp))
              have HZ1 : Hid (d.size = N) := HdN
              clear PARTS
              go_wp2
              have M8 : Hid (Mg key a mid d d) := hide (Mg.none (by have e := HALF.out.u2; rw [show st = a by omega] at e; exact e))
              have M9 : Hid (Mg key mid b d d) := hide (Mg.none (by have e := HALF.out.u4; rw [show en = mid by omega] at e; exact e))
              have SE : Hid (SWK enc k w0 blk off d _) := S1.out
              clear S1
              go_end0
              exact ⟨rfl, d, HALF.out.done (by omega) (by omega) (by have := HdN.out; omega) M8.out M9.out, SE.out⟩
            · have x1 : (st : Int) < (m : Int) := by omega
              have x2 : ¬ (m : Int) < (en : Int) := by omega
              have y1 : ¬ (a : Int) < (st : Int) := by omega
              have z1 : (mid : Int) < (en : Int) := by omega
              have z2 : ¬ (en : Int) < (b : Int) := by omega
              have HALF : Hid (Half key a st mid en b d d) := hide (by
                obtain ⟨A, X, Y, B, h1, h2, h3, h4, h5⟩ := PARTS.out
                obtain rfl : Y = [] := List.eq_nil_of_length_eq_zero (by omega)
                exact h5 d (by rw [h1]; simp))
              have HZ1 : Hid (d.size = N) := HdN
              clear PARTS
              go_wp2
              have M8 : Hid (Mg key a mid d d) := hide (Mg.none (by have e := HALF.out.u2; rw [show st = a by omega] at e; exact e))
              have M9 : Hid (Mg key mid b d d) := hide (Mg.none (by have e := HALF.out.u3; rw [show en = b by omega] at e; exact e))
              have SE : Hid (SWK enc k w0 blk off d _) := S1.out
              clear S1
              go_end0
              exact ⟨rfl, d, HALF.out.done (by omega) (by omega) (by have := HdN.out; omega) M8.out M9.out, SE.out⟩
          · rcases (by omega : (mid < en ∧ en < b) ∨ ¬ mid < en ∨ (mid < en ∧ ¬ en < b)) with ⟨q1, q2⟩ | q1 | ⟨q1, q2⟩
            · have x1 : (st : Int) < (m : Int) := by omega
              have x2 : ¬ (m : Int) < (en : Int) := by omega
              have y1 : (a : Int) < (st : Int) := by omega
              have y2 : ¬ (st : Int) < (mid : Int) := by omega
              have z1 : (mid : Int) < (en : Int) := by omega
              have z2 : (en : Int) < (b : Int) := by omega
              have HALF : Hid (Half key a st mid en b d d) := hide (by
                obtain ⟨A, X, Y, B, h1, h2, h3, h4, h5⟩ := PARTS.out
                obtain rfl : Y = [] := List.eq_nil_of_length_eq_zero (by omega)
                exact h5 d (by rw [h1]; simp))
              have HZ1 : Hid (d.size = N) := HdN
              clear PARTS
              go_wp2_with (go_at_fn 43; refine (HIH.out mid en b d wr (by omega) (by have := HZ1.out; have := HNe.out; omega) S1.out q1 q2 (by have := HZ1.out; have := HNe.out; omega) HALF.out.u3 HALF.out.u4).mono ?_; rintro e w9 ⟨rfl, d9, M9', S9'⟩; have M9 := hide M9'; have S9 : Aside (SWK enc k w0 blk off d9 w9) := S9'; clear M9' S9')
              have M8 : Hid (Mg key a mid d d) := hide (Mg.none (by have e := HALF.out.u1; rw [show st = mid by omega] at e; exact e))
              have SE : Hid (SWK enc k w0 blk off d9 _) := S9.out
              clear S9
              go_end0
              exact ⟨rfl, d9, HALF.out.done (by omega) (by omega) (by have := HdN.out; omega) M8.out M9.out, SE.out⟩
            · have x1 : (st : Int) < (m : Int) := by omega
              have x2 : ¬ (m : Int) < (en : Int) := by omega
              have y1 : (a : Int) < (st : Int) := by omega
              have y2 : ¬ (st : Int) < (mid : Int) := by omega
              have z1 : ¬ (mid : Int) < (en : Int) := by omega
              have HALF : Hid (Half key a st mid en b d d) := hide (by
                obtain ⟨A, X, Y, B, h1, h2, h3, h4, h5⟩ := PARTS.out
                obtain rfl : Y = [] := List.eq_nil_of_length_eq_zero (by omega)
                exact h5 d (by rw [h1]; simp))
              have HZ1 : Hid (d.size = N) := HdN
              clear PARTS
              go_wp2
              have M8 : Hid (Mg key a mid d d) := hide (Mg.none (by have e := HALF.out.u1; rw [show st = mid by omega] at e; exact e))
              have M9 : Hid (Mg key mid b d d) := hide (Mg.none (by have e := HALF.out.u4; rw [show en = mid by omega] at e; exact e))
              have SE : Hid (SWK enc k w0 blk off d _) := S1.out
              clear S1
              go_end0
              exact ⟨rfl, d, HALF.out.done (by omega) (by omega) (by have := HdN.out; omega) M8.out M9.out, SE.out⟩
            · have x1 : (st : Int) < (m : Int) := by omega
              have x2 : ¬ (m : Int) < (en : Int) := by omega
              have y1 : (a : Int) < (st : Int) := by omega
              have y2 : ¬ (st : Int) < (mid : Int) := by omega
              have z1 : (mid : Int) < (en : Int) := by omega
              have z2 : ¬ (en : Int) < (b : Int) := by omega
              have HALF : Hid (Half key a st mid en b d d) := hide (by
                obtain ⟨A, X, Y, B, h1, h2, h3, h4, h5⟩ := PARTS.out
                obtain rfl : Y = [] := List.eq_nil_of_length_eq_zero (by omega)
                exact h5 d (by rw [h1]; simp))
              have HZ1 : Hid (d.size = N) := HdN
              clear PARTS
              go_wp2
              have M8 : Hid (Mg key a mid d d) := hide (Mg.none (by have e := HALF.out.u1; rw [show st = mid by omega] at e; exact e))
              have M9 : Hid (Mg key mid b d d) := hide (Mg.none (by have e := HALF.out.u3; rw [show en = b by omega] at e; exact e))
              have SE : Hid (SWK enc k w0 blk off d _) := S1.out
              clear S1
              go_end0
              exact ⟨rfl, d, HALF.out.done (by omega) (by omega) (by have := HdN.out; omega) M8.out M9.out, SE.out⟩
  · have hgtz : ¬ (mid : Int) < (m : Int) := by omega
    clear r7
    obtain ⟨s0, hs0⟩ : ∃ s0, s0 = a := ⟨_, rfl⟩
    obtain ⟨r0, hr0⟩ : ∃ r0, r0 = m := ⟨_, rfl⟩
    have Hs : Hid (s0 = if m > mid then mid + m - b else a) := hide (by rw [if_neg hgt, hs0])
    have Hr : Hid (r0 = if m > mid then mid else m) := hide (by rw [if_neg hgt, hr0])
    have RNG : Hid (∀ x, s0 ≤ x → x < r0 → a ≤ x ∧ x < m ∧ m ≤ p - x ∧ p - x < b ∧ x ≤ p) := hide fun x h1 h2 => by have := Hn.out; have := Hp.out; have := Hmid.out; omega
    have hsr : s0 ≤ r0 := by have := Hn.out; have := Hmid.out; omega
    clear hgt
    go_wp2
    rw [show (.int .i64 (a : Int) : Value) = .int .i64 (a : Int) from rfl]
    go_loopg [20, 21] (r0 - s0) (fun kx s20 s21 wr => ∃ (st r : Nat), s20 = .int .i64 st ∧ s21 = .int .i64 r ∧ s0 ≤ st ∧ st ≤ r ∧ r ≤ r0 ∧ r - st ≤ kx ∧ Aside (SWK enc k w0 blk off d wr) ∧ Hid (∀ x, s0 ≤ x → x < st → key d[x]! ≤ key d[p - x]!) ∧ Hid (∀ x, r ≤ x → x < r0 → key d[p - x]! < key d[x]!))
    case atStart => exact ⟨s0, r0, by rw [hs0], by rw [hr0], Nat.le_refl _, hsr, Nat.le_refl _, Nat.le_refl _, S0, hide (fun x h1 h2 => by omega), hide (fun x h1 h2 => by omega)⟩
    case round =>
      clear S0
      obtain ⟨st, r, rfl, rfl, hst, hsr', hrr, hkx, S1, HLo, HHi⟩ := hrel
      have Hs0 := hide hs0
      have Hr0 := hide hr0
      clear hs0 hr0 hsr
      by_cases hlt : st < r
      · have hltz : (st : Int) < (r : Int) := by omega
        obtain ⟨c, hc0⟩ : ∃ c, c = (st + r) / 2 := ⟨_, rfl⟩
        obtain ⟨g1, g2, g3, g4, g5⟩ := RNG.out c (by omega) (by omega)
        have q2 : IntKind.i64.wrap ((st : Int) + (r : Int)) = ((st + r : Nat) : Int) := by rw [IntKind.wrap_i64]; omega
        obtain ⟨pc, hpc⟩ : ∃ pc, pc = p - c := ⟨_, rfl⟩
        have q3 : IntKind.i64.wrap ((p : Int) - (c : Int)) = (pc : Int) := by rw [IntKind.wrap_i64]; omega
        go_wp2_with fail
        have e2 : ((st : Int) + (r : Int)) / 2 = (c : Int) := by omega
        rw [e2]
        have hsc : st ≤ c := by omega
        have hcr : c < r := by omega
        have LO : Hid (∀ x, s0 ≤ x → x ≤ c → key d[c]! ≤ key d[pc]! → key d[x]! ≤ key d[p - x]!) := hide fun x h1 h2 h3 => by
          obtain ⟨k1, k2, k3, k4, k5⟩ := RNG.out x h1 (by omega)
          have := HU1.out x c k1 h2 g2
          have := HU2.out pc (p - x) (by omega) (by omega) k4
          omega
        have HI : Hid (∀ x, c ≤ x → x < r0 → key d[pc]! < key d[c]! → key d[p - x]! < key d[x]!) := hide fun x h1 h2 h3 => by
          obtain ⟨k1, k2, k3, k4, k5⟩ := RNG.out x (by omega) h2
          have := HU1.out c x g1 h1 k2
          have := HU2.out (p - x) pc k3 (by omega) (by omega)
          omega
        have bx : (pc : Int) < (N : Int) := by omega
        have by_ : (c : Int) < (N : Int) := by omega
        have npc : pc < d.size := by have := HdN.out; omega
        have nc : c < d.size := by have := HdN.out; omega
        obtain ⟨vx, hvx⟩ : ∃ v, v = d[pc]! := ⟨_, rfl⟩
        obtain ⟨vy, hvy⟩ : ∃ v, v = d[c]! := ⟨_, rfl⟩
        have lx := S1.out.ld HG.out.row HN.out P pc npc
        have ly := S1.out.ld HG.out.row HN.out P c nc
        rw [← hvx] at lx
        rw [← hvy] at ly
        have hc := S1.out.cmp HG.out.cmp HN.out vx vy
        have hkv : Hid (key vx = key d[pc]! ∧ key vy = key d[c]!) := hide ⟨by rw [hvx], by rw [hvy]⟩
        have hlt' := cmp_lt (key := key) vx vy
        generalize Lib.compareInt (key vx) (key vy) = cv at hc hlt'
        have HLT := hide hlt'
        clear hvx hvy hlt' hc0 e2 q2 g3 g4 g5 npc nc hpc
        by_cases hcv : cv < 0
        · have hdv : decide (cv < 0) = true := decide_eq_true hcv
          have hhigh : Hid (∀ x, c ≤ x → x < r0 → key d[p - x]! < key d[x]!) := hide fun x h1 h2 => HI.out x h1 h2 (by have q := HLT.out.1 hcv; rw [hkv.out.1, hkv.out.2] at q; exact q)
          go_wp2_with fail
          go_quiet_grown (first | (go_at_fn g; refine Calls.grown_of (hc _ _)))
          have S2 : Aside (SWK enc k w0 blk off d (grow (wr.drewN nq) osq)) := S1.out.grown nq osq
          clear lx ly hc S1
          generalize grow (wr.drewN nq) osq = wu2 at S2 ⊢
          clear nq osq
          go_wp2
          go_roundg (c - st)
          case measure => omega
          case rel => exact ⟨st, c, rfl, rfl, hst, hsc, by omega, Nat.le_refl _, S2, HLo, hhigh⟩
        · have hdv : decide (cv < 0) = false := decide_eq_false hcv
          have hlow : Hid (∀ x, s0 ≤ x → x < c + 1 → key d[x]! ≤ key d[p - x]!) := hide fun x h1 h2 => LO.out x h1 (by omega) (by have q : ¬ key vx < key vy := fun z => hcv (HLT.out.2 z); rw [hkv.out.1, hkv.out.2] at q; omega)
          go_wp2_with fail
          go_quiet_grown (first | (go_at_fn g; refine Calls.grown_of (hc _ _)))
          have S2 : Aside (SWK enc k w0 blk off d (grow (wr.drewN nq) osq)) := S1.out.grown nq osq
          clear lx ly hc S1
          generalize grow (wr.drewN nq) osq = wu2 at S2 ⊢
          clear nq osq
          go_wp2
          go_roundg (r - (c + 1))
          case measure => omega
          case rel => exact ⟨c + 1, r, by go_num, rfl, by omega, by omega, hrr, Nat.le_refl _, S2, hlow, HHi⟩
      · have hltz : ¬ (st : Int) < (r : Int) := by omega
        obtain rfl : st = r := by omega
        have CUT : Hid (Cut key a m b mid st d) := hide (Cut.of am mb Hmid.out HU1.out HU2.out Hs.out Hr.out hst hrr (fun x h1 h2 => by have q := HLo.out x h1 h2; have := Hn.out; have := Hp.out; rw [show mid + m - 1 - x = p - x by omega]; exact Int.not_lt.2 q) (fun x h1 h2 => by have q := HHi.out x h1 h2; have := Hn.out; have := Hp.out; rw [show mid + m - 1 - x = p - x by omega]; exact q))
        have k0 := CUT.out.s0
        have k1 := CUT.out.s1
        have k2 := CUT.out.s2
        have k3 := CUT.out.e0
        obtain ⟨en, hen⟩ : ∃ en, en = n - st := ⟨_, rfl⟩
        have hen2 : mid + m - st = en := by have := Hn.out; omega
        rw [hen2] at k3
        have q4 : IntKind.i64.wrap ((n : Int) - (st : Int)) = (en : Int) := by have := Hn.out; rw [IntKind.wrap_i64]; omega
        have Hen := hide hen
        have k4 : mid ≤ en := by omega
        have k5 : en + st = mid + m := by omega
        have PARTS : Hid (∃ A X Y B : List α, d.toList = A ++ (X ++ (Y ++ B)) ∧ A.length = st ∧ X.length = m - st ∧ Y.length = en - m ∧ ∀ d1 : Array α, d1.toList = A ++ (Y ++ (X ++ B)) → Half key a st mid en b d d1) := hide (by
          have hY : mid + m - st - m = en - m := by omega
          by_cases hme : m ≤ en
          · obtain ⟨A, X, Y, B, h1, h2, h3, h4⟩ := parts d st m en k1 hme (by have := HdN.out; omega)
            refine ⟨A, X, Y, B, h1, h2, h3, h4, fun d1 hd1 => ?_⟩
            have := Half.of A X Y B (by have := HdN.out; omega) (by omega) (by omega) CUT.out HU1.out HU2.out h1 hd1 h2 h3 (by omega)
            rwa [hen2] at this
          · exfalso; omega)
        clear hen hen2 HLo HHi Hs Hr RNG hltz hlt hkx
        rcases (by omega : (st < m ∧ m < en) ∨ ¬ st < m ∨ (st < m ∧ ¬ m < en)) with ⟨o1, o2⟩ | o1 | ⟨o1, o2⟩
        · rcases (by omega : (a < st ∧ st < mid) ∨ ¬ a < st ∨ (a < st ∧ ¬ st < mid)) with ⟨p1, p2⟩ | p1 | ⟨p1, p2⟩
          · rcases (by omega : (mid < en ∧ en < b) ∨ ¬ mid < en ∨ (mid < en ∧ ¬ en < b)) with ⟨q1, q2⟩ | q1 | ⟨q1, q2⟩
            · have x1 : (st : Int) < (m : Int) := by omega
              have x2 : (m : Int) < (en : Int) := by omega
              have y1 : (a : Int) < (st : Int) := by omega
              have y2 : (st : Int) < (mid : Int) := by omega
              have z1 : (mid : Int) < (en : Int) := by omega
              have z2 : (en : Int) < (b : Int) := by omega
              obtain ⟨A, X, Y, B, h1, h2, h3, h4, h5⟩ := PARTS.out
              have CR : Hid (Calls P 44 #[.slice (some ⟨blk, off, none⟩) N cap, .int .i64 st, .int .i64 m, .int .i64 en, .func (.func g) #[] cb] wr fun e w' => e = .returned (.tuple #[]) ∧ ∃ d' : Array α, d'.toList = A ++ (Y ++ (X ++ B)) ∧ d'.size = d.size ∧ SWK enc k w0 blk off d' w') := hide (by
                have := rotate_any HL.out enc (.func (.func g) #[] cb) blk off cap st m en d0 d (A ++ (Y ++ (X ++ B))) w0 wr HG.out.row HN.out S1.out o1 o2 ⟨A, X, Y, B, h1, by omega, h3, h4, rfl⟩ (by have := HdN.out; omega)
                rw [HdN.out] at this
                rw [HdN.out]
                exact this)
              have H5 := hide h5
              clear h1 h2 h3 h4 h5 PARTS S1
              go_wp2_with (first | (go_at_fn 44; refine CR.out.mono ?_; rintro e w7 ⟨rfl, d7, T7, Z7, S7'⟩; have HALF := hide (H5.out d7 T7); have S7 : Aside (SWK enc k w0 blk off d7 w7) := S7'; have HZ1 : Hid (d7.size = N) := hide (Z7.trans HdN.out); clear T7 Z7 S7' CR H5) | (go_at_fn 43; refine (HIH.out a st mid d7 w7 (by omega) (by have := HZ1.out; have := HNe.out; omega) S7.out p1 p2 (by have := HZ1.out; omega) HALF.out.u1 HALF.out.u2).mono ?_; rintro e w8 ⟨rfl, d8, M8', S8'⟩; have M8 := hide M8'; have S8 : Aside (SWK enc k w0 blk off d8 w8) := S8'; clear M8' S8') | (go_at_fn 43; refine (HIH.out mid en b d8 w8 (by omega) (by have := M8.out.st.size; have := HZ1.out; have := HNe.out; omega) S8.out q1 q2 (by have := M8.out.st.size; have := HZ1.out; have := HNe.out; omega) (HALF.out.u3.same fun i h1 h2 => M8.out.st.out i (by omega)) (HALF.out.u4.same fun i h1 h2 => M8.out.st.out i (by omega))).mono ?_; rintro e w9 ⟨rfl, d9, M9', S9'⟩; have M9 := hide M9'; have S9 : Aside (SWK enc k w0 blk off d9 w9) := S9'; clear M9' S9'))
              have SE : Hid (SWK enc k w0 blk off d9 _) := S9.out
              clear S9
              go_end0
              exact ⟨rfl, d9, HALF.out.done (by omega) (by omega) (by have := HdN.out; omega) M8.out M9.out, SE.out⟩
            · have x1 : (st : Int) < (m : Int) := by omega
              have x2 : (m : Int) < (en : Int) := by omega
              have y1 : (a : Int) < (st : Int) := by omega
              have y2 : (st : Int) < (mid : Int) := by omega
              have z1 : ¬ (mid : Int) < (en : Int) := by omega
              obtain ⟨A, X, Y, B, h1, h2, h3, h4, h5⟩ := PARTS.out
              have CR : Hid (Calls P 44 #[.slice (some ⟨blk, off, none⟩) N cap, .int .i64 st, .int .i64 m, .int .i64 en, .func (.func g) #[] cb] wr fun e w' => e = .returned (.tuple #[]) ∧ ∃ d' : Array α, d'.toList = A ++ (Y ++ (X ++ B)) ∧ d'.size = d.size ∧ SWK enc k w0 blk off d' w') := hide (by
                have := rotate_any HL.out enc (.func (.func g) #[] cb) blk off cap st m en d0 d (A ++ (Y ++ (X ++ B))) w0 wr HG.out.row HN.out S1.out o1 o2 ⟨A, X, Y, B, h1, by omega, h3, h4, rfl⟩ (by have := HdN.out; omega)
                rw [HdN.out] at this
                rw [HdN.out]
                exact this)
              have H5 := hide h5
              clear h1 h2 h3 h4 h5 PARTS S1
              go_wp2_with (first | (go_at_fn 44; refine CR.out.mono ?_; rintro e w7 ⟨rfl, d7, T7, Z7, S7'⟩; have HALF := hide (H5.out d7 T7); have S7 : Aside (SWK enc k w0 blk off d7 w7) := S7'; have HZ1 : Hid (d7.size = N) := hide (Z7.trans HdN.out); clear T7 Z7 S7' CR H5) | (go_at_fn 43; refine (HIH.out a st mid d7 w7 (by omega) (by have := HZ1.out; have := HNe.out; omega) S7.out p1 p2 (by have := HZ1.out; omega) HALF.out.u1 HALF.out.u2).mono ?_; rintro e w8 ⟨rfl, d8, M8', S8'⟩; have M8 := hide M8'; have S8 : Aside (SWK enc k w0 blk off d8 w8) := S8'; clear M8' S8'))
              have M9 : Hid (Mg key mid b d8 d8) := hide (Mg.none (by have e := (HALF.out.u4.same fun i h1 h2 => M8.out.st.out i (by omega)); rw [show en = mid by omega] at e; exact e))
              have SE : Hid (SWK enc k w0 blk off d8 _) := S8.out
              clear S8
              go_end0
              exact ⟨rfl, d8, HALF.out.done (by omega) (by omega) (by have := HdN.out; omega) M8.out M9.out, SE.out⟩
            · have x1 : (st : Int) < (m : Int) := by omega
              have x2 : (m : Int) < (en : Int) := by omega
              have y1 : (a : Int) < (st : Int) := by omega
              have y2 : (st : Int) < (mid : Int) := by omega
              have z1 : (mid : Int) < (en : Int) := by omega
              have z2 : ¬ (en : Int) < (b : Int) := by omega
              obtain ⟨A, X, Y, B, h1, h2, h3, h4, h5⟩ := PARTS.out
              have CR : Hid (Calls P 44 #[.slice (some ⟨blk, off, none⟩) N cap, .int .i64 st, .int .i64 m, .int .i64 en, .func (.func g) #[] cb] wr fun e w' => e = .returned (.tuple #[]) ∧ ∃ d' : Array α, d'.toList = A ++ (Y ++ (X ++ B)) ∧ d'.size = d.size ∧ SWK enc k w0 blk off d' w') := hide (by
                have := rotate_any HL.out enc (.func (.func g) #[] cb) blk off cap st m en d0 d (A ++ (Y ++ (X ++ B))) w0 wr HG.out.row HN.out S1.out o1 o2 ⟨A, X, Y, B, h1, by omega, h3, h4, rfl⟩ (by have := HdN.out; omega)
                rw [HdN.out] at this
                rw [HdN.out]
                exact this)
              have H5 := hide h5
              clear h1 h2 h3 h4 h5 PARTS S1
              go_wp2_with (first | (go_at_fn 44; refine CR.out.mono ?_; rintro e w7 ⟨rfl, d7, T7, Z7, S7'⟩; have HALF := hide (H5.out d7 T7); have S7 : Aside (SWK enc k w0 blk off d7 w7) := S7'; have HZ1 : Hid (d7.size = N) := hide (Z7.trans HdN.out); clear T7 Z7 S7' CR H5) | (go_at_fn 43; refine (HIH.out a st mid d7 w7 (by omega) (by have := HZ1.out; have := HNe.out; omega) S7.out p1 p2 (by have := HZ1.out; omega) HALF.out.u1 HALF.out.u2).mono ?_; rintro e w8 ⟨rfl, d8, M8', S8'⟩; have M8 := hide M8'; have S8 : Aside (SWK enc k w0 blk off d8 w8) := S8'; clear M8' S8'))
              have M9 : Hid (Mg key mid b d8 d8) := hide (Mg.none (by have e := (HALF.out.u3.same fun i h1 h2 => M8.out.st.out i (by omega)); rw [show en = b by omega] at e; exact e))
              have SE : Hid (SWK enc k w0 blk off d8 _) := S8.out
              clear S8
              go_end0
              exact ⟨rfl, d8, HALF.out.done (by omega) (by omega) (by have := HdN.out; omega) M8.out M9.out, SE.out⟩
          · rcases (by omega : (mid < en ∧ en < b) ∨ ¬ mid < en ∨ (mid < en ∧ ¬ en < b)) with ⟨q1, q2⟩ | q1 | ⟨q1, q2⟩
            · have x1 : (st : Int) < (m : Int) := by omega
              have x2 : (m : Int) < (en : Int) := by omega
              have y1 : ¬ (a : Int) < (st : Int) := by omega
              have z1 : (mid : Int) < (en : Int) := by omega
              have z2 : (en : Int) < (b : Int) := by omega
              obtain ⟨A, X, Y, B, h1, h2, h3, h4, h5⟩ := PARTS.out
              have CR : Hid (Calls P 44 #[.slice (some ⟨blk, off, none⟩) N cap, .int .i64 st, .int .i64 m, .int .i64 en, .func (.func g) #[] cb] wr fun e w' => e = .returned (.tuple #[]) ∧ ∃ d' : Array α, d'.toList = A ++ (Y ++ (X ++ B)) ∧ d'.size = d.size ∧ SWK enc k w0 blk off d' w') := hide (by
                have := rotate_any HL.out enc (.func (.func g) #[] cb) blk off cap st m en d0 d (A ++ (Y ++ (X ++ B))) w0 wr HG.out.row HN.out S1.out o1 o2 ⟨A, X, Y, B, h1, by omega, h3, h4, rfl⟩ (by have := HdN.out; omega)
                rw [HdN.out] at this
                rw [HdN.out]
                exact this)
              have H5 := hide h5
              clear h1 h2 h3 h4 h5 PARTS S1
              go_wp2_with (first | (go_at_fn 44; refine CR.out.mono ?_; rintro e w7 ⟨rfl, d7, T7, Z7, S7'⟩; have HALF := hide (H5.out d7 T7); have S7 : Aside (SWK enc k w0 blk off d7 w7) := S7'; have HZ1 : Hid (d7.size = N) := hide (Z7.trans HdN.out); clear T7 Z7 S7' CR H5) | (go_at_fn 43; refine (HIH.out mid en b d7 w7 (by omega) (by have := HZ1.out; have := HNe.out; omega) S7.out q1 q2 (by have := HZ1.out; have := HNe.out; omega) HALF.out.u3 HALF.out.u4).mono ?_; rintro e w9 ⟨rfl, d9, M9', S9'⟩; have M9 := hide M9'; have S9 : Aside (SWK enc k w0 blk off d9 w9) := S9'; clear M9' S9'))
              have M8 : Hid (Mg key a mid d7 d7) := hide (Mg.none (by have e := HALF.out.u2; rw [show st = a by omega] at e; exact e))
              have SE : Hid (SWK enc k w0 blk off d9 _) := S9.out
              clear S9
              go_end0
              exact ⟨rfl, d9, HALF.out.done (by omega) (by omega) (by have := HdN.out; omega) M8.out M9.out, SE.out⟩
            · have x1 : (st : Int) < (m : Int) := by omega
              have x2 : (m : Int) < (en : Int) := by omega
              have y1 : ¬ (a : Int) < (st : Int) := by omega
              have z1 : ¬ (mid : Int) < (en : Int) := by omega
              obtain ⟨A, X, Y, B, h1, h2, h3, h4, h5⟩ := PARTS.out
              have CR : Hid (Calls P 44 #[.slice (some ⟨blk, off, none⟩) N cap, .int .i64 st, .int .i64 m, .int .i64 en, .func (.func g) #[] cb] wr fun e w' => e = .returned (.tuple #[]) ∧ ∃ d' : Array α, d'.toList = A ++ (Y ++ (X ++ B)) ∧ d'.size = d.size ∧ SWK enc k w0 blk off d' w') := hide (by
                have := rotate_any HL.out enc (.func (.func g) #[] cb) blk off cap st m en d0 d (A ++ (Y ++ (X ++ B))) w0 wr HG.out.row HN.out S1.out o1 o2 ⟨A, X, Y, B, h1, by omega, h3, h4, rfl⟩ (by have := HdN.out; omega)
                rw [HdN.out] at this
                rw [HdN.out]
                exact this)
              have H5 := hide h5
              clear h1 h2 h3 h4 h5 PARTS S1
              go_wp2_with (go_at_fn 44; refine CR.out.mono ?_; rintro e w7 ⟨rfl, d7, T7, Z7, S7'⟩; have HALF := hide (H5.out d7 T7); have S7 : Aside (SWK enc k w0 blk off d7 w7) := S7'; have HZ1 : Hid (d7.size = N) := hide (Z7.trans HdN.out); clear T7 Z7 S7' CR H5)
              have M8 : Hid (Mg key a mid d7 d7) := hide (Mg.none (by have e := HALF.out.u2; rw [show st = a by omega] at e; exact e))
              have M9 : Hid (Mg key mid b d7 d7) := hide (Mg.none (by have e := HALF.out.u4; rw [show en = mid by omega] at e; exact e))
              have SE : Hid (SWK enc k w0 blk off d7 _) := S7.out
              clear S7
              go_end0
              exact ⟨rfl, d7, HALF.out.done (by omega) (by omega) (by have := HdN.out; omega) M8.out M9.out, SE.out⟩
            · have x1 : (st : Int) < (m : Int) := by omega
              have x2 : (m : Int) < (en : Int) := by omega
              have y1 : ¬ (a : Int) < (st : Int) := by omega
              have z1 : (mid : Int) < (en : Int) := by omega
              have z2 : ¬ (en : Int) < (b : Int) := by omega
              obtain ⟨A, X, Y, B, h1, h2, h3, h4, h5⟩ := PARTS.out
              have CR : Hid (Calls P 44 #[.slice (some ⟨blk, off, none⟩) N cap, .int .i64 st, .int .i64 m, .int .i64 en, .func (.func g) #[] cb] wr fun e w' => e = .returned (.tuple #[]) ∧ ∃ d' : Array α, d'.toList = A ++ (Y ++ (X ++ B)) ∧ d'.size = d.size ∧ SWK enc k w0 blk off d' w') := hide (by
                have := rotate_any HL.out enc (.func (.func g) #[] cb) blk off cap st m en d0 d (A ++ (Y ++ (X ++ B))) w0 wr HG.out.row HN.out S1.out o1 o2 ⟨A, X, Y, B, h1, by omega, h3, h4, rfl⟩ (by have := HdN.out; omega)
                rw [HdN.out] at this
                rw [HdN.out]
                exact this)
              have H5 := hide h5
              clear h1 h2 h3 h4 h5 PARTS S1
              go_wp2_with (go_at_fn 44; refine CR.out.mono ?_; rintro e w7 ⟨rfl, d7, T7, Z7, S7'⟩; have HALF := hide (H5.out d7 T7); have S7 : Aside (SWK enc k w0 blk off d7 w7) := S7'; have HZ1 : Hid (d7.size = N) := hide (Z7.trans HdN.out); clear T7 Z7 S7' CR H5)
              have M8 : Hid (Mg key a mid d7 d7) := hide (Mg.none (by have e := HALF.out.u2; rw [show st = a by omega] at e; exact e))
              have M9 : Hid (Mg key mid b d7 d7) := hide (Mg.none (by have e := HALF.out.u3; rw [show en = b by omega] at e; exact e))
              have SE : Hid (SWK enc k w0 blk off d7 _) := S7.out
              clear S7
              go_end0
              exact ⟨rfl, d7, HALF.out.done (by omega) (by omega) (by have := HdN.out; omega) M8.out M9.out, SE.out⟩
          · rcases (by omega : (mid < en ∧ en < b) ∨ ¬ mid < en ∨ (mid < en ∧ ¬ en < b)) with ⟨q1, q2⟩ | q1 | ⟨q1, q2⟩
            · have x1 : (st : Int) < (m : Int) := by omega
              have x2 : (m : Int) < (en : Int) := by omega
              have y1 : (a : Int) < (st : Int) := by omega
              have y2 : ¬ (st : Int) < (mid : Int) := by omega
              have z1 : (mid : Int) < (en : Int) := by omega
              have z2 : (en : Int) < (b : Int) := by omega
              obtain ⟨A, X, Y, B, h1, h2, h3, h4, h5⟩ := PARTS.out
              have CR : Hid (Calls P 44 #[.slice (some ⟨blk, off, none⟩) N cap, .int .i64 st, .int .i64 m, .int .i64 en, .func (.func g) #[] cb] wr fun e w' => e = .returned (.tuple #[]) ∧ ∃ d' : Array α, d'.toList = A ++ (Y ++ (X ++ B)) ∧ d'.size = d.size ∧ SWK enc k w0 blk off d' w') := hide (by
                have := rotate_any HL.out enc (.func (.func g) #[] cb) blk off cap st m en d0 d (A ++ (Y ++ (X ++ B))) w0 wr HG.out.row HN.out S1.out o1 o2 ⟨A, X, Y, B, h1, by omega, h3, h4, rfl⟩ (by have := HdN.out; omega)
                rw [HdN.out] at this
                rw [HdN.out]
                exact this)
              have H5 := hide h5
              clear h1 h2 h3 h4 h5 PARTS S1
              go_wp2_with (first | (go_at_fn 44; refine CR.out.mono ?_; rintro e w7 ⟨rfl, d7, T7, Z7, S7'⟩; have HALF := hide (H5.out d7 T7); have S7 : Aside (SWK enc k w0 blk off d7 w7) := S7'; have HZ1 : Hid (d7.size = N) := hide (Z7.trans HdN.out); clear T7 Z7 S7' CR H5) | (go_at_fn 43; refine (HIH.out mid en b d7 w7 (by omega) (by have := HZ1.out; have := HNe.out; omega) S7.out q1 q2 (by have := HZ1.out; have := HNe.out; omega) HALF.out.u3 HALF.out.u4).mono ?_; rintro e w9 ⟨rfl, d9, M9', S9'⟩; have M9 := hide M9'; have S9 : Aside (SWK enc k w0 blk off d9 w9) := S9'; clear M9' S9'))
              have M8 : Hid (Mg key a mid d7 d7) := hide (Mg.none (by have e := HALF.out.u1; rw [show st = mid by omega] at e; exact e))
              have SE : Hid (SWK enc k w0 blk off d9 _) := S9.out
              clear S9
              go_end0
              exact ⟨rfl, d9, HALF.out.done (by omega) (by omega) (by have := HdN.out; omega) M8.out M9.out, SE.out⟩
            · have x1 : (st : Int) < (m : Int) := by omega
              have x2 : (m : Int) < (en : Int) := by omega
              have y1 : (a : Int) < (st : Int) := by omega
              have y2 : ¬ (st : Int) < (mid : Int) := by omega
              have z1 : ¬ (mid : Int) < (en : Int) := by omega
              obtain ⟨A, X, Y, B, h1, h2, h3, h4, h5⟩ := PARTS.out
              have CR : Hid (Calls P 44 #[.slice (some ⟨blk, off, none⟩) N cap, .int .i64 st, .int .i64 m, .int .i64 en, .func (.func g) #[] cb] wr fun e w' => e = .returned (.tuple #[]) ∧ ∃ d' : Array α, d'.toList = A ++ (Y ++ (X ++ B)) ∧ d'.size = d.size ∧ SWK enc k w0 blk off d' w') := hide (by
                have := rotate_any HL.out enc (.func (.func g) #[] cb) blk off cap st m en d0 d (A ++ (Y ++ (X ++ B))) w0 wr HG.out.row HN.out S1.out o1 o2 ⟨A, X, Y, B, h1, by omega, h3, h4, rfl⟩ (by have := HdN.out; omega)
                rw [HdN.out] at this
                rw [HdN.out]
                exact this)
              have H5 := hide h5
              clear h1 h2 h3 h4 h5 PARTS S1
              go_wp2_with (go_at_fn 44; refine CR.out.mono ?_; rintro e w7 ⟨rfl, d7, T7, Z7, S7'⟩; have HALF := hide (H5.out d7 T7); have S7 : Aside (SWK enc k w0 blk off d7 w7) := S7'; have HZ1 : Hid (d7.size = N) := hide (Z7.trans HdN.out); clear T7 Z7 S7' CR H5)
              have M8 : Hid (Mg key a mid d7 d7) := hide (Mg.none (by have e := HALF.out.u1; rw [show st = mid by omega] at e; exact e))
              have M9 : Hid (Mg key mid b d7 d7) := hide (Mg.none (by have e := HALF.out.u4; rw [show en = mid by omega] at e; exact e))
              have SE : Hid (SWK enc k w0 blk off d7 _) := S7.out
              clear S7
              go_end0
              exact ⟨rfl, d7, HALF.out.done (by omega) (by omega) (by have := HdN.out; omega) M8.out M9.out, SE.out⟩
            · have x1 : (st : Int) < (m : Int) := by omega
              have x2 : (m : Int) < (en : Int) := by omega
              have y1 : (a : Int) < (st : Int) := by omega
              have y2 : ¬ (st : Int) < (mid : Int) := by omega
              have z1 : (mid : Int) < (en : Int) := by omega
              have z2 : ¬ (en : Int) < (b : Int) := by omega
              obtain ⟨A, X, Y, B, h1, h2, h3, h4, h5⟩ := PARTS.out
              have CR : Hid (Calls P 44 #[.slice (some ⟨blk, off, none⟩) N cap, .int .i64 st, .int .i64 m, .int .i64 en, .func (.func g) #[] cb] wr fun e w' => e = .returned (.tuple #[]) ∧ ∃ d' : Array α, d'.toList = A ++ (Y ++ (X ++ B)) ∧ d'.size = d.size ∧ SWK enc k w0 blk off d' w') := hide (by
                have := rotate_any HL.out enc (.func (.func g) #[] cb) blk off cap st m en d0 d (A ++ (Y ++ (X ++ B))) w0 wr HG.out.row HN.out S1.out o1 o2 ⟨A, X, Y, B, h1, by omega, h3, h4, rfl⟩ (by have := HdN.out; omega)
                rw [HdN.out] at this
                rw [HdN.out]
                exact this)
              have H5 := hide h5
              clear h1 h2 h3 h4 h5 PARTS S1
              go_wp2_with (go_at_fn 44; refine CR.out.mono ?_; rintro e w7 ⟨rfl, d7, T7, Z7, S7'⟩; have HALF := hide (H5.out d7 T7); have S7 : Aside (SWK enc k w0 blk off d7 w7) := S7'; have HZ1 : Hid (d7.size = N) := hide (Z7.trans HdN.out); clear T7 Z7 S7' CR H5)
              have M8 : Hid (Mg key a mid d7 d7) := hide (Mg.none (by have e := HALF.out.u1; rw [show st = mid by omega] at e; exact e))
              have M9 : Hid (Mg key mid b d7 d7) := hide (Mg.none (by have e := HALF.out.u3; rw [show en = b by omega] at e; exact e))
              have SE : Hid (SWK enc k w0 blk off d7 _) := S7.out
              clear S7
              go_end0
              exact ⟨rfl, d7, HALF.out.done (by omega) (by omega) (by have := HdN.out; omega) M8.out M9.out, SE.out⟩
        · rcases (by omega : (a < st ∧ st < mid) ∨ ¬ a < st ∨ (a < st ∧ ¬ st < mid)) with ⟨p1, p2⟩ | p1 | ⟨p1, p2⟩
          · rcases (by omega : (mid < en ∧ en < b) ∨ ¬ mid < en ∨ (mid < en ∧ ¬ en < b)) with ⟨q1, q2⟩ | q1 | ⟨q1, q2⟩
            · have x1 : ¬ (st : Int) < (m : Int) := by omega
              have y1 : (a : Int) < (st : Int) := by omega
              have y2 : (st : Int) < (mid : Int) := by omega
              have z1 : (mid : Int) < (en : Int) := by omega
              have z2 : (en : Int) < (b : Int) := by omega
              have HALF : Hid (Half key a st mid en b d d) := hide (by
                obtain ⟨A, X, Y, B, h1, h2, h3, h4, h5⟩ := PARTS.out
                obtain rfl : X = [] := List.eq_nil_of_length_eq_zero (by omega)
                exact h5 d (by rw [h1]; simp))
              have HZ1 : Hid (d.size = N) := HdN
              clear PARTS
              go_wp2_with (first | (go_at_fn 43; refine (HIH.out a st mid d wr (by omega) (by have := HZ1.out; have := HNe.out; omega) S1.out p1 p2 (by have := HZ1.out; omega) HALF.out.u1 HALF.out.u2).mono ?_; rintro e w8 ⟨rfl, d8, M8', S8'⟩; have M8 := hide M8'; have S8 : Aside (SWK enc k w0 blk off d8 w8) := S8'; clear M8' S8') | (go_at_fn 43; refine (HIH.out mid en b d8 w8 (by omega) (by have := M8.out.st.size; have := HZ1.out; have := HNe.out; omega) S8.out q1 q2 (by have := M8.out.st.size; have := HZ1.out; have := HNe.out; omega) (HALF.out.u3.same fun i h1 h2 => M8.out.st.out i (by omega)) (HALF.out.u4.same fun i h1 h2 => M8.out.st.out i (by omega))).mono ?_; rintro e w9 ⟨rfl, d9, M9', S9'⟩; have M9 := hide M9'; have S9 : Aside (SWK enc k w0 blk off d9 w9) := S9'; clear M9' S9'))
              have SE : Hid (SWK enc k w0 blk off d9 _) := S9.out
              clear S9
              go_end0
              exact ⟨rfl, d9, HALF.out.done (by omega) (by omega) (by have := HdN.out; omega) M8.out M9.out, SE.out⟩
            · have x1 : ¬ (st : Int) < (m : Int) := by omega
              have y1 : (a : Int) < (st : Int) := by omega
              have y2 : (st : Int) < (mid : Int) := by omega
              have z1 : ¬ (mid : Int) < (en : Int) := by omega
              have HALF : Hid (Half key a st mid en b d d) := hide (by
                obtain ⟨A, X, Y, B, h1, h2, h3, h4, h5⟩ := PARTS.out
                obtain rfl : X = [] := List.eq_nil_of_length_eq_zero (by omega)
                exact h5 d (by rw [h1]; simp))
              have HZ1 : Hid (d.size = N) := HdN
              clear PARTS
              go_wp2_with (go_at_fn 43; refine (HIH.out a st mid d wr (by omega) (by have := HZ1.out; have := HNe.out; omega) S1.out p1 p2 (by have := HZ1.out; omega) HALF.out.u1 HALF.out.u2).mono ?_; rintro e w8 ⟨rfl, d8, M8', S8'⟩; have M8 := hide M8'; have S8 : Aside (SWK enc k w0 blk off d8 w8) := S8'; clear M8' S8')
              have M9 : Hid (Mg key mid b d8 d8) := hide (Mg.none (by have e := (HALF.out.u4.same fun i h1 h2 => M8.out.st.out i (by omega)); rw [show en = mid by omega] at e; exact e))
              have SE : Hid (SWK enc k w0 blk off d8 _) := S8.out
              clear S8
              go_end0
              exact ⟨rfl, d8, HALF.out.done (by omega) (by omega) (by have := HdN.out; omega) M8.out M9.out, SE.out⟩
            · have x1 : ¬ (st : Int) < (m : Int) := by omega
              have y1 : (a : Int) < (st : Int) := by omega
              have y2 : (st : Int) < (mid : Int) := by omega
              have z1 : (mid : Int) < (en : Int) := by omega
              have z2 : ¬ (en : Int) < (b : Int) := by omega
              have HALF : Hid (Half key a st mid en b d d) := hide (by
                obtain ⟨A, X, Y, B, h1, h2, h3, h4, h5⟩ := PARTS.out
                obtain rfl : X = [] := List.eq_nil_of_length_eq_zero (by omega)
                exact h5 d (by rw [h1]; simp))
              have HZ1 : Hid (d.size = N) := HdN
              clear PARTS
              go_wp2_with (go_at_fn 43; refine (HIH.out a st mid d wr (by omega) (by have := HZ1.out; have := HNe.out; omega) S1.out p1 p2 (by have := HZ1.out; omega) HALF.out.u1 HALF.out.u2).mono ?_; rintro e w8 ⟨rfl, d8, M8', S8'⟩; have M8 := hide M8'; have S8 : Aside (SWK enc k w0 blk off d8 w8) := S8'; clear M8' S8')
              have M9 : Hid (Mg key mid b d8 d8) := hide (Mg.none (by have e := (HALF.out.u3.same fun i h1 h2 => M8.out.st.out i (by omega)); rw [show en = b by omega] at e; exact e))
              have SE : Hid (SWK enc k w0 blk off d8 _) := S8.out
              clear S8
              go_end0
              exact ⟨rfl, d8, HALF.out.done (by omega) (by omega) (by have := HdN.out; omega) M8.out M9.out, SE.out⟩
          · rcases (by omega : (mid < en ∧ en < b) ∨ ¬ mid < en ∨ (mid < en ∧ ¬ en < b)) with ⟨q1, q2⟩ | q1 | ⟨q1, q2⟩
            · have x1 : ¬ (st : Int) < (m : Int) := by omega
              have y1 : ¬ (a : Int) < (st : Int) := by omega
              have z1 : (mid : Int) < (en : Int) := by omega
              have z2 : (en : Int) < (b : Int) := by omega
              have HALF : Hid (Half key a st mid en b d d) := hide (by
                obtain ⟨A, X, Y, B, h1, h2, h3, h4, h5⟩ := PARTS.out
                obtain rfl : X = [] := List.eq_nil_of_length_eq_zero (by omega)
                exact h5 d (by rw [h1]; simp))
              have HZ1 : Hid (d.size = N) := HdN
              clear PARTS
              go_wp2_with (go_at_fn 43; refine (HIH.out mid en b d wr (by omega) (by have := HZ1.out; have := HNe.out; omega) S1.out q1 q2 (by have := HZ1.out; have := HNe.out; omega) HALF.out.u3 HALF.out.u4).mono ?_; rintro e w9 ⟨rfl, d9, M9', S9'⟩; have M9 := hide M9'; have S9 : Aside (SWK enc k w0 blk off d9 w9) := S9'; clear M9' S9')
              have M8 : Hid (Mg key a mid d d) := hide (Mg.none (by have e := HALF.out.u2; rw [show st = a by omega] at e; exact e))
              have SE : Hid (SWK enc k w0 blk off d9 _) := S9.out
              clear S9
              go_end0
              exact ⟨rfl, d9, HALF.out.done (by omega) (by omega) (by have := HdN.out; omega) M8.out M9.out, SE.out⟩
            · have x1 : ¬ (st : Int) < (m : Int) := by omega
              have y1 : ¬ (a : Int) < (st : Int) := by omega
              have z1 : ¬ (mid : Int) < (en : Int) := by omega
              have HALF : Hid (Half key a st mid en b d d) := hide (by
                obtain ⟨A, X, Y, B, h1, h2, h3, h4, h5⟩ := PARTS.out
                obtain rfl : X = [] := List.eq_nil_of_length_eq_zero (by omega)
                exact h5 d (by rw [h1]; simp))
              have HZ1 : Hid (d.size = N) := HdN
              clear PARTS
              go_wp2
              have M8 : Hid (Mg key a mid d d) := hide (Mg.none (by have e := HALF.out.u2; rw [show st = a by omega] at e; exact e))
              have M9 : Hid (Mg key mid b d d) := hide (Mg.none (by have e := HALF.out.u4; rw [show en = mid by omega] at e; exact e))
              have SE : Hid (SWK enc k w0 blk off d _) := S1.out
              clear S1
              go_end0
              exact ⟨rfl, d, HALF.out.done (by omega) (by omega) (by have := HdN.out; omega) M8.out M9.out, SE.out⟩
            · have x1 : ¬ (st : Int) < (m : Int) := by omega
              have y1 : ¬ (a : Int) < (st : Int) := by omega
              have z1 : (mid : Int) < (en : Int) := by omega
              have z2 : ¬ (en : Int) < (b : Int) := by omega
              have HALF : Hid (Half key a st mid en b d d) := hide (by
                obtain ⟨A, X, Y, B, h1, h2, h3, h4, h5⟩ := PARTS.out
                obtain rfl : X = [] := List.eq_nil_of_length_eq_zero (by omega)
                exact h5 d (by rw [h1]; simp))
              have HZ1 : Hid (d.size = N) := HdN
              clear PARTS
              go_wp2
              have M8 : Hid (Mg key a mid d d) := hide (Mg.none (by have e := HALF.out.u2; rw [show st = a by omega] at e; exact e))
              have M9 : Hid (Mg key mid b d d) := hide (Mg.none (by have e := HALF.out.u3; rw [show en = b by omega] at e; exact e))
              have SE : Hid (SWK enc k w0 blk off d _) := S1.out
              clear S1
              go_end0
              exact ⟨rfl, d, HALF.out.done (by omega) (by omega) (by have := HdN.out; omega) M8.out M9.out, SE.out⟩
          · rcases (by omega : (mid < en ∧ en < b) ∨ ¬ mid < en ∨ (mid < en ∧ ¬ en < b)) with ⟨q1, q2⟩ | q1 | ⟨q1, q2⟩
            · have x1 : ¬ (st : Int) < (m : Int) := by omega
              have y1 : (a : Int) < (st : Int) := by omega
              have y2 : ¬ (st : Int) < (mid : Int) := by omega
              have z1 : (mid : Int) < (en : Int) := by omega
              have z2 : (en : Int) < (b : Int) := by omega
              have HALF : Hid (Half key a st mid en b d d) := hide (by
                obtain ⟨A, X, Y, B, h1, h2, h3, h4, h5⟩ := PARTS.out
                obtain rfl : X = [] := List.eq_nil_of_length_eq_zero (by omega)
                exact h5 d (by rw [h1]; simp))
              have HZ1 : Hid (d.size = N) := HdN
              clear PARTS
              go_wp2_with (go_at_fn 43; refine (HIH.out mid en b d wr (by omega) (by have := HZ1.out; have := HNe.out; omega) S1.out q1 q2 (by have := HZ1.out; have := HNe.out; omega) HALF.out.u3 HALF.out.u4).mono ?_; rintro e w9 ⟨rfl, d9, M9', S9'⟩; have M9 := hide M9'; have S9 : Aside (SWK enc k w0 blk off d9 w9) := S9'; clear M9' S9')
              have M8 : Hid (Mg key a mid d d) := hide (Mg.none (by have e := HALF.out.u1; rw [show st = mid by omega] at e; exact e))
              have SE : Hid (SWK enc k w0 blk off d9 _) := S9.out
              clear S9
              go_end0
              exact ⟨rfl, d9, HALF.out.done (by omega) (by omega) (by have := HdN.out; omega) M8.out M9.out, SE.out⟩
            · have x1 : ¬ (st : Int) < (m : Int) := by omega
              have y1 : (a : Int) < (st : Int) := by omega
              have y2 : ¬ (st : Int) < (mid : Int) := by omega
              have z1 : ¬ (mid : Int) < (en : Int) := by omega
              have HALF : Hid (Half key a st mid en b d d) := hide (by
                obtain ⟨A, X, Y, B, h1, h2, h3, h4, h5⟩ := PARTS.out
                obtain rfl : X = [] := List.eq_nil_of_length_eq_zero (by omega)
                exact h5 d (by rw [h1]; simp))
              have HZ1 : Hid (d.size = N) := HdN
              clear PARTS
              go_wp2
              have M8 : Hid (Mg key a mid d d) := hide (Mg.none (by have e := HALF.out.u1; rw [show st = mid by omega] at e; exact e))
              have M9 : Hid (Mg key mid b d d) := hide (Mg.none (by have e := HALF.out.u4; rw [show en = mid by omega] at e; exact e))
              have SE : Hid (SWK enc k w0 blk off d _) := S1.out
              clear S1
              go_end0
              exact ⟨rfl, d, HALF.out.done (by omega) (by omega) (by have := HdN.out; omega) M8.out M9.out, SE.out⟩
            · have x1 : ¬ (st : Int) < (m : Int) := by omega
              have y1 : (a : Int) < (st : Int) := by omega
              have y2 : ¬ (st : Int) < (mid : Int) := by omega
              have z1 : (mid : Int) < (en : Int) := by omega
              have z2 : ¬ (en : Int) < (b : Int) := by omega
              have HALF : Hid (Half key a st mid en b d d) := hide (by
                obtain ⟨A, X, Y, B, h1, h2, h3, h4, h5⟩ := PARTS.out
                obtain rfl : X = [] := List.eq_nil_of_length_eq_zero (by omega)
                exact h5 d (by rw [h1]; simp))
              have HZ1 : Hid (d.size = N) := HdN
              clear PARTS
              go_wp2
              have M8 : Hid (Mg key a mid d d) := hide (Mg.none (by have e := HALF.out.u1; rw [show st = mid by omega] at e; exact e))
              have M9 : Hid (Mg key mid b d d) := hide (Mg.none (by have e := HALF.out.u3; rw [show en = b by omega] at e; exact e))
              have SE : Hid (SWK enc k w0 blk off d _) := S1.out
              clear S1
              go_end0
              exact ⟨rfl, d, HALF.out.done (by omega) (by omega) (by have := HdN.out; omega) M8.out M9.out, SE.out⟩
        · rcases (by omega : (a < st ∧ st < mid) ∨ ¬ a < st ∨ (a < st ∧ ¬ st < mid)) with ⟨p1, p2⟩ | p1 | ⟨p1, p2⟩
          · rcases (by omega : (mid < en ∧ en < b) ∨ ¬ mid < en ∨ (mid < en ∧ ¬ en < b)) with ⟨q1, q2⟩ | q1 | ⟨q1, q2⟩
            · have x1 : (st : Int) < (m : Int) := by omega
              have x2 : ¬ (m : Int) < (en : Int) := by omega
              have y1 : (a : Int) < (st : Int) := by omega
              have y2 : (st : Int) < (mid : Int) := by omega
              have z1 : (mid : Int) < (en : Int) := by omega
              have z2 : (en : Int) < (b : Int) := by omega
              have HALF : Hid (Half key a st mid en b d d) := hide (by
                obtain ⟨A, X, Y, B, h1, h2, h3, h4, h5⟩ := PARTS.out
                obtain rfl : Y = [] := List.eq_nil_of_length_eq_zero (by omega)
                exact h5 d (by rw [h1]; simp))
              have HZ1 : Hid (d.size = N) := HdN
              clear PARTS
              go_wp2_with (first | (go_at_fn 43; refine (HIH.out a st mid d wr (by omega) (by have := HZ1.out; have := HNe.out; omega) S1.out p1 p2 (by have := HZ1.out; omega) HALF.out.u1 HALF.out.u2).mono ?_; rintro e w8 ⟨rfl, d8, M8', S8'⟩; have M8 := hide M8'; have S8 : Aside (SWK enc k w0 blk off d8 w8) := S8'; clear M8' S8') | (go_at_fn 43; refine (HIH.out mid en b d8 w8 (by omega) (by have := M8.out.st.size; have := HZ1.out; have := HNe.out; omega) S8.out q1 q2 (by have := M8.out.st.size; have := HZ1.out; have := HNe.out; omega) (HALF.out.u3.same fun i h1 h2 => M8.out.st.out i (by omega)) (HALF.out.u4.same fun i h1 h2 => M8.out.st.out i (by omega))).mono ?_; rintro e w9 ⟨rfl, d9, M9', S9'⟩; have M9 := hide M9'; have S9 : Aside (SWK enc k w0 blk off d9 w9) := S9'; clear M9' S9'))
              have SE : Hid (SWK enc k w0 blk off d9 _) := S9.out
              clear S9
              go_end0
              exact ⟨rfl, d9, HALF.out.done (by omega) (by omega) (by have := HdN.out; omega) M8.out M9.out, SE.out⟩
            · have x1 : (st : Int) < (m : Int) := by omega
              have x2 : ¬ (m : Int) < (en : Int) := by omega
              have y1 : (a : Int) < (st : Int) := by omega
              have y2 : (st : Int) < (mid : Int) := by omega
              have z1 : ¬ (mid : Int) < (en : Int) := by omega
              have HALF : Hid (Half key a st mid en b d d) := hide (by
                obtain ⟨A, X, Y, B, h1, h2, h3, h4, h5⟩ := PARTS.out
                obtain rfl : Y = [] := List.eq_nil_of_length_eq_zero (by omega)
                exact h5 d (by rw [h1]; simp))
              have HZ1 : Hid (d.size = N) := HdN
              clear PARTS
              go_wp2_with (go_at_fn 43; refine (HIH.out a st mid d wr (by omega) (by have := HZ1.out; have := HNe.out; omega) S1.out p1 p2 (by have := HZ1.out; omega) HALF.out.u1 HALF.out.u2).mono ?_; rintro e w8 ⟨rfl, d8, M8', S8'⟩; have M8 := hide M8'; have S8 : Aside (SWK enc k w0 blk off d8 w8) := S8'; clear M8' S8')
              have M9 : Hid (Mg key mid b d8 d8) := hide (Mg.none (by have e := (HALF.out.u4.same fun i h1 h2 => M8.out.st.out i (by omega)); rw [show en = mid by omega] at e; exact e))
              have SE : Hid (SWK enc k w0 blk off d8 _) := S8.out
              clear S8
              go_end0
              exact ⟨rfl, d8, HALF.out.done (by omega) (by omega) (by have := HdN.out; omega) M8.out M9.out, SE.out⟩
            · have x1 : (st : Int) < (m : Int) := by omega
              have x2 : ¬ (m : Int) < (en : Int) := by omega
              have y1 : (a : Int) < (st : Int) := by omega
              have y2 : (st : Int) < (mid : Int) := by omega
              have z1 : (mid : Int) < (en : Int) := by omega
              have z2 : ¬ (en : Int) < (b : Int) := by omega
              have HALF : Hid (Half key a st mid en b d d) := hide (by
                obtain ⟨A, X, Y, B, h1, h2, h3, h4, h5⟩ := PARTS.out
                obtain rfl : Y = [] := List.eq_nil_of_length_eq_zero (by omega)
                exact h5 d (by rw [h1]; simp))
              have HZ1 : Hid (d.size = N) := HdN
              clear PARTS
              go_wp2_with (go_at_fn 43; refine (HIH.out a st mid d wr (by omega) (by have := HZ1.out; have := HNe.out; omega) S1.out p1 p2 (by have := HZ1.out; omega) HALF.out.u1 HALF.out.u2).mono ?_; rintro e w8 ⟨rfl, d8, M8', S8'⟩; have M8 := hide M8'; have S8 : Aside (SWK enc k w0 blk off d8 w8) := S8'; clear M8' S8')
              have M9 : Hid (Mg key mid b d8 d8) := hide (Mg.none (by have e := (HALF.out.u3.same fun i h1 h2 => M8.out.st.out i (by omega)); rw [show en = b by omega] at e; exact e))
              have SE : Hid (SWK enc k w0 blk off d8 _) := S8.out
              clear S8
              go_end0
              exact ⟨rfl, d8, HALF.out.done (by omega) (by omega) (by have := HdN.out; omega) M8.out M9.out, SE.out⟩
          · rcases (by omega : (mid < en ∧ en < b) ∨ ¬ mid < en ∨ (mid < en ∧ ¬ en < b)) with ⟨q1, q2⟩ | q1 | ⟨q1, q2⟩
            · have x1 : (st : Int) < (m : Int) := by omega
              have x2 : ¬ (m : Int) < (en : Int) := by omega
              have y1 : ¬ (a : Int) < (st : Int) := by omega
              have z1 : (mid : Int) < (en : Int) := by omega
              have z2 : (en : Int) < (b : Int) := by omega
              have HALF : Hid (Half key a st mid en b d d) := hide (by
                obtain ⟨A, X, Y, B, h1, h2, h3, h4, h5⟩ := PARTS.out
                obtain rfl : Y = [] := List.eq_nil_of_length_eq_zero (by omega)
                exact h5 d (by rw [h1]; simp))
              have HZ1 : Hid (d.size = N) := HdN
              clear PARTS
              go_wp2_with (go_at_fn 43; refine (HIH.out mid en b d wr (by omega) (by have := HZ1.out; have := HNe.out; omega) S1.out q1 q2 (by have := HZ1.out; have := HNe.out; omega) HALF.out.u3 HALF.out.u4).mono ?_; rintro e w9 ⟨rfl, d9, M9', S9'⟩; have M9 := hide M9'; have S9 : Aside (SWK enc k w0 blk off d9 w9) := S9'; clear M9' S9')
              have M8 : Hid (Mg key a mid d d) := hide (Mg.none (by have e := HALF.out.u2; rw [show st = a by omega] at e; exact e))
              have SE : Hid (SWK enc k w0 blk off d9 _) := S9.out
              clear S9
              go_end0
              exact ⟨rfl, d9, HALF.out.done (by omega) (by omega) (by have := HdN.out; omega) M8.out M9.out, SE.out⟩
            · have x1 : (st : Int) < (m : Int) := by omega
              have x2 : ¬ (m : Int) < (en : Int) := by omega
              have y1 : ¬ (a : Int) < (st : Int) := by omega
              have z1 : ¬ (mid : Int) < (en : Int) := by omega
              have HALF : Hid (Half key a st mid en b d d) := hide (by
                obtain ⟨A, X, Y, B, h1, h2, h3, h4, h5⟩ := PARTS.out
                obtain rfl : Y = [] := List.eq_nil_of_length_eq_zero (by omega)
                exact h5 d (by rw [h1]; simp))
              have HZ1 : Hid (d.size = N) := HdN
              clear PARTS
              go_wp2
              have M8 : Hid (Mg key a mid d d) := hide (Mg.none (by have e := HALF.out.u2; rw [show st = a by omega] at e; exact e))
              have M9 : Hid (Mg key mid b d d) := hide (Mg.none (by have e := HALF.out.u4; rw [show en = mid by omega] at e; exact e))
              have SE : Hid (SWK enc k w0 blk off d _) := S1.out
              clear S1
              go_end0
              exact ⟨rfl, d, HALF.out.done (by omega) (by omega) (by have := HdN.out; omega) M8.out M9.out, SE.out⟩
            · have x1 : (st : Int) < (m : Int) := by omega
              have x2 : ¬ (m : Int) < (en : Int) := by omega
              have y1 : ¬ (a : Int) < (st : Int) := by omega
              have z1 : (mid : Int) < (en : Int) := by omega
              have z2 : ¬ (en : Int) < (b : Int) := by omega
              have HALF : Hid (Half key a st mid en b d d) := hide (by
                obtain ⟨A, X, Y, B, h1, h2, h3, h4, h5⟩ := PARTS.out
                obtain rfl : Y = [] := List.eq_nil_of_length_eq_zero (by omega)
                exact h5 d (by rw [h1]; simp))
              have HZ1 : Hid (d.size = N) := HdN
              clear PARTS
              go_wp2
              have M8 : Hid (Mg key a mid d d) := hide (Mg.none (by have e := HALF.out.u2; rw [show st = a by omega] at e; exact e))
              have M9 : Hid (Mg key mid b d d) := hide (Mg.none (by have e := HALF.out.u3; rw [show en = b by omega] at e; exact e))
              have SE : Hid (SWK enc k w0 blk off d _) := S1.out
              clear S1
              go_end0
              exact ⟨rfl, d, HALF.out.done (by omega) (by omega) (by have := HdN.out; omega) M8.out M9.out, SE.out⟩
          · rcases (by omega : (mid < en ∧ en < b) ∨ ¬ mid < en ∨ (mid < en ∧ ¬ en < b)) with ⟨q1, q2⟩ | q1 | ⟨q1, q2⟩
            · have x1 : (st : Int) < (m : Int) := by omega
              have x2 : ¬ (m : Int) < (en : Int) := by omega
              have y1 : (a : Int) < (st : Int) := by omega
              have y2 : ¬ (st : Int) < (mid : Int) := by omega
              have z1 : (mid : Int) < (en : Int) := by omega
              have z2 : (en : Int) < (b : Int) := by omega
              have HALF : Hid (Half key a st mid en b d d) := hide (by
                obtain ⟨A, X, Y, B, h1, h2, h3, h4, h5⟩ := PARTS.out
                obtain rfl : Y = [] := List.eq_nil_of_length_eq_zero (by omega)
                exact h5 d (by rw [h1]; simp))
              have HZ1 : Hid (d.size = N) := HdN
              clear PARTS
              go_wp2_with (go_at_fn 43; refine (HIH.out mid en b d wr (by omega) (by have := HZ1.out; have := HNe.out; omega) S1.out q1 q2 (by have := HZ1.out; have := HNe.out; omega) HALF.out.u3 HALF.out.u4).mono ?_; rintro e w9 ⟨rfl, d9, M9', S9'⟩; have M9 := hide M9'; have S9 : Aside (SWK enc k w0 blk off d9 w9) := S9'; clear M9' S9')
              have M8 : Hid (Mg key a mid d d) := hide (Mg.none (by have e := HALF.out.u1; rw [show st = mid by omega] at e; exact e))
              have SE : Hid (SWK enc k w0 blk off d9 _) := S9.out
              clear S9
              go_end0
              exact ⟨rfl, d9, HALF.out.done (by omega) (by omega) (by have := HdN.out; omega) M8.out M9.out, SE.out⟩
            · have x1 : (st : Int) < (m : Int) := by omega
              have x2 : ¬ (m : Int) < (en : Int) := by omega
              have y1 : (a : Int) < (st : Int) := by omega
              have y2 : ¬ (st : Int) < (mid : Int) := by omega
              have z1 : ¬ (mid : Int) < (en : Int) := by omega
              have HALF : Hid (Half key a st mid en b d d) := hide (by
                obtain ⟨A, X, Y, B, h1, h2, h3, h4, h5⟩ := PARTS.out
                obtain rfl : Y = [] := List.eq_nil_of_length_eq_zero (by omega)
                exact h5 d (by rw [h1]; simp))
              have HZ1 : Hid (d.size = N) := HdN
              clear PARTS
              go_wp2
              have M8 : Hid (Mg key a mid d d) := hide (Mg.none (by have e := HALF.out.u1; rw [show st = mid by omega] at e; exact e))
              have M9 : Hid (Mg key mid b d d) := hide (Mg.none (by have e := HALF.out.u4; rw [show en = mid by omega] at e; exact e))
              have SE : Hid (SWK enc k w0 blk off d _) := S1.out
              clear S1
              go_end0
              exact ⟨rfl, d, HALF.out.done (by omega) (by omega) (by have := HdN.out; omega) M8.out M9.out, SE.out⟩
            · have x1 : (st : Int) < (m : Int) := by omega
              have x2 : ¬ (m : Int) < (en : Int) := by omega
              have y1 : (a : Int) < (st : Int) := by omega
              have y2 : ¬ (st : Int) < (mid : Int) := by omega
              have z1 : (mid : Int) < (en : Int) := by omega
              have z2 : ¬ (en : Int) < (b : Int) := by omega
              have HALF : Hid (Half key a st mid en b d d) := hide (by
                obtain ⟨A, X, Y, B, h1, h2, h3, h4, h5⟩ := PARTS.out
                obtain rfl : Y = [] := List.eq_nil_of_length_eq_zero (by omega)
                exact h5 d (by rw [h1]; simp))
              have HZ1 : Hid (d.size = N) := HdN
              clear PARTS
              go_wp2
              have M8 : Hid (Mg key a mid d d) := hide (Mg.none (by have e := HALF.out.u1; rw [show st = mid by omega] at e; exact e))
              have M9 : Hid (Mg key mid b d d) := hide (Mg.none (by have e := HALF.out.u3; rw [show en = b by omega] at e; exact e))
              have SE : Hid (SWK enc k w0 blk off d _) := S1.out
              clear S1
              go_end0
              exact ⟨rfl, d, HALF.out.done (by omega) (by omega) (by have := HdN.out; omega) M8.out M9.out, SE.out⟩

/-- symMerge: two rising parts are merged; those of one key stay in their order. -/
theorem symMerge_any (L : Ls P k) {enc : α → List Value} {g : Nat} {cb : Array Value} {blk off : Nat} {d0 : Array α} {w0 : World} (G : Gv P k key enc g cb blk off d0 w0) (cap : Nat) : ∀ (n a m b : Nat) (d : Array α) (w : World), b - a ≤ n → d.size = d0.size → SWK enc k w0 blk off d w → a < m → m < b → b ≤ d.size → Up key a m d → Up key m b d →
    Calls P 43 #[.slice (some ⟨blk, off, none⟩) d0.size cap, .int .i64 a, .int .i64 m, .int .i64 b, .func (.func g) #[] cb] w fun e w' => e = .returned (.tuple #[]) ∧ ∃ d' : Array α, Mg key a b d d' ∧ SWK enc k w0 blk off d' w'
  | 0, a, m, b, d, w, hn, _, _, h1, h2, _, _, _ => by omega
  | n + 1, a, m, b, d, w, hn, hs, S, h1, h2, hb, hu1, hu2 => by
    by_cases e1 : m = a + 1
    · subst e1; exact sym_left L G cap a b d w hs S h2 hb hu2
    · by_cases e2 : b = m + 1
      · subst e2; exact sym_right L G cap a m d w hs S (by omega) hb hu1
      · exact sym_mid L G cap a m b d w hs S (by omega) (by omega) hb hu1 hu2 fun a' m' b' d' w' q1 q2 q3 q4 q5 q6 q7 q8 => symMerge_any L G cap n a' m' b' d' w' (by omega) q2 q3 q4 q5 q6 q7 q8

end Sb
end Go.Proofs.Ytfmlbcddomggaaa
