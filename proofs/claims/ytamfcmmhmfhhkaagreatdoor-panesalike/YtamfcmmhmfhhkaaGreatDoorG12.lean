/- The program's small answers: does a byte stand for itself, may a pane be; comparisons. Where the library's functions lie in the program. The program's kinds and the library's tables in memory. What the program's panes are to answer: the laws are walked over this, and the program is held against it. -/
import Derived.Test.YtamfcmmhmfhhkaaGreatDoorG7
import Derived.Test.YtamfcmmhmfhhkaaGreatDoorG3
import Derived.Shelf.LaysM
import Derived.Shelf.LaysC
import Derived.Shelf.Small.Strs
import Derived.Shelf.Strconv.AppendIntPublic10
import Derived.Shelf.Strconv.ParseIntPublic10
import Derived.Shelf.Strconv.Itoa3
import Derived.Shelf.Strconv.Clone
import Derived.Test.YtamfcmmhmfhhkaaGreatDoorProg
import Derived.Test.YtamfcmmhmfhhkaaGreatDoorG8
import Derived.Lib.ItoaLen
import Derived.Lib.AppendIntMem
import Derived.Lib.ParseIntBTie
import Derived.Test.YtamfcmmhmfhhkaaGreatDoorG11
import Derived.Test.YtamfcmmhmfhhkaaGreatDoorG5
import Derived.Deep.CutRange
namespace Go.Proofs.YtamfcmmhmfhhkaaGreatDoor
open Go.RowKit

/-- Does a byte stand for itself? -/
def itB (b : Int) : Bool := decide (32 ≤ b ∧ b ≤ 126 ∧ b ≠ 34 ∧ b ≠ 92)

set_option maxRecDepth 100000 in
theorem itself_any (b : Int) (w : World) : Calls Tryz.prog 47 #[.int .u8 b] w fun e w' => e = .returned (.bool (itB b)) ∧ w' = w := by
  have g : Hid (itB b = decide (32 ≤ b ∧ b ≤ 126 ∧ b ≠ 34 ∧ b ≠ 92)) := hide rfl
  by_cases h1 : 32 ≤ b
  · by_cases h2 : b ≤ 126
    · by_cases h3 : b = 34
      · have z3 : (b != 34) = false := by rw [bne_eq_false_iff_eq]; exact h3
        have G : Hid (itB b = false) := hide (by rw [g.out]; exact decide_eq_false (fun h => h.2.2.1 h3))
        clear g h3
        go_enter Tryz.func47, Tryz.ntmps47
        go_wp2_with fail
        go_ret
        exact ⟨by rw [G.out]; rfl, rfl⟩
      · have z3 : (b != 34) = true := by rw [bne_iff_ne]; exact h3
        by_cases h4 : b = 92
        · have z4 : (b != 92) = false := by rw [bne_eq_false_iff_eq]; exact h4
          have G : Hid (itB b = false) := hide (by rw [g.out]; exact decide_eq_false (fun h => h.2.2.2 h4))
          clear g h3 h4
          go_enter Tryz.func47, Tryz.ntmps47
          go_wp2_with fail
          go_ret
          exact ⟨by rw [G.out]; rfl, rfl⟩
        · have z4 : (b != 92) = true := by rw [bne_iff_ne]; exact h4
          have G : Hid (itB b = true) := hide (by rw [g.out]; exact decide_eq_true ⟨h1, h2, h3, h4⟩)
          clear g h3 h4
          go_enter Tryz.func47, Tryz.ntmps47
          go_wp2_with fail
          go_ret
          exact ⟨by rw [G.out]; rfl, rfl⟩
    · have G : Hid (itB b = false) := hide (by rw [g.out]; exact decide_eq_false (fun h => h2 h.2.1))
      clear g
      go_enter Tryz.func47, Tryz.ntmps47
      go_wp2_with fail
      go_ret
      exact ⟨by rw [G.out]; rfl, rfl⟩
  · have G : Hid (itB b = false) := hide (by rw [g.out]; exact decide_eq_false (fun h => h1 h.1))
    clear g
    go_enter Tryz.func47, Tryz.ntmps47
    go_wp2_with fail
    go_ret
    exact ⟨by rw [G.out]; rfl, rfl⟩

set_option maxRecDepth 100000 in
set_option maxHeartbeats 1000000 in
theorem maybe_any (p : Pn) (w : World) : Calls Tryz.prog 32 #[pnv p] w fun e w' => e = .returned (.bool (mayP p)) ∧ Calm w w' := by
  have T0 : Hid (∀ o, Calm w (w.alloc o)) := hide fun o => (Touch.refl _ w).alloc o
  have A0 := hide (al_new w (.cells (pnc p) 40))
  obtain ⟨k, a, b, d, n, t⟩ := p
  have c0 : Hid ((w.alloc (.cells (pnc ⟨k, a, b, d, n, t⟩) 40)).cell? ⟨w.heap.size, 0, none⟩ = some (.string k) ∧ (w.alloc (.cells (pnc ⟨k, a, b, d, n, t⟩) 40)).cell? ⟨w.heap.size, 3, none⟩ = some (.int .i64 d)) := hide ⟨(pn_cells A0.out).1.1, (pn_cells A0.out).1.2.2.2.1⟩
  have g : Hid (mayP ⟨k, a, b, d, n, t⟩ = decide (k.size ≤ 256 ∧ 1 ≤ d ∧ d ≤ 3)) := hide rfl
  by_cases h1 : k.size ≤ 256
  · have z1 : (k.size : Int) ≤ 256 := by omega
    by_cases h2 : 1 ≤ d
    · by_cases h3 : d ≤ 3
      · go_enter Tryz.func32, Tryz.ntmps32
        obtain ⟨c1, c2⟩ := c0.out
        go_wp2_with fail
        go_ret
        exact ⟨by rw [g.out, decide_eq_true ⟨h1, h2, h3⟩]; rfl, T0.out _⟩
      · go_enter Tryz.func32, Tryz.ntmps32
        obtain ⟨c1, c2⟩ := c0.out
        go_wp2_with fail
        go_ret
        exact ⟨by rw [g.out, decide_eq_false (fun h => by omega)]; rfl, T0.out _⟩
    · go_enter Tryz.func32, Tryz.ntmps32
      obtain ⟨c1, c2⟩ := c0.out
      go_wp2_with fail
      go_ret
      exact ⟨by rw [g.out, decide_eq_false (fun h => by omega)]; rfl, T0.out _⟩
  · have z1 : ¬ (k.size : Int) ≤ 256 := by omega
    go_enter Tryz.func32, Tryz.ntmps32
    obtain ⟨c1, c2⟩ := c0.out
    go_wp2_with fail
    go_ret
    exact ⟨by rw [g.out, decide_eq_false (fun h => by omega)]; rfl, T0.out _⟩

end Go.Proofs.YtamfcmmhmfhhkaaGreatDoor

namespace Go.Proofs
open Go.Shelf
def Tryz.laysM246_ren : Go.Shelf.Ren := ⟨fun | 246 => 80 | 283 => 85 | 284 => 86 | 285 => 87 | 286 => 88 | 129 => 102 | 317 => 101 | 318 => 103 | 319 => 104 | 320 => 105 | 337 => 112 | 338 => 113 | n => n, fun | 2 => 2 | 3 => 3 | 9 => 9 | 4 => 4 | 171 => 143 | 0 => 0 | 53 => 135 | 37 => 64 | 5 => 5 | 173 => 146 | 212 => 158 | 51 => 159 | 20 => 20 | 213 => 160 | 46 => 88 | 232 => 171 | 233 => 172 | n => n, fun | 17 => 1 | 18 => 5 | 19 => 6 | n => n⟩
theorem Tryz.laysM246 : Go.Proofs.LaysM.n246 Tryz.prog Tryz.laysM246_ren := {
  mixed := by kernel_rfl
  f129 := Tryz.func102.trans (congrArg some (by kernel_rfl))
  f246 := Tryz.func80.trans (congrArg some (by kernel_rfl))
  f283 := Tryz.func85.trans (congrArg some (by kernel_rfl))
  f284 := Tryz.func86.trans (congrArg some (by kernel_rfl))
  f285 := Tryz.func87.trans (congrArg some (by kernel_rfl))
  f286 := Tryz.func88.trans (congrArg some (by kernel_rfl))
  f317 := Tryz.func101.trans (congrArg some (by kernel_rfl))
  f318 := Tryz.func103.trans (congrArg some (by kernel_rfl))
  f319 := Tryz.func104.trans (congrArg some (by kernel_rfl))
  f320 := Tryz.func105.trans (congrArg some (by kernel_rfl))
  f337 := Tryz.func112.trans (congrArg some (by kernel_rfl))
  f338 := Tryz.func113.trans (congrArg some (by kernel_rfl))
  t0 := Tryz.underlying0
  a0 := Tryz.isAgg0
  z0 := Tryz.sizeOf0
  v0 := Tryz.zeroValue0
  t2 := Tryz.underlying2
  a2 := Tryz.isAgg2
  z2 := Tryz.sizeOf2
  v2 := Tryz.zeroValue2
  t3 := Tryz.underlying3
  a3 := Tryz.isAgg3
  z3 := Tryz.sizeOf3
  v3 := Tryz.zeroValue3
  t4 := Tryz.underlying4
  a4 := Tryz.isAgg4
  z4 := Tryz.sizeOf4
  v4 := Tryz.zeroValue4
  t5 := Tryz.underlying5
  a5 := Tryz.isAgg5
  z5 := Tryz.sizeOf5
  v5 := Tryz.zeroValue5
  t9 := Tryz.underlying9
  a9 := Tryz.isAgg9
  z9 := Tryz.sizeOf9
  v9 := Tryz.zeroValue9
  t20 := Tryz.underlying20
  a20 := Tryz.isAgg20
  z20 := Tryz.sizeOf20
  v20 := Tryz.zeroValue20
  t37 := Tryz.underlying64
  a37 := Tryz.isAgg64
  z37 := Tryz.sizeOf64
  v37 := Tryz.zeroValue64
  t46 := Tryz.underlying88
  a46 := Tryz.isAgg88
  z46 := Tryz.sizeOf88
  v46 := Tryz.zeroValue88
  t51 := Tryz.underlying159
  a51 := Tryz.isAgg159
  z51 := Tryz.sizeOf159
  v51 := Tryz.zeroValue159
  t53 := Tryz.underlying135
  a53 := Tryz.isAgg135
  z53 := Tryz.sizeOf135
  v53 := Tryz.zeroValue135
  t171 := Tryz.underlying143
  a171 := Tryz.isAgg143
  z171 := Tryz.sizeOf143
  v171 := Tryz.zeroValue143
  t173 := Tryz.underlying146
  a173 := Tryz.isAgg146
  z173 := Tryz.sizeOf146
  v173 := Tryz.zeroValue146
  t212 := Tryz.underlying158
  a212 := Tryz.isAgg158
  z212 := Tryz.sizeOf158
  v212 := Tryz.zeroValue158
  t213 := Tryz.underlying160
  a213 := Tryz.isAgg160
  z213 := Tryz.sizeOf160
  t232 := Tryz.underlying171
  a232 := Tryz.isAgg171
  z232 := Tryz.sizeOf171
  v232 := Tryz.zeroValue171
  t233 := Tryz.underlying172
  a233 := Tryz.isAgg172
  z233 := Tryz.sizeOf172
  v233 := Tryz.zeroValue172
  g17 := by kernel_rfl
  g18 := by kernel_rfl
  g19 := by kernel_rfl
  i0 := by kernel_rfl
  i2 := by kernel_rfl
  i3 := by kernel_rfl
  i4 := by kernel_rfl
  i5 := by kernel_rfl
  i9 := by kernel_rfl
  i20 := by kernel_rfl
  i37 := by kernel_rfl
  i46 := by kernel_rfl
  i51 := by kernel_rfl
  i53 := by kernel_rfl
  i171 := by kernel_rfl
  i173 := by kernel_rfl
  i212 := by kernel_rfl
  i232 := by kernel_rfl
  i233 := by kernel_rfl
  m17 := by kernel_rfl
  m18 := by kernel_rfl
  m19 := by kernel_rfl }
def Tryz.laysM176_ren : Go.Shelf.Ren := ⟨fun | 176 => 48 | 249 => 68 | 288 => 76 | 283 => 85 | 284 => 86 | 285 => 87 | 286 => 88 | 129 => 102 | 317 => 101 | 318 => 103 | 319 => 104 | 320 => 105 | 337 => 112 | 338 => 113 | n => n, fun | 37 => 64 | 2 => 2 | 3 => 3 | 53 => 135 | 4 => 4 | 9 => 9 | 171 => 143 | 0 => 0 | 173 => 146 | 212 => 158 | 51 => 159 | 5 => 5 | 20 => 20 | 213 => 160 | 46 => 88 | 232 => 171 | 233 => 172 | n => n, fun | 17 => 1 | 18 => 5 | 19 => 6 | n => n⟩
theorem Tryz.laysM176 : Go.Proofs.LaysM.n176 Tryz.prog Tryz.laysM176_ren := {
  mixed := by kernel_rfl
  f129 := Tryz.func102.trans (congrArg some (by kernel_rfl))
  f176 := Tryz.func48.trans (congrArg some (by kernel_rfl))
  f249 := Tryz.func68.trans (congrArg some (by kernel_rfl))
  f283 := Tryz.func85.trans (congrArg some (by kernel_rfl))
  f284 := Tryz.func86.trans (congrArg some (by kernel_rfl))
  f285 := Tryz.func87.trans (congrArg some (by kernel_rfl))
  f286 := Tryz.func88.trans (congrArg some (by kernel_rfl))
  f288 := Tryz.func76.trans (congrArg some (by kernel_rfl))
  f317 := Tryz.func101.trans (congrArg some (by kernel_rfl))
  f318 := Tryz.func103.trans (congrArg some (by kernel_rfl))
  f319 := Tryz.func104.trans (congrArg some (by kernel_rfl))
  f320 := Tryz.func105.trans (congrArg some (by kernel_rfl))
  f337 := Tryz.func112.trans (congrArg some (by kernel_rfl))
  f338 := Tryz.func113.trans (congrArg some (by kernel_rfl))
  t0 := Tryz.underlying0
  a0 := Tryz.isAgg0
  z0 := Tryz.sizeOf0
  v0 := Tryz.zeroValue0
  t2 := Tryz.underlying2
  a2 := Tryz.isAgg2
  z2 := Tryz.sizeOf2
  v2 := Tryz.zeroValue2
  t3 := Tryz.underlying3
  a3 := Tryz.isAgg3
  z3 := Tryz.sizeOf3
  v3 := Tryz.zeroValue3
  t4 := Tryz.underlying4
  a4 := Tryz.isAgg4
  z4 := Tryz.sizeOf4
  v4 := Tryz.zeroValue4
  t5 := Tryz.underlying5
  a5 := Tryz.isAgg5
  z5 := Tryz.sizeOf5
  v5 := Tryz.zeroValue5
  t9 := Tryz.underlying9
  a9 := Tryz.isAgg9
  z9 := Tryz.sizeOf9
  v9 := Tryz.zeroValue9
  t20 := Tryz.underlying20
  a20 := Tryz.isAgg20
  z20 := Tryz.sizeOf20
  v20 := Tryz.zeroValue20
  t37 := Tryz.underlying64
  a37 := Tryz.isAgg64
  z37 := Tryz.sizeOf64
  v37 := Tryz.zeroValue64
  t46 := Tryz.underlying88
  a46 := Tryz.isAgg88
  z46 := Tryz.sizeOf88
  v46 := Tryz.zeroValue88
  t51 := Tryz.underlying159
  a51 := Tryz.isAgg159
  z51 := Tryz.sizeOf159
  v51 := Tryz.zeroValue159
  t53 := Tryz.underlying135
  a53 := Tryz.isAgg135
  z53 := Tryz.sizeOf135
  v53 := Tryz.zeroValue135
  t171 := Tryz.underlying143
  a171 := Tryz.isAgg143
  z171 := Tryz.sizeOf143
  v171 := Tryz.zeroValue143
  t173 := Tryz.underlying146
  a173 := Tryz.isAgg146
  z173 := Tryz.sizeOf146
  v173 := Tryz.zeroValue146
  t212 := Tryz.underlying158
  a212 := Tryz.isAgg158
  z212 := Tryz.sizeOf158
  v212 := Tryz.zeroValue158
  t213 := Tryz.underlying160
  a213 := Tryz.isAgg160
  z213 := Tryz.sizeOf160
  t232 := Tryz.underlying171
  a232 := Tryz.isAgg171
  z232 := Tryz.sizeOf171
  v232 := Tryz.zeroValue171
  t233 := Tryz.underlying172
  a233 := Tryz.isAgg172
  z233 := Tryz.sizeOf172
  v233 := Tryz.zeroValue172
  g17 := by kernel_rfl
  g18 := by kernel_rfl
  g19 := by kernel_rfl
  i0 := by kernel_rfl
  i2 := by kernel_rfl
  i3 := by kernel_rfl
  i4 := by kernel_rfl
  i5 := by kernel_rfl
  i9 := by kernel_rfl
  i20 := by kernel_rfl
  i37 := by kernel_rfl
  i46 := by kernel_rfl
  i51 := by kernel_rfl
  i53 := by kernel_rfl
  i171 := by kernel_rfl
  i173 := by kernel_rfl
  i212 := by kernel_rfl
  i232 := by kernel_rfl
  i233 := by kernel_rfl
  m17 := by kernel_rfl
  m18 := by kernel_rfl
  m19 := by kernel_rfl }
def Tryz.laysC174_ren : Go.Shelf.Ren := ⟨fun | 174 => 70 | 247 => 78 | 245 => 79 | 287 => 90 | 279 => 91 | 280 => 92 | 281 => 93 | 282 => 94 | 321 => 106 | 322 => 107 | 316 => 39 | 171 => 109 | 205 => 108 | 243 => 114 | 246 => 80 | 283 => 85 | 284 => 86 | 285 => 87 | 286 => 88 | 129 => 102 | 317 => 101 | 318 => 103 | 319 => 104 | 320 => 105 | 337 => 112 | 338 => 113 | n => n, fun | 9 => 9 | 3 => 3 | 2 => 2 | 75 => 124 | 85 => 125 | 4 => 4 | 167 => 148 | 5 => 5 | 53 => 135 | 175 => 149 | 46 => 88 | 168 => 151 | 37 => 64 | 0 => 0 | 210 => 165 | 21 => 21 | 127 => 109 | 145 => 170 | 143 => 168 | 171 => 143 | 173 => 146 | 212 => 158 | 51 => 159 | 20 => 20 | 213 => 160 | 232 => 171 | 233 => 172 | 80 => 99 | n => n, fun | 15 => 3 | 16 => 4 | 17 => 1 | 18 => 5 | 19 => 6 | n => n⟩
theorem Tryz.laysC174 : Go.Proofs.LaysC.n174 Tryz.prog Tryz.laysC174_ren := {
  mixed := by kernel_rfl
  f129 := Tryz.func102.trans (congrArg some (by kernel_rfl))
  f171 := Tryz.func109.trans (congrArg some (by kernel_rfl))
  f174 := Tryz.func70.trans (congrArg some (by kernel_rfl))
  f205 := Tryz.func108.trans (congrArg some (by kernel_rfl))
  f243 := Tryz.func114.trans (congrArg some (by kernel_rfl))
  f245 := Tryz.func79.trans (congrArg some (by kernel_rfl))
  f246 := Tryz.func80.trans (congrArg some (by kernel_rfl))
  f247 := Tryz.func78.trans (congrArg some (by kernel_rfl))
  f279 := Tryz.func91.trans (congrArg some (by kernel_rfl))
  f280 := Tryz.func92.trans (congrArg some (by kernel_rfl))
  f281 := Tryz.func93.trans (congrArg some (by kernel_rfl))
  f282 := Tryz.func94.trans (congrArg some (by kernel_rfl))
  f283 := Tryz.func85.trans (congrArg some (by kernel_rfl))
  f284 := Tryz.func86.trans (congrArg some (by kernel_rfl))
  f285 := Tryz.func87.trans (congrArg some (by kernel_rfl))
  f286 := Tryz.func88.trans (congrArg some (by kernel_rfl))
  f287 := Tryz.func90.trans (congrArg some (by kernel_rfl))
  f316 := Tryz.func39.trans (congrArg some (by kernel_rfl))
  f317 := Tryz.func101.trans (congrArg some (by kernel_rfl))
  f318 := Tryz.func103.trans (congrArg some (by kernel_rfl))
  f319 := Tryz.func104.trans (congrArg some (by kernel_rfl))
  f320 := Tryz.func105.trans (congrArg some (by kernel_rfl))
  f321 := Tryz.func106.trans (congrArg some (by kernel_rfl))
  f322 := Tryz.func107.trans (congrArg some (by kernel_rfl))
  f337 := Tryz.func112.trans (congrArg some (by kernel_rfl))
  f338 := Tryz.func113.trans (congrArg some (by kernel_rfl))
  t0 := Tryz.underlying0
  a0 := Tryz.isAgg0
  z0 := Tryz.sizeOf0
  v0 := Tryz.zeroValue0
  t2 := Tryz.underlying2
  a2 := Tryz.isAgg2
  z2 := Tryz.sizeOf2
  v2 := Tryz.zeroValue2
  t3 := Tryz.underlying3
  a3 := Tryz.isAgg3
  z3 := Tryz.sizeOf3
  v3 := Tryz.zeroValue3
  t4 := Tryz.underlying4
  a4 := Tryz.isAgg4
  z4 := Tryz.sizeOf4
  v4 := Tryz.zeroValue4
  t5 := Tryz.underlying5
  a5 := Tryz.isAgg5
  z5 := Tryz.sizeOf5
  v5 := Tryz.zeroValue5
  t9 := Tryz.underlying9
  a9 := Tryz.isAgg9
  z9 := Tryz.sizeOf9
  v9 := Tryz.zeroValue9
  t20 := Tryz.underlying20
  a20 := Tryz.isAgg20
  z20 := Tryz.sizeOf20
  v20 := Tryz.zeroValue20
  t21 := Tryz.underlying21
  a21 := Tryz.isAgg21
  z21 := Tryz.sizeOf21
  v21 := Tryz.zeroValue21
  t37 := Tryz.underlying64
  a37 := Tryz.isAgg64
  z37 := Tryz.sizeOf64
  v37 := Tryz.zeroValue64
  t46 := Tryz.underlying88
  a46 := Tryz.isAgg88
  z46 := Tryz.sizeOf88
  v46 := Tryz.zeroValue88
  t51 := Tryz.underlying159
  a51 := Tryz.isAgg159
  z51 := Tryz.sizeOf159
  v51 := Tryz.zeroValue159
  t53 := Tryz.underlying135
  a53 := Tryz.isAgg135
  z53 := Tryz.sizeOf135
  v53 := Tryz.zeroValue135
  t75 := Tryz.underlying124
  a75 := Tryz.isAgg124
  z75 := Tryz.sizeOf124
  v75 := Tryz.zeroValue124
  t85 := Tryz.underlying125
  a85 := Tryz.isAgg125
  z85 := Tryz.sizeOf125
  v85 := Tryz.zeroValue125
  t127 := Tryz.underlying109
  a127 := Tryz.isAgg109
  z127 := Tryz.sizeOf109
  v127 := Tryz.zeroValue109
  t143 := Tryz.underlying168
  a143 := Tryz.isAgg168
  z143 := Tryz.sizeOf168
  v143 := Tryz.zeroValue168
  t145 := Tryz.underlying170
  a145 := Tryz.isAgg170
  z145 := Tryz.sizeOf170
  v145 := Tryz.zeroValue170
  t167 := Tryz.underlying148
  a167 := Tryz.isAgg148
  z167 := Tryz.sizeOf148
  v167 := Tryz.zeroValue148
  t168 := Tryz.underlying151
  a168 := Tryz.isAgg151
  z168 := Tryz.sizeOf151
  v168 := Tryz.zeroValue151
  t171 := Tryz.underlying143
  a171 := Tryz.isAgg143
  z171 := Tryz.sizeOf143
  v171 := Tryz.zeroValue143
  t173 := Tryz.underlying146
  a173 := Tryz.isAgg146
  z173 := Tryz.sizeOf146
  v173 := Tryz.zeroValue146
  t175 := Tryz.underlying149
  a175 := Tryz.isAgg149
  z175 := Tryz.sizeOf149
  v175 := Tryz.zeroValue149
  t210 := Tryz.underlying165
  a210 := Tryz.isAgg165
  z210 := Tryz.sizeOf165
  v210 := Tryz.zeroValue165
  t212 := Tryz.underlying158
  a212 := Tryz.isAgg158
  z212 := Tryz.sizeOf158
  v212 := Tryz.zeroValue158
  t213 := Tryz.underlying160
  a213 := Tryz.isAgg160
  z213 := Tryz.sizeOf160
  t232 := Tryz.underlying171
  a232 := Tryz.isAgg171
  z232 := Tryz.sizeOf171
  v232 := Tryz.zeroValue171
  t233 := Tryz.underlying172
  a233 := Tryz.isAgg172
  z233 := Tryz.sizeOf172
  v233 := Tryz.zeroValue172
  g15 := by kernel_rfl
  g16 := by kernel_rfl
  g17 := by kernel_rfl
  g18 := by kernel_rfl
  g19 := by kernel_rfl
  t80 := Tryz.underlying99
  a80 := Tryz.isAgg99
  z80 := Tryz.sizeOf99
  v80 := Tryz.zeroValue99
  i0 := by kernel_rfl
  i2 := by kernel_rfl
  i3 := by kernel_rfl
  i4 := by kernel_rfl
  i5 := by kernel_rfl
  i9 := by kernel_rfl
  i20 := by kernel_rfl
  i21 := by kernel_rfl
  i37 := by kernel_rfl
  i46 := by kernel_rfl
  i51 := by kernel_rfl
  i53 := by kernel_rfl
  i75 := by kernel_rfl
  i80 := by kernel_rfl
  i85 := by kernel_rfl
  i127 := by kernel_rfl
  i143 := by kernel_rfl
  i145 := by kernel_rfl
  i167 := by kernel_rfl
  i168 := by kernel_rfl
  i171 := by kernel_rfl
  i173 := by kernel_rfl
  i175 := by kernel_rfl
  i210 := by kernel_rfl
  i212 := by kernel_rfl
  i232 := by kernel_rfl
  i233 := by kernel_rfl
  m15 := by kernel_rfl
  m16 := by kernel_rfl
  m17 := by kernel_rfl
  m18 := by kernel_rfl
  m19 := by kernel_rfl
  c0 := by kernel_rfl
  c2 := by kernel_rfl
  c3 := by kernel_rfl
  c4 := by kernel_rfl
  c5 := by kernel_rfl
  c9 := by kernel_rfl
  c20 := by kernel_rfl
  c21 := by kernel_rfl
  c37 := by kernel_rfl
  c46 := by kernel_rfl
  c51 := by kernel_rfl
  c53 := by kernel_rfl
  c75 := by kernel_rfl
  c80 := by kernel_rfl
  c85 := by kernel_rfl
  c127 := by kernel_rfl
  c143 := by kernel_rfl
  c145 := by kernel_rfl
  c167 := by kernel_rfl
  c168 := by kernel_rfl
  c171 := by kernel_rfl
  c173 := by kernel_rfl
  c175 := by kernel_rfl
  c210 := by kernel_rfl
  c212 := by kernel_rfl
  c213 := by kernel_rfl
  c232 := by kernel_rfl
  c233 := by kernel_rfl }
def Tryz.lays137_ren : Go.Shelf.Ren := ⟨fun | 137 => 69 | 217 => 77 | 266 => 89 | n => n, fun | 9 => 9 | 5 => 5 | 3 => 3 | n => n, fun | n => n⟩
theorem Tryz.lays137 : Go.Proofs.Lays.n137 Tryz.prog Tryz.lays137_ren := {
  mixed := by kernel_rfl
  f137 := Tryz.func69.trans (congrArg some (by kernel_rfl))
  f217 := Tryz.func77.trans (congrArg some (by kernel_rfl))
  f266 := Tryz.func89.trans (congrArg some (by kernel_rfl))
  t3 := Tryz.underlying3
  a3 := Tryz.isAgg3
  z3 := Tryz.sizeOf3
  v3 := Tryz.zeroValue3
  t5 := Tryz.underlying5
  a5 := Tryz.isAgg5
  z5 := Tryz.sizeOf5
  v5 := Tryz.zeroValue5
  t9 := Tryz.underlying9
  a9 := Tryz.isAgg9
  z9 := Tryz.sizeOf9
  v9 := Tryz.zeroValue9 }
def Tryz.laysM316_ren : Go.Shelf.Ren := ⟨fun | 316 => 39 | n => n, fun | 9 => 9 | 3 => 3 | 4 => 4 | 37 => 64 | 0 => 0 | 127 => 109 | 5 => 5 | n => n, fun | n => n⟩
theorem Tryz.laysM316 : Go.Proofs.LaysM.n316 Tryz.prog Tryz.laysM316_ren := {
  mixed := by kernel_rfl
  f316 := Tryz.func39.trans (congrArg some (by kernel_rfl))
  t0 := Tryz.underlying0
  a0 := Tryz.isAgg0
  z0 := Tryz.sizeOf0
  v0 := Tryz.zeroValue0
  t3 := Tryz.underlying3
  a3 := Tryz.isAgg3
  z3 := Tryz.sizeOf3
  v3 := Tryz.zeroValue3
  t4 := Tryz.underlying4
  a4 := Tryz.isAgg4
  z4 := Tryz.sizeOf4
  v4 := Tryz.zeroValue4
  t9 := Tryz.underlying9
  a9 := Tryz.isAgg9
  z9 := Tryz.sizeOf9
  v9 := Tryz.zeroValue9
  t37 := Tryz.underlying64
  a37 := Tryz.isAgg64
  z37 := Tryz.sizeOf64
  v37 := Tryz.zeroValue64
  t127 := Tryz.underlying109
  a127 := Tryz.isAgg109
  z127 := Tryz.sizeOf109
  v127 := Tryz.zeroValue109
  t5 := Tryz.underlying5
  a5 := Tryz.isAgg5
  z5 := Tryz.sizeOf5
  v5 := Tryz.zeroValue5
  i0 := by kernel_rfl
  i3 := by kernel_rfl
  i4 := by kernel_rfl
  i5 := by kernel_rfl
  i9 := by kernel_rfl
  i37 := by kernel_rfl
  i127 := by kernel_rfl }
end Go.Proofs

namespace Go.Proofs.YtamfcmmhmfhhkaaGreatDoor
open Go.RowKit

/-- The library's table of tens stands. -/
def Tab (w : World) : Prop := Lib.TabIs Tryz.prog w "internal/strconv.uint64pow10" .u64 Lib.pow10Tab
theorem Tab.calm {w w' : World} (h : Tab w) (ht : Calm w w') : Tab w' := Lib.tabBelow_of_tabIs h w' (Touch.below ht fun _ _ h => h)
theorem Tab.below {w : World} (h : Tab w) {B : Nat} (hB : B = w.heap.size) : Lib.TabBelow Tryz.prog B w "internal/strconv.uint64pow10" .u64 Lib.pow10Tab := by subst hB; exact Lib.tabBelow_of_tabIs h

theorem cell_calm {w w' : World} {b i : Nat} {v : Value} (h : w.cell? ⟨b, i, none⟩ = some v) (ht : Calm w w') : w'.cell? ⟨b, i, none⟩ = some v := by
  rw [ht.cell (p := ⟨b, i, none⟩) ?_ (fun h => h)]
  · exact h
  · rcases Nat.lt_or_ge b w.heap.size with h' | h'
    · exact h'
    · exfalso; simp [World.cell?, Array.getElem?_eq_none h'] at h

/-- The library's errors and the limit of its search lie there. -/
def Errs (w : World) : Prop := (∃ te pe, w.cell? ⟨3, 0, none⟩ = some (.iface te pe)) ∧ (∃ te pe, w.cell? ⟨4, 0, none⟩ = some (.iface te pe)) ∧ ∃ m, w.cell? ⟨2, 0, none⟩ = some (.int .i64 m)
theorem Errs.calm {w w' : World} (h : Errs w) (ht : Calm w w') : Errs w' := by
  obtain ⟨⟨a, b, h1⟩, ⟨c, d, h2⟩, m, h3⟩ := h
  exact ⟨⟨a, b, cell_calm h1 ht⟩, ⟨c, d, cell_calm h2 ht⟩, m, cell_calm h3 ht⟩

/-- The program's words for kinds: at 0 none. -/
def kdB (i : Nat) : ByteArray := if i = 0 then ⟨#[]⟩ else nameB (i : Int)
/-- They lie there. -/
def Kds (w : World) : Prop := ∀ i, i < 4 → w.cell? ⟨0, i, none⟩ = some (.string (kdB i))
theorem Kds.calm {w w' : World} (h : Kds w) (ht : Calm w w') : Kds w' := fun i hi => cell_calm (h i hi) ht

/-- What the program's variables hold. -/
structure Yv (w : World) : Prop where
  tab : Tab w
  errs : Errs w
  kds : Kds w
theorem Yv.calm {w w' : World} (h : Yv w) (ht : Calm w w') : Yv w' := ⟨h.tab.calm ht, h.errs.calm ht, h.kds.calm ht⟩
theorem calm_below {w w' : World} (h : Below w.heap.size w w') : Calm w w' := ⟨h.os, h.tape, h.output, h.size, fun k hk _ => h.block k hk⟩

end Go.Proofs.YtamfcmmhmfhhkaaGreatDoor

namespace Go.Proofs.YtamfcmmhmfhhkaaGreatDoor
open Go.RowKit

/-- What is told of a pane's line. -/
abbrev lineV (p : Pn) : Value := .tuple #[.string (if mayP p then lineB p else ⟨#[]⟩), .int .i64 (if mayP p then 0 else 2)]
def parE (o : Option Pn) : Value := .tuple #[pnv (o.getD pn0), .int .i64 (if o.isSome then 0 else 280)]
def aliP (A B : List Pn) : Bool := beginsP A B && beginsP B A

structure Ppk : Prop where
  line : ∀ (p : Pn) (w : World), NumOk p → Yv w → Calls Tryz.prog 20 #[pnv p] w fun e w' => e = .returned (lineV p) ∧ Calm w w'
  parse : ∀ (s : ByteArray) (w : World), s.size ≤ 900000 → Yv w → Calls Tryz.prog 21 #[.string s] w fun e w' => ∃ o, ParR s o ∧ e = .returned (parE o) ∧ Calm w w'
  alike : ∀ (A B : List Pn) (ao bo : Option Addr) (ac bc : Nat) (w : World), encP.Sl w ao ac A → encP.Sl w bo bc B → A.length ≤ 1000 → B.length ≤ 1000 → Calls Tryz.prog 17 #[.slice ao A.length ac, .slice bo B.length bc] w fun e w' => e = .returned (.bool (aliP A B)) ∧ Calm w w'
  begins : ∀ (A B : List Pn) (ao bo : Option Addr) (ac bc : Nat) (w : World), encP.Sl w ao ac A → encP.Sl w bo bc B → A.length ≤ 1000 → B.length ≤ 1000 → Calls Tryz.prog 16 #[.slice ao A.length ac, .slice bo B.length bc] w fun e w' => e = .returned (.bool (beginsP A B)) ∧ Calm w w'

/-- The document's example. -/
abbrev exP : Pn := ⟨⟨#[97]⟩, 0, 10, 3, 2, ⟨3, 6, -2, 7⟩⟩
abbrev exB : ByteArray := ⟨#[34, 97, 34, 32, 108, 97, 116, 101, 32, 48, 32, 49, 48, 32, 50, 32, 51, 32, 54, 32, 45, 50, 32, 55]⟩
theorem exNum : NumOk exP := by
  intro i hi
  rcases (by omega : i = 0 ∨ i = 1 ∨ i = 2 ∨ i = 3 ∨ i = 4 ∨ i = 5 ∨ i = 6) with rfl | rfl | rfl | rfl | rfl | rfl | rfl <;> simp [numsP]
theorem exMay : mayP exP = true := by decide
theorem exInt (n : Nat) (h : n < 10) : (intB (n : Int)).toList = [UInt8.ofNat (48 + n)] := by
  rw [intB_list, if_neg (by omega), List.nil_append, Int.natAbs_natCast]
  unfold Lib.decDigits
  rw [dif_pos h]
theorem exInt10 : (intB 10).toList = [49, 48] := by
  rw [intB_list, if_neg (by omega), List.nil_append]
  show Lib.decDigits 10 = _
  unfold Lib.decDigits
  rw [dif_neg (by omega)]
  unfold Lib.decDigits
  rw [dif_pos (by omega)]
  rfl
theorem exIntN : (intB (-2)).toList = [45, 50] := by
  rw [intB_list, if_pos (by omega)]
  show [45] ++ Lib.decDigits 2 = _
  unfold Lib.decDigits
  rw [dif_pos (by omega)]
  rfl
theorem exQk : qk ⟨#[97]⟩ = [34, 97, 34] := by
  unfold qk quoA quoL
  rw [ByteArray.toList_eq]
  decide
theorem exLine : lineB exP = exB := by
  apply ba_ext
  rw [line_split, exQk]
  have h0 := exInt 0 (by omega)
  have h2 := exInt 2 (by omega)
  have h3 := exInt 3 (by omega)
  have h6 := exInt 6 (by omega)
  have h7 := exInt 7 (by omega)
  have hn : (nameB 3).toList = [108, 97, 116, 101] := by rw [ByteArray.toList_eq]; rfl
  have e : tlP exP = [[], [108, 97, 116, 101], [48], [49, 48], [50], [51], [54], [45, 50], [55]] := by
    show [] :: (nameB 3).toList :: [(intB 0).toList, (intB 10).toList, (intB 2).toList, (intB 3).toList, (intB 6).toList, (intB (-2)).toList, (intB 7).toList] = _
    rw [hn, exInt10, exIntN, show (intB 0).toList = [48] from h0, show (intB 2).toList = [50] from h2, show (intB 3).toList = [51] from h3, show (intB 6).toList = [54] from h6, show (intB 7).toList = [55] from h7]
  rw [e, ByteArray.toList_eq]
  rfl
theorem beginsP_self (A : List Pn) : beginsP A A = true := by
  unfold beginsP okB
  rw [List.all_eq_true]
  intro k _
  simp
theorem aliP_self (A : List Pn) : aliP A A = true := by unfold aliP; rw [beginsP_self]; rfl
theorem line_par {p : Pn} {o : Option Pn} (hm : mayP p = true) (hn : NumOk p) (h : ParR (lineB p) o) : o = some p := ParR.one h ⟨hm, hn, rfl⟩

set_option maxRecDepth 100000 in
set_option maxHeartbeats 4000000 in
theorem known18_any (I : Ppk) (w : World) (hY : Yv w) : Calls Tryz.prog 5 #[] w fun e w' => e = .returned (.bool true) ∧ Calm w w' := by
  have CL := hide (fun W (h : Calm w W) => I.line exP W exNum (hY.calm h))
  rw [show lineV exP = .tuple #[.string exB, .int .i64 0] by unfold lineV; rw [exMay, exLine]; rfl] at CL
  have CP := hide (fun W (h : Calm w W) => I.parse exB W (by decide) (hY.calm h))
  have CP1 : Hid (∀ o, ParR exB o → o = some exP) := hide fun o h => line_par exMay exNum (by rw [exLine]; exact h)
  have CA := hide (fun (ao bo : Option Addr) (W : World) h1 h2 => I.alike [exP] [exP] ao bo 1 1 W h1 h2 (by decide) (by decide))
  rw [aliP_self] at CA
  have hi9 : (Tryz.prog.info? 40).map (·.size) = some 9 := by kernel_rfl
  have A0 := hide (al_new w (.cells (pnc exP) 40))
  have T0 := hide ((Touch.refl (fun _ => False) w).alloc (.cells (pnc exP) 40))
  go_enter Tryz.func5, Tryz.ntmps5
  go_wp2_with fail
  refine (CL.out _ T0.out).mono ?_
  rintro e w1 ⟨rfl, T1⟩
  have TE1 := hide (T0.out.tr T1)
  have AE1 := hide (T1.at A0.out)
  clear CL A0 T0 T1
  generalize w.heap.size = D at *
  go_wp2_with fail
  refine (CP.out _ TE1.out).mono ?_
  rintro e w2 ⟨o, hp, rfl, T2⟩
  obtain rfl := CP1.out o hp
  have TE2 := hide (TE1.out.tr T2)
  have AE2 := hide (T2.at AE1.out)
  have Z0 := hide (al_new w2 (.cells (pnc pn0) 40))
  have Z1 := hide (setRow_heap _ _ _ (pnc exP) _ _ Z0.out)
  have Z2 : Hid (Touch (fun _ => False) w2 ((w2.alloc (.cells (pnc pn0) 40)).setRow w2.heap.size (pnc exP))) := hide (((Touch.refl (fun _ => False) w2).alloc _).trans (S' := fun g => g = w2.heap.size) ⟨rfl, rfl, rfl, by simp, fun j _ hj => setRow_other _ _ j _ hj⟩ (fun g hg e => by omega))
  have hq1 : Hid ((pnc exP).all (·.oneCell') = true) := hide (by simp [Value.oneCell'])
  have AE3 := hide (Z2.out.at AE2.out)
  have TE3 := hide (TE2.out.tr Z2.out)
  clear TE1 AE1 CP CP1 T2 hp TE2 AE2
  unfold parE
  simp only [Option.getD_some, Option.isSome_some, if_true]
  go_upto_region 4 with (refine wpList_store_rowTo rfl 40 (.tmp 4) (.tmp 17) rfl rfl w2.heap.size _ rfl rfl 40 _ Z0.out hi9 rfl hq1.out ?_)
  generalize (w2.alloc (.cells (pnc pn0) 40)).setRow w2.heap.size (pnc exP) = w3 at *
  generalize w2.heap.size = E at *
  clear Z0 Z2 hq1
  obtain ⟨⟨c0, c1, c2, c3, c4⟩, c5, c6, c7, c8⟩ := pn_cells Z1.out
  obtain ⟨⟨d0, d1, d2, d3, d4⟩, d5, d6, d7, d8⟩ := pn_cells AE3.out
  obtain ⟨⟨e0, e1, e2, e3, e4⟩, e5, e6, e7, e8⟩ := pn_cells (al_old Z1.out (.cells (pnc exP) 40))
  have S1 := hide ((Touch.refl (fun _ => False) w3).alloc (.cells (pnc exP) 40))
  have S2 := hide (S1.out.alloc (.cells (pnc exP) 40))
  have M1 := hide (Rc.Mem.calm (Rc.Mem.new (E := encP) w3 [exP] 40) ((Touch.refl (fun _ => False) _).alloc (.cells (pnc exP) 40)))
  have m2 := Rc.Mem.new (E := encP) (w3.alloc (.cells (pnc exP) 40)) [exP] 40
  rw [al_size] at m2
  have M2 := hide m2
  clear m2
  go_wp2_with fail
  refine (CA.out _ _ _ ⟨M1.out, fun h => (nomatch h), Nat.le_refl _⟩ ⟨M2.out, fun h => (nomatch h), Nat.le_refl _⟩).mono ?_
  rintro e w4 ⟨rfl, T4⟩
  have HT := hide ((TE3.out.tr S2.out).tr T4)
  clear T4 S1 S2 M1 M2 CA
  go_wp2_with fail
  go_ret
  exact ⟨rfl, HT.out⟩

end Go.Proofs.YtamfcmmhmfhhkaaGreatDoor
