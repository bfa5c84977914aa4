/- The walk of FramePuts. -/
import Derived.Test.YtfeifobljgmkkaaDoorFLent
namespace Go.Proofs.YtfeifobljgmkkaaDoor
open Go.RowKit Crcx

set_option maxRecDepth 100000 in
set_option maxHeartbeats 1000000 in
theorem puts_walk (tag : Int) (t : Txt) (w : World) (hT : Tab w) (ho : t.Ok w) (h8 : 0 ≤ tag ∧ tag ≤ 255) :
    Calls Tryd.prog 3 #[.int .u8 tag, .slice t.ao t.xs.length t.cap] w fun e w' => e = .returned (.bool true) ∧ Touch (fun _ => False) w w' := by
  have LG := hide (fun W => long_any t.ao t.xs.length t.cap W)
  have KN := hide (fun (W : World) (hW : Touch (fun _ => False) w W) => known_any W (hT.touch hW (fun h => h)))
  obtain ⟨ao, cap, xs⟩ := t
  have h8x : In8 xs := ho.in8
  simp only at *
  by_cases hlong : 200000 < xs.length
  · have hd : decide ((200000 : Int) < (xs.length : Int)) = true := decide_eq_true (by omega)
    rw [hd] at LG
    clear hd
    go_enter Tryd.func3, Tryd.ntmps3
    go_wp2_with fail
    refine (LG.out _).mono ?_
    rintro e w' ⟨rfl, rfl⟩
    go_wp2_with fail
    refine (KN.out _ (Touch.refl _ _)).mono ?_
    rintro e w1 ⟨rfl, t1⟩
    go_wp2_with fail
    go_ret
    exact ⟨rfl, t1⟩
  · have hd : decide ((200000 : Int) < (xs.length : Int)) = false := decide_eq_false (by omega)
    rw [hd] at LG
    clear hd
    have hn : xs.length ≤ 268435456 := by omega
    have RP := hide (rput_any tag ⟨ao, cap, xs⟩ w ho h8 hn)
    have LE := hide (fun (W : World) (hW : Touch (fun _ => False) w W) => lent_any ⟨ao, cap, xs⟩ W (ho.touch hW) (by simp only; omega))
    have PT := hide (fun (W : World) (g c : Nat) (hW : Touch (fun _ => False) w W) (hL : (Txt.mk (some ⟨g, 0, none⟩) c xs).Ok W) => put_any tag ⟨some ⟨g, 0, none⟩, c, xs⟩ W (hT.touch hW (fun h => h)) hL h8 hn)
    have FS := hide (fun W => fsize_any xs.length hn W)
    simp only [Txt.val] at RP LE PT
    have hff := frm_len tag xs
    have hpos := frm_pos tag xs
    have hf8 := in8_frm h8 h8x
    have h10 := fsize_le hn
    generalize frm tag xs = f at *
    rw [← hff] at FS h10
    go_enter Tryd.func3, Tryd.ntmps3
    go_wp2_with fail
    refine (LG.out _).mono ?_
    rintro e w' ⟨rfl, rfl⟩
    have HFF := hide hff
    clear LG hff
    go_wp2_with fail
    refine RP.out.mono ?_
    rintro e w1 ⟨wo, wn, wc, rfl, N1⟩
    have h := N1.row.len
    subst h
    clear RP
    go_wp2_with fail
    refine (LE.out _ N1.touch).mono ?_
    rintro e w2 ⟨g, c, rfl, L2⟩
    have T2 := N1.touch.trans L2.new.touch (fun _ _ h => h)
    have o2 := (L2.txt h8x (by omega)).1
    clear LE
    go_wp2_with fail
    refine (PT.out _ g c T2 o2).mono ?_
    rintro e w3 ⟨a, an, ac, rfl, N3⟩
    have h := N3.row.len
    subst h
    have T3 := T2.trans N3.touch (fun _ _ h => h)
    go_wp2_with fail
    refine (PT.out _ g c T3 (o2.touch N3.touch)).mono ?_
    rintro e w4 ⟨b, bn, bc, rfl, N4⟩
    have h := N4.row.len
    subst h
    have T4 := T3.trans N4.touch (fun _ _ h => h)
    have t24 := N3.touch.trans N4.touch (fun _ _ h => h)
    have L4 := L2.keep t24
    have N14 := N1.keep (L2.new.touch.trans t24 (fun _ _ h => h))
    have N34 := N3.keep N4.touch
    have CV1 := conv_seg (Seg.of_row N34.row) ac
    have CV2 := conv_seg (Seg.of_row N14.row) wc
    have KE := hide (kept_any w1 g c ao xs cap w4 L4 (ho.touch T4).seg (by omega))
    clear PT
    go_wp2_with fail
    refine (FS.out _).mono ?_
    rintro e w' ⟨rfl, rfl⟩
    go_wp2_with fail
    refine KE.out.mono ?_
    rintro e w' ⟨rfl, rfl⟩
    have g1 := L2.lo
    have g2 := L2.lt
    have s12 := N1.touch.size
    have s23 := N3.touch.size
    have s34 := N4.touch.size
    have SP1 := hide (spoilt_any (some ⟨g, 0, none⟩) xs.length (xs.length + 2) c _ w4 L4.new.row (in8_append h8x (fun x hx => by simp at hx; omega)) (by omega) (by omega))
    clear KE CV1 CV2 FS
    go_wp2_with fail
    refine SP1.out.mono ?_
    rintro e w5 ⟨⟨v5, rfl⟩, t5⟩
    have t5' : Touch (fun k => k = g) w4 w5 := t5.mono (fun k _ h => by simp [Value.ownBlock] at h; exact h.symm)
    have R35 := N34.row.touch t5' (fun k hk e => by have := N3.lo k hk; omega)
    have R15 := N14.row.touch t5' (fun k hk e => by have := N1.row.lt hk; omega)
    have R45 := N4.row.touch t5' (fun k hk e => by have := N4.lo k hk; omega)
    have SP2 := hide (spoilt_any a f.length f.length ac f w5 R35 hf8 (Nat.le_refl _) (by omega))
    have T5 := T4.trans t5' (fun k hk e => by omega)
    clear SP1 t5 N14 N34 L4
    go_wp2_with fail
    refine SP2.out.mono ?_
    rintro e w6 ⟨⟨v6, rfl⟩, t6⟩
    have hS : ∀ k, (Value.slice a f.length ac).ownBlock = some k → w2.heap.size ≤ k ∧ k < w3.heap.size := fun k hk => ⟨N3.lo k hk, N3.row.lt hk⟩
    have R16 := R15.touch t6 (fun k hk e => by have := N1.row.lt hk; have := hS k e; omega)
    have R46 := R45.touch t6 (fun k hk e => by have := N4.lo k hk; have := hS k e; omega)
    have T6 := T5.trans t6 (fun k hk e => by have := hS k e; omega)
    have CV1 := conv_seg (Seg.of_row R46) bc
    have CV2 := conv_seg (Seg.of_row R16) wc
    have HT6 := hide T6
    clear SP2 t6 R15 R45 R35 T6 T5 hS t5' R16 R46 N4 N3 N1 L2
    go_wp2_with fail
    refine (KN.out _ HT6.out).mono ?_
    rintro e w7 ⟨rfl, t7⟩
    go_wp2_with fail
    go_ret
    exact ⟨rfl, HT6.out.trans t7 (fun _ _ h => h)⟩

end Go.Proofs.YtfeifobljgmkkaaDoor
