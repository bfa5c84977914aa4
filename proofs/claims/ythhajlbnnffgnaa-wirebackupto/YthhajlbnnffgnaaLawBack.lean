/- For all puts (of together at most 1048576 values and letters) the Go law WireBack returns true and leaves its argument and all memory that was there as it was. -/
import Derived.Test.YthhajlbnnffgnaaBack
import Derived.Laws.AppendOwn
namespace Go.Proofs.Ythhajlbnnffgnaa
open Go.ChangeShapes Go.WideShapes Go.ChangeAt Go.RowKit

theorem Try.infoPut : (Try.prog.info? 36).map (fun i => (i.zero, i.size, i.bytes)) = some (some (.agg #[.int .i64 0, .int .u64 0, .string ⟨#[]⟩, .slice none 0 0, .slice none 0 0]), 5, 80) := by kernel_rfl

theorem own_touch {S : Nat → Prop} {w w' : World} {base size n : Nat} {e : TypeId} {v : Value} {xs : List Value} (h : w.ownsRow base e size v n xs) (ht : Touch S w w') (hn : ∀ g, v.ownBlock = some g → ¬ S g) : w'.ownsRow base e size v n xs := by
  rcases h with ⟨hl, h | ⟨g, cap, cur, rfl, a, b, c⟩⟩
  · exact ⟨hl, .inl h⟩
  · exact ⟨hl, .inr ⟨g, cap, cur, rfl, a, (ht.block g (lt_of_heap b) (hn g rfl)).trans b, c⟩⟩

theorem own_block {w : World} {base size n : Nat} {e : TypeId} {v : Value} {xs : List Value} (h : w.ownsRow base e size v n xs) {g : Nat} (hg : v.ownBlock = some g) : base ≤ g ∧ ∃ cur, w.heap[g]? = some (.cells cur e (0, 0)) := by
  rcases h with ⟨hl, ⟨rfl, _⟩ | ⟨g', cap, cur, rfl, a, b, c⟩⟩
  · simp [Value.ownBlock] at hg
  · simp [Value.ownBlock] at hg; subst hg; exact ⟨a, cur, b⟩

theorem own_shape {w : World} {base size n : Nat} {e : TypeId} {v : Value} {xs : List Value} (h : w.ownsRow base e size v n xs) : ∃ o c, v = .slice o n c ∧ (0 < n → ∃ g, o = some ⟨g, 0, none⟩) := by
  rcases h with ⟨hl, ⟨rfl, rfl⟩ | ⟨g', cap, cur, rfl, a, b, c⟩⟩
  · exact ⟨none, 0, rfl, fun h => absurd h (by omega)⟩
  · exact ⟨_, _, rfl, fun _ => ⟨g', rfl⟩⟩

/-- The cells of put i of a row of puts. -/
theorem own_put {w : World} {base : Nat} {g c : Nat} {ds : List PutD} (h : w.ownsRow base 36 5 (.slice (some ⟨g, 0, none⟩) ds.length c) ds.length (ds.flatMap PutD.cells)) (i : Nat) (hi : i < ds.length) :
    w.cell? ⟨g, i * 5, none⟩ = some (.int .i64 ds[i].kind) ∧ w.cell? ⟨g, i * 5 + 1, none⟩ = some (.int .u64 ds[i].X) ∧ w.cell? ⟨g, i * 5 + 2, none⟩ = some (.string ds[i].s) ∧ w.cell? ⟨g, i * 5 + 3, none⟩ = some (.slice ds[i].bo ds[i].B.length ds[i].bc) ∧ w.cell? ⟨g, i * 5 + 4, none⟩ = some (.slice ds[i].lo ds[i].L.length ds[i].lc) := by
  have k : ∀ j u, j < 5 → (ds[i]).cells[j]? = some u → w.cell? ⟨g, i * 5 + j, none⟩ = some u := fun j u hj hu => by
    have := World.ownsRow.cells h (g := g) rfl (i * 5 + j) u ((cells_at ds i j hi hj).trans hu)
    rw [Addr.add_lit, Nat.zero_add] at this
    exact this
  exact ⟨k 0 _ (by omega) rfl, k 1 _ (by omega) rfl, k 2 _ (by omega) rfl, k 3 _ (by omega) rfl, k 4 _ (by omega) rfl⟩

theorem formsOf_len {w : World} : ∀ (ds : List PutD), (∀ d ∈ ds, d.Ok w ∧ d.form ≠ []) → (formsOf ds).length ≤ ds.length * 12000000
  | [], _ => by simp [formsOf]
  | d :: r, h => by
    have a := formsOf_len r (fun x hx => h x (by simp [hx]))
    have b := (h d (by simp)).1.form_len
    have e : formsOf (d :: r) = d.form ++ formsOf r := rfl
    rw [e, List.length_append, List.length_cons]; omega

theorem formsOf_in8 {w : World} : ∀ (ds : List PutD), (∀ d ∈ ds, d.Ok w ∧ d.form ≠ []) → In8 (formsOf ds)
  | [], _ => fun _ h => nomatch h
  | d :: r, h => in8_append (h d (by simp)).1.form_in8 (formsOf_in8 r (fun x hx => h x (by simp [hx])))

/-- The writer, and the puts that it was given, in memory. -/
structure Bk (w0 w : World) (pb : Nat) (v x : Value) (ds : List PutD) : Prop where
  wr : Wr w pb v (formsOf ds)
  own : w.ownsRow w0.heap.size 36 5 x ds.length (ds.flatMap PutD.cells)
  ok : ∀ d ∈ ds, d.Ok w0 ∧ d.form ≠ []
  np : w0.heap.size ≤ pb
  nv : ∀ g, v.ownBlock = some g → w0.heap.size ≤ g
  touch : Touch (fun _ => False) w0 w

theorem Bk.none {w0 w w' : World} {pb : Nat} {v x : Value} {ds : List PutD} (h : Bk w0 w pb v x ds) (ht : Touch (fun _ => False) w w') : Bk w0 w' pb v x ds :=
  ⟨h.wr.touch ht (fun h => h) (fun _ _ h => h), own_touch h.own ht (fun _ _ h => h), h.ok, h.np, h.nv, h.touch.trans ht (fun _ _ h => h)⟩

theorem Bk.len {w0 w : World} {pb : Nat} {v x : Value} {ds : List PutD} (h : Bk w0 w pb v x ds) (hl : ds.length ≤ 1048576) : (formsOf ds).length ≤ 12582912000000 := by
  have := formsOf_len ds h.ok
  omega

/-- Behind a put. -/
theorem Bk.put {w0 w w1 : World} {pb : Nat} {v v' x : Value} {ds : List PutD} (h : Bk w0 w pb v x ds) (ho : Wrote w pb v w1 v') :
    w1.ownsRow w0.heap.size 36 5 x ds.length (ds.flatMap PutD.cells) ∧ (∀ g, v'.ownBlock = some g → w0.heap.size ≤ g) ∧ Touch (fun _ => False) w0 w1 := by
  refine ⟨own_touch h.own ho.touch ?_, fun g hg => ?_, h.touch.trans ho.touch ?_⟩
  · rintro g hg (e | e)
    · obtain ⟨_, cur, hc⟩ := own_block h.own hg
      exact tags hc h.wr.cell (by decide) e
    · obtain ⟨_, cur, hc⟩ := own_block h.own hg
      obtain ⟨cur', hc'⟩ := h.wr.row.block e
      exact tags hc hc' (by decide) rfl
  · rcases ho.fresh with e | ⟨n, e, hn⟩
    · rw [hg] at e; exact h.nv g e.symm
    · rw [hg] at e; injection e with e; have := h.touch.size; omega
  · rintro j hj (e | e)
    · have := h.np; omega
    · have := h.nv j e; omega

/-- Behind the append to the row of puts. -/
theorem Bk.more {w0 w1 w2 : World} {pb : Nat} {v x x' : Value} {ds : List PutD} {d : PutD} (hw : Wr w1 pb v (formsOf ds ++ d.form)) (hx : w1.ownsRow w0.heap.size 36 5 x ds.length (ds.flatMap PutD.cells)) (hok : ∀ d ∈ ds, d.Ok w0 ∧ d.form ≠ []) (hd : d.Ok w0 ∧ d.form ≠ []) (hp : w0.heap.size ≤ pb) (hv : ∀ g, v.ownBlock = some g → w0.heap.size ≤ g) (ht : Touch (fun _ => False) w0 w1)
    (hown : w2.ownsRow w0.heap.size 36 5 x' (ds.length + 1) (ds.flatMap PutD.cells ++ d.cells)) (hg : w1.grownBy w2 x.ownBlock) : Bk w0 w2 pb v x' (ds ++ [d]) := by
  have hgt := Touch.of_grownBy hg
  have ne : ∀ g cur t, w1.heap[g]? = some (.cells cur t (0, 0)) → t ≠ 36 → ¬ x.ownBlock = some g := fun g cur t h1 h2 e => by
    obtain ⟨_, cur', hc⟩ := own_block hx e
    exact tags h1 hc h2 rfl
  refine ⟨?_, ?_, ?_, hp, hv, ht.trans hgt (fun j hj e => ?_)⟩
  · have e : formsOf (ds ++ [d]) = formsOf ds ++ d.form := by rw [formsOf_append]; simp [formsOf]
    rw [e]
    refine hw.touch hgt (ne _ _ _ hw.cell (by decide)) (fun g hgb => ?_)
    obtain ⟨cur, hc⟩ := hw.row.block hgb
    exact ne g cur _ hc (by decide)
  · have e : (ds ++ [d]).flatMap PutD.cells = ds.flatMap PutD.cells ++ d.cells := by rw [List.flatMap_append]; simp
    rw [e, List.length_append]
    exact hown
  · intro y hy
    rcases List.mem_append.1 hy with h | h
    · exact hok y h
    · simp at h; subst h; exact hd
  · have := (own_block hx e).1
    omega

set_option maxRecDepth 100000 in
set_option maxHeartbeats 4000000 in
theorem back_walk (so : Option Addr) (len cap : Nat) (D : Nat → PutD) (w : World) (hsp : SegP w so len D) (hl : len ≤ 1048576) :
    Calls Try.prog 5 #[.slice so len cap] w fun e w' => e = .returned (.bool true) ∧ Below w.heap.size w w' := by
  go_enter Try.func5, Try.ntmps5
  go_wp2_with fail
  refine (newWriter_any w).mono ?_
  rintro r w1 ⟨rfl, hw1, ht1, hl1⟩
  go_wp2_with fail
  refine (known_any _).mono ?_
  rintro r w2 ⟨rfl, ht2⟩
  have HB := hide (show Bk w w2 w.heap.size (.slice none 0 0) (.slice none 0 0) [] from ⟨hw1.touch ht2 (fun h => h) (fun _ _ h => h), World.ownsRow_nil _ _ _ _, fun _ h => (nomatch h), Nat.le_refl _, fun _ h => (nomatch h), ht1.trans ht2 (fun _ _ h => h)⟩)
  clear hw1 ht1 hl1 ht2
  obtain ⟨pb, hpb⟩ : ∃ pb, w.heap.size = pb := ⟨_, rfl⟩
  have HB : Hid (Bk w w2 pb (.slice none 0 0) (.slice none 0 0) []) := by rw [← hpb]; exact HB
  go_wp2_with fail
  go_loopw [4, 5] (fun x y wr => ∃ (i : Nat) (v : Value) (ds : List PutD), i ≤ len ∧ y = .int .i64 i ∧ Bk w wr pb v x ds ∧ ds.length ≤ i) (fun _ y _ => len - (intOf y).toNat)
  case atStart => exact ⟨0, _, [], Nat.zero_le _, rfl, HB.out, Nat.zero_le _⟩
  case round =>
    obtain ⟨i, v, ds, hi, rfl, hbk, hdl⟩ := hrel
    have hbl := hide (hbk.len (by omega))
    by_cases hlt : i < len
    · obtain ⟨b, off, hso⟩ := hsp.addr (by omega)
      obtain ⟨s1, s2, s3, s4, s5⟩ := hsp.cell b off hso i hlt
      have hok := hsp.ok i hlt
      have hti := hbk.touch
      have l1 := lt_of_cell s1
      have s1' := (hti.cell (p := ⟨b, off + i * 5, none⟩) l1 (fun h => h)).trans s1
      have s2' := (hti.cell (p := ⟨b, off + i * 5 + 1, none⟩) l1 (fun h => h)).trans s2
      have s3' := (hti.cell (p := ⟨b, off + i * 5 + 2, none⟩) l1 (fun h => h)).trans s3
      have s4' := (hti.cell (p := ⟨b, off + i * 5 + 3, none⟩) l1 (fun h => h)).trans s4
      have s5' := (hti.cell (p := ⟨b, off + i * 5 + 4, none⟩) l1 (fun h => h)).trans s5
      obtain ⟨d, hd⟩ : ∃ d, D i = d := ⟨_, rfl⟩
      rw [hd] at s1 s2 s3 s4 s5 s1' s2' s3' s4' s5' hok
      subst hso
      have PA := hide (put_any pb v (formsOf ds) d.kind d.X d.s d.bo d.lo d.B d.L d.bc d.lc wr hbk.wr hok.x hok.s (hok.b.touch hti (fun _ _ h => h)) hok.b8 hok.bl (hok.l.touch hti (fun _ _ h => h)) hok.l64 hok.ll (by have := hbl.out; omega) (apart_old hok.b hbk.np hbk.nv) (apart_old hok.l hbk.np hbk.nv))
      have LK := hide (len_any pb v (formsOf ds) wr hbk.wr)
      have HOK := hide hok
      have HBK := hide hbk
      have FL := hide hok.form_len
      have K1 := hide s1
      have K2 := hide s2
      have K3 := hide s3
      have K4 := hide s4
      have K5 := hide s5
      unfold putVal at PA
      clear s1 s2 s3 s4 s5 hok hbk hti
      go_wp2_with fail
      refine LK.out.mono ?_
      rintro r w3 ⟨rfl, hq⟩
      obtain rfl := hq.symm
      clear hq
      go_wp2_with fail
      refine PA.out.mono ?_
      rintro r w5 ⟨a, n, c, v', rfl, rfl, hseg, hw5, ho5⟩
      obtain ⟨hx5, hv5, ht5⟩ := HBK.out.put ho5
      have LK2 := hide (len_any pb v' (formsOf ds ++ putForm d.kind d.X d.s d.B d.L) w5 hw5)
      have t1 := (ht5.cell (p := ⟨b, off + i * 5, none⟩) l1 (fun h => h)).trans K1.out
      have t2 := (ht5.cell (p := ⟨b, off + i * 5 + 1, none⟩) l1 (fun h => h)).trans K2.out
      have t3 := (ht5.cell (p := ⟨b, off + i * 5 + 2, none⟩) l1 (fun h => h)).trans K3.out
      have t4 := (ht5.cell (p := ⟨b, off + i * 5 + 3, none⟩) l1 (fun h => h)).trans K4.out
      have t5 := (ht5.cell (p := ⟨b, off + i * 5 + 4, none⟩) l1 (fun h => h)).trans K5.out
      have HX5 := hide hx5
      have HV5 := hide hv5
      have HT5 := hide ht5
      have HW5 := hide hw5
      clear s1' s2' s3' s4' s5' PA LK hseg ho5 hx5 hv5 ht5 hw5 K1 K2 K3 K4 K5
      by_cases hf : putForm d.kind d.X d.s d.B d.L = []
      · rw [hf, List.append_nil] at LK2
        go_wp2_with fail
        refine LK2.out.mono ?_
        rintro r w6 ⟨rfl, hq⟩
        obtain rfl := hq.symm
        clear hq
        go_wp2_with fail
        go_roundw
        case rel =>
          have hw := HW5.out
          rw [hf, List.append_nil] at hw
          exact ⟨i + 1, v', ds, by omega, by go_num, ⟨hw, HX5.out, HBK.out.ok, HBK.out.np, HV5.out, HT5.out⟩, by omega⟩
        case measure => simp [intOf]; omega
      · have hpos : 0 < (putForm d.kind d.X d.s d.B d.L).length := List.length_pos_iff.2 hf
        have hgt : (formsOf ds).length < (formsOf ds ++ putForm d.kind d.X d.s d.B d.L).length := by rw [List.length_append]; omega
        obtain ⟨i0, hi0, hz0, hz1, hz2⟩ := info_parts Try.infoPut
        go_wp2_with fail
        refine LK2.out.mono ?_
        rintro r w6 ⟨rfl, hq⟩
        obtain rfl := hq.symm
        clear hq
        have hcl : ∀ j u, d.cells[j]? = some u → (w5.alloc (.cells #[.int .i64 d.kind, .int .u64 d.X, .string d.s, .slice d.bo d.B.length d.bc, .slice d.lo d.L.length d.lc] 36)).cell? ((⟨w5.heap.size, 0, none⟩ : Addr).add j) = some u := by
          intro j u hu
          rw [Addr.add_lit]
          simpa [PutD.cells] using hu
        have HCL := hide hcl
        have HC1 := hide (show ∀ u ∈ d.cells, u.oneCell' = true from by intro u hu; simp [PutD.cells] at hu; rcases hu with rfl | rfl | rfl | rfl | rfl <;> rfl)
        have NB := hide (show (ds.length + 1) * 80 ≤ 140737488355328 ∧ ds.length + 1 ≤ maxLen ∧ w.heap.size ≤ (w5.alloc (.cells #[.int .i64 d.kind, .int .u64 d.X, .string d.s, .slice d.bo d.B.length d.bc, .slice d.lo d.L.length d.lc] 36)).heap.size from ⟨by omega, by unfold maxLen; omega, by have := HT5.out.size; simp; omega⟩)
        clear hcl
        go_wp2_with (at_builtin; refine wpList_append_own _ rfl (.tmp 41) (.tmp 46) 22 rfl w.heap.size 36 i0 _ 5 80 Try.underlying22 hi0 hz0 hz1 hz2 rfl (by omega) _ ds.length (ds.flatMap PutD.cells) rfl (HX5.out.alloc _) ⟨w5.heap.size, 0, none⟩ 1 1 d.cells rfl rfl HCL.out HC1.out NB.out.2.1 NB.out.1 NB.out.2.2 ?nx)
        case nx =>
          intro x' w7 hown7 hgr7 _
          rw [← hpb] at hown7
          have BK7 := hide (Bk.more (d := d) (HW5.out.alloc (.cells #[.int .i64 d.kind, .int .u64 d.X, .string d.s, .slice d.bo d.B.length d.bc, .slice d.lo d.L.length d.lc] 36)) (HX5.out.alloc _) HBK.out.ok ⟨HOK.out, hf⟩ HBK.out.np HV5.out (HT5.out.alloc _) hown7 hgr7)
          clear hown7 hgr7
          go_wp2_with fail
          go_roundw
          case rel => exact ⟨i + 1, v', ds ++ [d], by omega, by go_num, BK7.out, by simp; omega⟩
          case measure => simp [intOf]; omega
    · have BY := hide (bytes_any pb v (formsOf ds) wr hbk.wr (by have := hbl.out; omega))
      have HBK := hide hbk
      clear hbk
      obtain ⟨xo, xc, rfl, hxo⟩ := own_shape HBK.out.own
      go_wp2_with fail
      refine BY.out.mono ?_
      rintro r w3 ⟨n3, c3, rfl, hr3, ht3, hl3⟩
      obtain rfl := hr3.len
      have NR := hide (newReader_any (some ⟨wr.heap.size, 0, none⟩) (formsOf ds) c3 w3 (Seg.of_row hr3) (by have := hbl.out; omega))
      have B3 := hide (HBK.out.none ht3)
      clear hr3 BY
      go_wp2_with fail
      refine NR.out.mono ?_
      rintro r w4 ⟨rb, rc, rfl, hrb, hrd4, ht4⟩
      have B4 := hide (B3.out.none ht4)
      have RD4 := hide hrd4
      have NRB := hide (show w.heap.size ≤ rb from by have := HBK.out.touch.size; omega)
      obtain ⟨ro, hro⟩ : ∃ ro : Option Addr, some ⟨w3.heap.size, 0, none⟩ = ro := ⟨_, rfl⟩
      rw [hro] at RD4
      clear hrd4 ht4 ht3 hl3 NR B3 HBK hrb hro HB
      go_wp2_with fail
      have hdl2 : ds.length ≤ 1048576 := by omega
      clear hlt hi
      go_loopw [10] (fun y ws => ∃ (j : Nat), j ≤ ds.length ∧ y = .int .i64 j ∧ Bk w ws pb v (.slice xo ds.length xc) ds ∧ Rd ws rb ro rc (formsOf ds) (formsOf (ds.take j)).length) (fun y _ => ds.length - (intOf y).toNat)
      case atStart => exact ⟨0, Nat.zero_le _, rfl, B4.out, RD4.out⟩
      case round =>
        obtain ⟨j, hj, rfl, hbj, hrj⟩ := hrel
        by_cases hjl : j < ds.length
        · obtain ⟨g, rfl⟩ := hxo (by omega)
          obtain ⟨s1, s2, s3, s4, s5⟩ := own_put hbj.own j hjl
          obtain ⟨hok, hne⟩ := hbj.ok ds[j] (List.getElem_mem hjl)
          have aw : ∀ {k : IntKind} {ao : Option Addr} {xs : List Int}, Seg w k ao xs → Away rb ao xs := fun hs a ha hn => by have := seg_lt hs a ha hn; have := NRB.out; omega
          have hokw : (ds[j]).Ok wr := ⟨hok.x, hok.s, hok.b.touch hbj.touch (fun _ _ h => h), hok.b8, hok.bl, hok.l.touch hbj.touch (fun _ _ h => h), hok.l64, hok.ll⟩
          have BA := hide (back_any rb ro rc (formsOf ds) (formsOf (ds.take j)).length ds[j] (formsOf (ds.drop (j + 1))) wr hrj (formsOf_in8 ds hbj.ok) (by have := hbl.out; omega) hokw (aw hok.b) (aw hok.l) hne (formsOf_at ds j hjl))
          have FN := hide (formsOf_next ds j hjl)
          have BS := hide hbj
          have RS := hide hrj
          obtain ⟨d, hd⟩ : ∃ d, ds[j] = d := ⟨_, rfl⟩
          rw [hd] at s1 s2 s3 s4 s5 BA FN
          unfold putVal at BA
          clear hok hne hokw hbj hrj B4 RD4 hd aw
          go_wp2_with fail
          refine BA.out.mono ?_
          rintro r w6 ⟨rfl, hr6, ht6⟩
          have RR := hide (show Rd w6 rb ro rc (formsOf ds) (formsOf (ds.take (j + 1))).length from by rw [FN.out]; exact hr6)
          have BB := hide (show Bk w w6 pb v (.slice (some ⟨g, 0, none⟩) ds.length xc) ds from by
            refine ⟨BS.out.wr.touch ht6 (tags BS.out.wr.cell RS.out.cell (by decide)) (fun q hq => ?_), own_touch BS.out.own ht6 (fun q hq => ?_), BS.out.ok, BS.out.np, BS.out.nv, BS.out.touch.trans ht6 (fun q hq e => by have := NRB.out; omega)⟩
            · obtain ⟨cur, hc⟩ := BS.out.wr.row.block hq
              exact tags hc RS.out.cell (by decide)
            · obtain ⟨_, cur, hc⟩ := own_block BS.out.own hq
              exact tags hc RS.out.cell (by decide))
          clear hr6 ht6 BA FN BS RS
          go_wp2_with fail
          go_roundw
          case rel => exact ⟨j + 1, by omega, by go_num, BB.out, RR.out⟩
          case measure => simp [intOf]; omega
        · obtain rfl : j = ds.length := by omega
          rw [List.take_length] at hrj
          have LF := hide (left_any rb ro rc (formsOf ds) (formsOf ds).length wr hrj (by have := hbl.out; omega))
          have PL := hide (fun m => place_any rb ro rc (formsOf ds) (formsOf ds).length (wr.drewN m) (hrj.drewN m))
          have LN := hide (fun m => len_any pb v (formsOf ds) (wr.drewN m) (hbj.wr.drewN m))
          have HT := hide hbj.touch
          rw [Nat.sub_self] at LF
          clear hrj hbj B4 RD4
          go_wp2_with fail
          refine LF.out.mono ?_
          rintro r w6 ⟨rfl, m, rfl⟩
          go_wp2_with fail
          refine (PL.out m).mono ?_
          rintro r w7 ⟨rfl, hq⟩
          obtain rfl := hq.symm
          clear hq
          go_wp2_with fail
          refine (LN.out m).mono ?_
          rintro r w8 ⟨rfl, hq⟩
          obtain rfl := hq.symm
          clear hq
          go_wp2_with fail
          go_ret
          exact ⟨by simp, (HT.out.drewN m).below (fun _ _ h => h)⟩

end Go.Proofs.Ythhajlbnnffgnaa
