/- Release of a table. No condition. -/
import Derived.Test.YtjodkgbpbibfbaaDdE
namespace Go.Proofs.Ytjodkgbpbibfbaa
open Go.RowKit

set_option maxRecDepth 100000 in
set_option maxHeartbeats 4000000 in
theorem trel_any (b i : Nat) (T : TbV) (fp : Nat → Prop) (hi : i ≤ 4294967295) (hl : T.L.length ≤ 900000) (w : World) (h : TabM w b T fp) :
    Calls Try.prog 14 #[.pointer (some ⟨b, 0, none⟩), .int .u32 (i : Nat)] w fun e w' => e = .returned (.tuple #[.bool (T.rel i).2.1, .int .i64 ((T.rel i).2.2 : Nat)]) ∧ TabTo b fp (T.rel i).1 w w' := by
  have hok := h.ok
  have hL := look_up_any b i T fp hi w h
  have H := Lib.hid h
  rcases TbV.rel_get hok i with ⟨hg, he⟩ | ⟨k, hk, hg, hid, hat, he⟩
  · rw [he]
    rw [hg] at hL
    have HL := Lib.hid (show Calls Try.prog 40 #[.pointer (some ⟨b, 0, none⟩), .int .u32 (i : Nat)] w fun e w' => e = .returned (.tuple #[chv zCh, .int .i64 5]) ∧ Frm (fun _ => False) w w' from hL)
    clear h hok hL hg he
    go_enter Try.func14, Try.ntmps14
    go_wp2_with fail
    refine HL.out.mono ?_
    rintro e w1 ⟨rfl, g1⟩
    have b1 := Blk.alloc w1 79 #[.string ⟨#[]⟩, .int .i64 0, .int .i64 0]
    have G1 := Lib.hid (g1.alloc (.cells #[.string ⟨#[]⟩, .int .i64 0, .int .i64 0] 79))
    have hs1 := g1.size
    clear g1
    go_wp2_with (first
      | (refine wpl_store_ch rfl (.tmp 6) (.tmp 11) rfl w1.heap.size zCh _ rfl rfl b1 rfl ?_; intro w3 b3 g3 s3)
      | fail)
    go_ret2
    exact ⟨rfl, TabTo.same H.out (G1.out.next g3 (fun k hk e => by omega))⟩
  · rw [he]
    rw [hg] at hL
    have hx := hok.ch _ (List.getElem_mem hk)
    obtain ⟨c, hc⟩ : ∃ c, T.L[k] = c := ⟨_, rfl⟩
    rw [hc] at hL hid hx ⊢
    have HL := Lib.hid (show Calls Try.prog 40 #[.pointer (some ⟨b, 0, none⟩), .int .u32 (i : Nat)] w fun e w' => e = .returned (.tuple #[chv c, .int .i64 0]) ∧ Frm (fun _ => False) w w' from hL)
    obtain ⟨z, hz⟩ : ∃ z : Int, (c.r : Int) = z := ⟨_, rfl⟩
    have hr1 := hx.r1
    have hr2 := hx.r2
    have hsl : c.s.length ≤ 9223372036854775807 := by have := hx.s2; omega
    by_cases hmany : 1 < c.r
    · rw [if_pos hmany]
      have hzb : z ≤ 65535 := by omega
      have hz0 : 1 < z := by omega
      have HX := Lib.hid (And.intro hx (And.intro hid hc))
      have HZ := Lib.hid hz
      have HFL := Lib.hid hmany
      clear h hok hL hg he hx hc hat hmany hr1 hr2 hz
      go_enter Try.func14, Try.ntmps14
      go_wp2_with fail
      refine HL.out.mono ?_
      rintro e w1 ⟨rfl, g1⟩
      have b1 := Blk.alloc w1 79 #[.string ⟨#[]⟩, .int .i64 0, .int .i64 0]
      have G1 := Lib.hid (g1.alloc (.cells #[.string ⟨#[]⟩, .int .i64 0, .int .i64 0] 79))
      have hs1 := g1.size
      clear g1
      go_upto_region 6 with (first
        | (refine wpl_store_ch rfl (.tmp 6) (.tmp 11) rfl w1.heap.size c _ rfl rfl b1 rfl ?_; intro w3 b3 g3 s3; rw [HZ.out] at b3; have d2 := b3.cell 2 rfl; have fr2 := b3.free 2)
        | fail)
      have G3 := Lib.hid (G1.out.next g3 (fun k hk e => by omega))
      have g4 : Frm (fun _ => False) w (w3.setCell ⟨w1.heap.size, 2, none⟩ (.int .i64 (z - 1))) := G3.out.setCell (p := ⟨w1.heap.size, 2, none⟩) (fun e => by simp at e; omega) _
      have b4 : Blk (w3.setCell ⟨w1.heap.size, 2, none⟩ (.int .i64 (z - 1))) w1.heap.size 79 #[.string (bs c.less.s), .int .i64 c.less.b, .int .i64 (c.less.r : Nat)] := by
        have e : ((c.less.r : Nat) : Int) = z - 1 := by have := HFL.out; rw [← HZ.out]; show ((c.r - 1 : Nat) : Int) = _; omega
        rw [e]
        exact b3.set 2 _
      obtain ⟨w4, hw4⟩ : ∃ w4, w3.setCell ⟨w1.heap.size, 2, none⟩ (.int .i64 (z - 1)) = w4 := ⟨_, rfl⟩
      rw [hw4] at g4 b4 ⊢
      obtain ⟨m, x, I, fq, h⟩ := H.out
      have h4 := h.keepF g4
      have c1 := h4.mc
      obtain ⟨p, hp⟩ : ∃ p, w1.heap.size = p := ⟨_, rfl⟩
      rw [hp] at b4 ⊢
      have H4 := Lib.hid (And.intro h4 g4)
      clear h h4 g4 hw4 b3 g3 G3 hp d2 fr2 s3 b1 HL G1 hs1
      refine wp_region_root (fun w' => w'.cell? ⟨b, 1, none⟩ = some (.map (some m)) ∧ (Instr.loadAt 79 (.pointer (some ⟨p, 0, none⟩))).run Try.prog w' = .ok (chv c.less) w' ∧ Frm (fun _ => False) w4 w') (by kernel_rfl) rfl rfl (by kernel_rfl) (by kernel_rfl) (by kernel_rfl) (⟨c1, ch_load b4.drew, (Frm.refl _ w4).drew⟩) ?_
      repeat' first
        | (refine CanonL.skip (by rfl) ?_; (try simp only [Act.put, List.setIfInBounds_toArray, List.set_cons_zero, List.set_cons_succ]))
        | (refine CanonL.load (by rfl) _ (by rfl) (by rfl) (fun w hs => hs.2.1) ?_; (try simp only [Act.put, List.setIfInBounds_toArray, List.set_cons_zero, List.set_cons_succ]))
        | (refine CanonL.val (v := ?_) (by rfl) ?_ ?_; rotate_left 1; (focus (intro w hSw; (try dsimp only at hSw); go_simp; (try (with_reducible rfl)); done)); (try simp only [Act.put, List.setIfInBounds_toArray, List.set_cons_zero, List.set_cons_succ]))
      refine CanonL.done ?_
      intro w9 hS9
      obtain ⟨_, _, g5⟩ := hS9
      refine wpOp_store_ch rfl rfl rfl _ _ _ rfl m i c.less T rfl rfl rfl (H4.out.1.keepF g5).map H4.out.1.ok hi (by omega) ?_
      intro w6 hm6 hg6 hs6
      have HE : Hid (TabTo b fp ⟨T.L.set k c.less, T.nx⟩ w w6) := by
        obtain ⟨hx, hid, hc⟩ := HX.out
        have hmany := HFL.out
        have h5 := H4.out.1.keepF g5
        have hid2 : c.less.id = T.L[k].id := by rw [hc]; rfl
        have hs2 : c.less.s = T.L[k].s := by rw [hc]; rfl
        have hr2 := hx.r2
        have ho2 : c.less.ok := ⟨hx.i1, hx.i2, hx.s1, hx.s2, hx.b, by show 1 ≤ c.r - 1; omega, by show c.r - 1 ≤ 65535; omega⟩
        refine Lib.hid ⟨fp, ⟨m, x, I, fq, h5.refs hk hid2 hs2 ho2 (hm6.congr fun j => ?_) hg6⟩, ((H4.out.2.trans g5).mono (Y := fp) fun _ _ h => h.elim).next hg6 (fun k _ e => e ▸ h5.fm), fun k hk => .inl hk⟩
        rw [show c.less.id = i from hid]
      clear hm6 hg6 g5
      go_wp2_with fail
      go_ret2
      exact ⟨rfl, HE.out⟩
    · rw [if_neg hmany]
      have hz0 : ¬ 1 < z := by omega
      have HX := Lib.hid (And.intro hx (And.intro hid hc))
      have HZ := Lib.hid hz
      clear h hok hL hg he hx hc hat hmany hr1 hr2 hz
      go_enter Try.func14, Try.ntmps14
      go_wp2_with fail
      refine HL.out.mono ?_
      rintro e w1 ⟨rfl, g1⟩
      have b1 := Blk.alloc w1 79 #[.string ⟨#[]⟩, .int .i64 0, .int .i64 0]
      have G1 := Lib.hid (g1.alloc (.cells #[.string ⟨#[]⟩, .int .i64 0, .int .i64 0] 79))
      have hs1 := g1.size
      obtain ⟨m, x, I, fq, h⟩ := H.out
      have HH := Lib.hid h
      have hIl : I.length ≤ 900000 := by rw [h.ix.len]; exact hl
      clear g1 h
      go_upto_region 8 with (first
        | (refine wpl_store_ch rfl (.tmp 6) (.tmp 11) rfl w1.heap.size c _ rfl rfl b1 rfl ?_; intro w3 b3 g3 s3; rw [HZ.out] at b3; have d0 := b3.cell 0 rfl; have d2 := b3.cell 2 rfl)
        | fail)
      have g4 := G1.out.next g3 (fun k hk e => by omega)
      have h4 := HH.out.keepF g4
      have c1 := h4.mc
      have H4 := Lib.hid (And.intro h4 (And.intro g4 b3))
      have hpz : w.heap.size ≤ w1.heap.size := hs1
      obtain ⟨p, hp⟩ : ∃ p, w1.heap.size = p := ⟨_, rfl⟩
      rw [hp] at H4 hpz ⊢
      clear h4 g4 b3 g3 d0 d2 s3 b1 HL G1 hs1 HH hp
      go_upto_region 9 with (first
        | (at_delete; refine wpl_delete_ch rfl _ _ rfl m i T.get rfl rfl H4.out.1.map hi ?_; intro w5 hm5 hg5 hs5)
        | fail)
      have hmp : p ≠ m := fun e => by have := HX; have := H.out.lt m (H4.out.1.fm); omega
      have t5 := H4.out.1.blk.keep hg5 H4.out.1.bm
      have x5 := H4.out.1.idx.keep hg5 (fun k hk e => H4.out.1.qm (e ▸ hk))
      have b5 := H4.out.2.2.keep hg5 hmp
      have d0 := b5.cell 0 rfl
      have d2 := t5.cell 2 rfl
      have HT5 := Lib.hid (And.intro t5 (And.intro x5 (And.intro hm5 hg5)))
      clear t5 x5 hm5 hg5 b5
      refine wp_region_root (fun w' => w'.cell? ⟨b, 2, none⟩ = some (.pointer (some ⟨x, 0, none⟩)) ∧ w'.cell? ⟨p, 0, none⟩ = some (.string (bs c.s)) ∧ Frm (fun _ => False) w5 w') (by kernel_rfl) rfl rfl (by kernel_rfl) (by kernel_rfl) (by kernel_rfl) (⟨d2, d0, (Frm.refl _ w5).drew⟩) ?_
      repeat' first
        | (refine CanonL.skip (by rfl) ?_; (try simp only [Act.put, List.setIfInBounds_toArray, List.set_cons_zero, List.set_cons_succ]))
        | (refine CanonL.val (v := ?_) (by rfl) ?_ ?_; rotate_left 1; (focus (intro w hSw; (try dsimp only at hSw); go_simp; (try (with_reducible rfl)); done)); (try simp only [Act.put, List.setIfInBounds_toArray, List.set_cons_zero, List.set_cons_succ]))
      refine CanonL.done ?_
      intro w9 hS9
      obtain ⟨_, _, g6⟩ := hS9
      refine wpOp_callC rfl rfl (by rfl) (by go_simp) ((drop_any x c.s i I fq _ (HT5.out.2.1.keepF g6) hsl hIl).mono ?_)
      rintro e w7 ⟨rfl, fx7, x7, g7, n7⟩
      refine ⟨_, rfl, ?_⟩
      simp only [Act.put, List.setIfInBounds_toArray, List.set_cons_zero, List.set_cons_succ]
      have HE : Hid (TabTo b fp ⟨T.L.eraseIdx k, T.nx⟩ w w7) := by
        obtain ⟨hx, hid, hc⟩ := HX.out
        obtain ⟨h4, g4, _⟩ := H4.out
        obtain ⟨r1, r2, r3, r5⟩ := HT5.out
        have hit : (bk c.s, i) = itC T.L[k] := by rw [hc, ← hid]; rfl
        have hlb := h4.lt b h4.fb
        have hlm := h4.lt m h4.fm
        have z5 := r5.size
        have z6 := g6.size
        have z7 := g7.size
        have z4 := g4.size
        have hnb : ¬ fx7 b := fun e => (n7 b e).elim h4.qb (fun e => by omega)
        have hnm : ¬ fx7 m := fun e => (n7 m e).elim h4.qm (fun e => by omega)
        refine Lib.hid ⟨fun j => fp j ∨ fx7 j, ⟨m, x, _, fx7, ⟨(r1.keep g6 (fun h => h)).keep g7 h4.qb, ((r3.keep g6 (fun h => h)).keep g7 h4.qm).congr (fun j => ?_), x7, ?_, TbV.del_ok h4.ok hk, h4.bm, hnb, hnm, .inl h4.fb, .inl h4.fm, fun j hj => .inr hj, fun j hj => ?_⟩⟩, ?_, fun j hj => ?_⟩
        · rw [TbV.del_get h4.ok hk, hc, hid]
        · rw [hit]; exact h4.ix.del hk
        · rcases hj with hj | hj
          · have := h4.lt j hj; omega
          · exact x7.1 j hj
        · exact (((g4.mono (Y := fp) fun _ _ h => h.elim).next r5 (fun k _ e => e ▸ h4.fm)).next g6 (fun _ _ h => h.elim)).next g7 (fun j _ e => h4.fx j e)
        · rcases hj with hj | hj
          · exact .inl hj
          · rcases n7 j hj with e | e
            · exact .inl (h4.fx j e)
            · exact .inr (by omega)
      clear x7 g7 n7 g6
      go_wp2_with fail
      go_ret2
      exact ⟨rfl, HE.out⟩
end Go.Proofs.Ytjodkgbpbibfbaa
