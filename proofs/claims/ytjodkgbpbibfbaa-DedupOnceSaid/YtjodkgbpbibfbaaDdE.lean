/- New, Load, Hold, Release of a table. No condition. -/
import Derived.Test.YtjodkgbpbibfbaaDdD
namespace Go.Proofs.Ytjodkgbpbibfbaa
open Go.RowKit

/-- A table that a call has made. -/
def NewTab (T : TbV) (w : World) (v : Value) (w' : World) : Prop := ∃ b fp, v = .pointer (some ⟨b, 0, none⟩) ∧ TabM w' b T fp ∧ (∀ k, fp k → w.heap.size ≤ k) ∧ Frm (fun _ => False) w w'
set_option maxRecDepth 100000 in
set_option maxHeartbeats 1000000 in
theorem tnew_any (w : World) : Calls Try.prog 9 #[] w fun e w' => ∃ v, e = .returned v ∧ NewTab TbV.new w v w' := by
  have m1 := MapH.made w
  have g1 : Frm (fun _ => False) w (w.alloc (.map #[] 0)) := (Frm.refl _ w).alloc _
  obtain ⟨w1, hw1⟩ : ∃ w1, w.alloc (.map #[] 0) = w1 := ⟨_, rfl⟩
  have hs1 : w1.heap.size = w.heap.size + 1 := by rw [← hw1]; simp
  rw [hw1] at m1 g1
  obtain ⟨m, hm⟩ : ∃ m, w.heap.size = m := ⟨_, rfl⟩
  have HM := Lib.hid (And.intro hm (And.intro hs1 (And.intro g1 m1)))
  rw [hm] at m1
  have HN := Lib.hid (new_any w1)
  have hmm := fun w => run_makeMap (P := Try.prog) 61 w
  clear m1 g1 hs1
  go_enter Try.func9, Try.ntmps9
  go_wp2_with fail
  refine HN.out.mono ?_
  rintro e w2 ⟨rfl, x2, g2, s2⟩
  obtain ⟨x, hx⟩ : ∃ x, w1.heap.size = x := ⟨_, rfl⟩
  rw [hx] at x2 s2 ⊢
  have b3 := Blk.alloc w2 64 #[.pointer none, .map (some m), .pointer (some ⟨x, 0, none⟩), .int .u32 1]
  have g3 : Frm (fun _ => False) w2 (w2.alloc (.cells #[.pointer none, .map (some m), .pointer (some ⟨x, 0, none⟩), .int .u32 1] 64)) := (Frm.refl _ w2).alloc _
  obtain ⟨w3, hw3⟩ : ∃ w3, w2.alloc (.cells #[.pointer none, .map (some m), .pointer (some ⟨x, 0, none⟩), .int .u32 1] 64) = w3 := ⟨_, rfl⟩
  obtain ⟨b, hb⟩ : ∃ b, w2.heap.size = b := ⟨_, rfl⟩
  rw [hw3] at b3 g3
  rw [hb] at b3
  have fr := b3.free 0
  have c0 := b3.cell 0 rfl
  have HE : Hid (NewTab TbV.new w (.pointer (some ⟨b, 0, none⟩)) (w3.setCell ⟨b, 0, none⟩ (.pointer (some ⟨b, 0, none⟩)))) := by
    obtain ⟨e1, e2, e3, e4⟩ := HM.out
    have f4 : Frm (· = b) w3 (w3.setCell ⟨b, 0, none⟩ (.pointer (some ⟨b, 0, none⟩))) := (Frm.refl (· = b) w3).setCell (p := ⟨b, 0, none⟩) (fun _ => rfl) _
    have hl := e4.lt
    have hbl := b3.lt
    have z2 := g2.size
    have f5 : Frm (fun _ => False) w (w3.setCell ⟨b, 0, none⟩ (.pointer (some ⟨b, 0, none⟩))) := ((e3.trans g2).trans g3).next f4 (fun k hk e => by omega)
    rw [e1] at e4
    refine Lib.hid ⟨b, fun k => k = b ∨ k = m ∨ k = x, rfl, ⟨m, x, [], (· = x), ⟨b3.set 0 _, (((e4.keep g2 (fun h => h)).keep g3 (fun h => h)).keep f4 (by omega)).congr (fun _ => rfl), ?_, IxT.new, TbV.new_ok, by omega, by omega, by omega, .inl rfl, .inr (.inl rfl), fun k hk => .inr (.inr hk), fun k hk => ?_⟩⟩, fun k hk => ?_, f5⟩
    · exact (x2.keep g3 (fun _ _ h => h)).keep f4 (fun k hk e => by omega)
    · have := f4.size
      rcases hk with rfl | rfl | rfl <;> omega
    · rcases hk with rfl | rfl | rfl <;> omega
  clear x2 g2 s2 hx b3 g3
  go_wp2_with fail
  go_ret
  exact ⟨_, rfl, HE.out⟩
theorem TbV.hold_get {T : TbV} (h : T.ok) (i : Nat) : (T.get i = none ∧ T.hold i = (T, 5)) ∨ ∃ k, ∃ hk : k < T.L.length, T.get i = some T.L[k] ∧ T.L[k].id = i ∧ T.at i = some k ∧ T.hold i = if 65535 ≤ T.L[k].r then (T, 12) else (⟨T.L.set k T.L[k].more, T.nx⟩, 0) := by
  rw [TbV.get_at h]
  unfold TbV.hold
  cases e : T.at i with
  | none => exact .inl ⟨rfl, rfl⟩
  | some k =>
    obtain ⟨hk, he⟩ := TbV.at_some e
    have e2 : T.L[k]? = some T.L[k] := List.getElem?_eq_getElem hk
    refine .inr ⟨k, hk, ?_, he, rfl, ?_⟩
    · show T.L[k]? = _
      exact e2
    · dsimp only
      rw [e2]
theorem TbV.rel_get {T : TbV} (h : T.ok) (i : Nat) : (T.get i = none ∧ T.rel i = (T, false, 5)) ∨ ∃ k, ∃ hk : k < T.L.length, T.get i = some T.L[k] ∧ T.L[k].id = i ∧ T.at i = some k ∧ T.rel i = if 1 < T.L[k].r then (⟨T.L.set k T.L[k].less, T.nx⟩, false, 0) else (⟨T.L.eraseIdx k, T.nx⟩, true, 0) := by
  rw [TbV.get_at h]
  unfold TbV.rel
  cases e : T.at i with
  | none => exact .inl ⟨rfl, rfl⟩
  | some k =>
    obtain ⟨hk, he⟩ := TbV.at_some e
    have e2 : T.L[k]? = some T.L[k] := List.getElem?_eq_getElem hk
    refine .inr ⟨k, hk, ?_, he, rfl, ?_⟩
    · show T.L[k]? = _
      exact e2
    · dsimp only
      rw [e2]
/-- A chunk's references are others, in the map. -/
theorem TabH.refs {w w' : World} {b m x : Nat} {I : List (Nat × Nat)} {T : TbV} {fq fp : Nat → Prop} (h : TabH w b m x I T fq fp) {k : Nat} (hk : k < T.L.length) {c : ChV} (h1 : c.id = T.L[k].id) (h2 : c.s = T.L[k].s) (hc : c.ok) (hm : MapH w' m (fun j => if j = c.id then some c else T.get j)) (f : Frm (· = m) w w') :
    TabH w' b m x I ⟨T.L.set k c, T.nx⟩ fq fp :=
  ⟨h.blk.keep f h.bm, hm.congr (fun j => TbV.set_get h.ok hk h1 h2 hc j), h.idx.keep f (fun _ hj e => h.qm (e ▸ hj)), h.ix.same hk h1 h2, TbV.set_ok h.ok hk h1 h2 hc, h.bm, h.qb, h.qm, h.fb, h.fm, h.fx, fun j hj => Nat.lt_of_lt_of_le (h.lt j hj) f.size⟩
set_option maxRecDepth 100000 in
set_option maxHeartbeats 2000000 in
theorem thold_any (b i : Nat) (T : TbV) (fp : Nat → Prop) (hi : i ≤ 4294967295) (hl : T.L.length ≤ 900000) (w : World) (h : TabM w b T fp) :
    Calls Try.prog 21 #[.pointer (some ⟨b, 0, none⟩), .int .u32 (i : Nat)] w fun e w' => e = .returned (.int .i64 ((T.hold i).2 : Nat)) ∧ TabTo b fp (T.hold i).1 w w' := by
  have hok := h.ok
  have hL := look_up_any b i T fp hi w h
  have H := Lib.hid h
  rcases TbV.hold_get hok i with ⟨hg, he⟩ | ⟨k, hk, hg, hid, hat, he⟩
  · rw [he]
    rw [hg] at hL
    have HL := Lib.hid (show Calls Try.prog 40 #[.pointer (some ⟨b, 0, none⟩), .int .u32 (i : Nat)] w fun e w' => e = .returned (.tuple #[chv zCh, .int .i64 5]) ∧ Frm (fun _ => False) w w' from hL)
    clear h hok hL hg he
    go_enter Try.func21, Try.ntmps21
    go_wp2_with fail
    refine HL.out.mono ?_
    rintro e w1 ⟨rfl, g1⟩
    have b1 := Blk.alloc w1 79 #[.string ⟨#[]⟩, .int .i64 0, .int .i64 0]
    have G1 := Lib.hid (g1.alloc (.cells #[.string ⟨#[]⟩, .int .i64 0, .int .i64 0] 79))
    have hs1 := g1.size
    clear g1
    go_wp2_with (first
      | (refine wpl_store_ch rfl (.tmp 5) (.tmp 11) rfl w1.heap.size zCh _ rfl rfl b1 rfl ?_; intro w3 b3 g3 s3)
      | fail)
    go_ret
    exact ⟨rfl, TabTo.same H.out (G1.out.next g3 (fun k hk e => by omega))⟩
  · rw [he]
    rw [hg] at hL
    have hx := hok.ch _ (List.getElem_mem hk)
    obtain ⟨c, hc⟩ : ∃ c, T.L[k] = c := ⟨_, rfl⟩
    rw [hc] at hL hid hx ⊢
    have HL := Lib.hid (show Calls Try.prog 40 #[.pointer (some ⟨b, 0, none⟩), .int .u32 (i : Nat)] w fun e w' => e = .returned (.tuple #[chv c, .int .i64 0]) ∧ Frm (fun _ => False) w w' from hL)
    obtain ⟨z, hz⟩ : ∃ z : Int, (c.r : Int) = z := ⟨_, rfl⟩
    have hr1 := hx.r1
    have hr2 := hx.r2
    by_cases hfull : 65535 ≤ c.r
    · rw [if_pos hfull]
      have hzz : (z == 65535) = true := by rw [beq_iff_eq]; omega
      clear h hok hL hg he hx hc hat hfull hr1 hr2
      go_enter Try.func21, Try.ntmps21
      go_wp2_with fail
      refine HL.out.mono ?_
      rintro e w1 ⟨rfl, g1⟩
      have b1 := Blk.alloc w1 79 #[.string ⟨#[]⟩, .int .i64 0, .int .i64 0]
      have G1 := Lib.hid (g1.alloc (.cells #[.string ⟨#[]⟩, .int .i64 0, .int .i64 0] 79))
      have hs1 := g1.size
      clear g1
      go_wp2_with (first
        | (refine wpl_store_ch rfl (.tmp 5) (.tmp 11) rfl w1.heap.size c _ rfl rfl b1 rfl ?_; intro w3 b3 g3 s3; rw [hz] at b3; have d2 := b3.cell 2 rfl)
        | fail)
      go_ret
      exact ⟨rfl, TabTo.same H.out (G1.out.next g3 (fun k hk e => by omega))⟩
    · rw [if_neg hfull]
      have hzz : (z == 65535) = false := by rw [beq_eq_false_iff_ne]; omega
      have hzb : z < 65535 := by omega
      have hz0 : 0 ≤ z := by omega
      have HX := Lib.hid (And.intro hx (And.intro hid hc))
      have HZ := Lib.hid hz
      have HFL := Lib.hid hfull
      clear h hok hL hg he hx hc hat hfull hr1 hr2 hz
      go_enter Try.func21, Try.ntmps21
      go_wp2_with fail
      refine HL.out.mono ?_
      rintro e w1 ⟨rfl, g1⟩
      have b1 := Blk.alloc w1 79 #[.string ⟨#[]⟩, .int .i64 0, .int .i64 0]
      have G1 := Lib.hid (g1.alloc (.cells #[.string ⟨#[]⟩, .int .i64 0, .int .i64 0] 79))
      have hs1 := g1.size
      clear g1
      go_upto_region 7 with (first
        | (refine wpl_store_ch rfl (.tmp 5) (.tmp 11) rfl w1.heap.size c _ rfl rfl b1 rfl ?_; intro w3 b3 g3 s3; rw [HZ.out] at b3; have d2 := b3.cell 2 rfl; have fr2 := b3.free 2)
        | fail)
      have G3 := Lib.hid (G1.out.next g3 (fun k hk e => by omega))
      have g4 : Frm (fun _ => False) w (w3.setCell ⟨w1.heap.size, 2, none⟩ (.int .i64 (z + 1))) := G3.out.setCell (p := ⟨w1.heap.size, 2, none⟩) (fun e => by simp at e; omega) _
      have b4 : Blk (w3.setCell ⟨w1.heap.size, 2, none⟩ (.int .i64 (z + 1))) w1.heap.size 79 #[.string (bs c.more.s), .int .i64 c.more.b, .int .i64 (c.more.r : Nat)] := by
        have e : ((c.more.r : Nat) : Int) = z + 1 := by rw [← HZ.out]; show ((c.r + 1 : Nat) : Int) = _; omega
        rw [e]
        exact b3.set 2 _
      obtain ⟨w4, hw4⟩ : ∃ w4, w3.setCell ⟨w1.heap.size, 2, none⟩ (.int .i64 (z + 1)) = w4 := ⟨_, rfl⟩
      rw [hw4] at g4 b4 ⊢
      obtain ⟨m, x, I, fq, h⟩ := H.out
      have h4 := h.keepF g4
      have c1 := h4.mc
      obtain ⟨p, hp⟩ : ∃ p, w1.heap.size = p := ⟨_, rfl⟩
      rw [hp] at b4 ⊢
      have H4 := Lib.hid (And.intro h4 g4)
      clear h h4 g4 hw4 b3 g3 G3 hp d2 fr2 s3 b1 HL G1 hs1
      refine wp_region_root (fun w' => w'.cell? ⟨b, 1, none⟩ = some (.map (some m)) ∧ (Instr.loadAt 79 (.pointer (some ⟨p, 0, none⟩))).run Try.prog w' = .ok (chv c.more) w' ∧ Frm (fun _ => False) w4 w') (by kernel_rfl) rfl rfl (by kernel_rfl) (by kernel_rfl) (by kernel_rfl) (⟨c1, ch_load b4.drew, (Frm.refl _ w4).drew⟩) ?_
      repeat' first
        | (refine CanonL.skip (by rfl) ?_; (try simp only [Act.put, List.setIfInBounds_toArray, List.set_cons_zero, List.set_cons_succ]))
        | (refine CanonL.load (by rfl) _ (by rfl) (by rfl) (fun w hs => hs.2.1) ?_; (try simp only [Act.put, List.setIfInBounds_toArray, List.set_cons_zero, List.set_cons_succ]))
        | (refine CanonL.val (v := ?_) (by rfl) ?_ ?_; rotate_left 1; (focus (intro w hSw; (try dsimp only at hSw); go_simp; (try (with_reducible rfl)); done)); (try simp only [Act.put, List.setIfInBounds_toArray, List.set_cons_zero, List.set_cons_succ]))
      refine CanonL.done ?_
      intro w9 hS9
      obtain ⟨_, _, g5⟩ := hS9
      refine wpOp_store_ch rfl rfl rfl _ _ _ rfl m i c.more T rfl rfl rfl (H4.out.1.keepF g5).map H4.out.1.ok hi (by omega) ?_
      intro w6 hm6 hg6 hs6
      have HE : Hid (TabTo b fp ⟨T.L.set k c.more, T.nx⟩ w w6) := by
        obtain ⟨hx, hid, hc⟩ := HX.out
        have h5 := H4.out.1.keepF g5
        have hid2 : c.more.id = T.L[k].id := by rw [hc]; rfl
        have hs2 : c.more.s = T.L[k].s := by rw [hc]; rfl
        have ho2 : c.more.ok := ⟨hx.i1, hx.i2, hx.s1, hx.s2, hx.b, by show 1 ≤ c.r + 1; omega, by have := HFL.out; show c.r + 1 ≤ 65535; omega⟩
        refine Lib.hid ⟨fp, ⟨m, x, I, fq, h5.refs hk hid2 hs2 ho2 (hm6.congr fun j => ?_) hg6⟩, ((H4.out.2.trans g5).mono (Y := fp) fun _ _ h => h.elim).next hg6 (fun k _ e => e ▸ h5.fm), fun k hk => .inl hk⟩
        rw [show c.more.id = i from hid]
      clear hm6 hg6 g5
      go_wp2_with fail
      go_ret
      exact ⟨rfl, HE.out⟩
end Go.Proofs.Ytjodkgbpbibfbaa
