/- What puts a chunk into a table: New, put, Add, Load. No condition. -/
import Derived.Test.YtjodkgbpbibfbaaDdC
namespace Go.Proofs.Ytjodkgbpbibfbaa
open Go.RowKit

theorem IxT.addI {I : List (Nat × Nat)} {T : TbV} (h : IxT I T) {x : ChV} (h1 : ∀ y ∈ T.L, y.id ≠ x.id) : addI I (bk x.s) x.id = I ++ [itC x] := by
  unfold Go.Proofs.Ytjodkgbpbibfbaa.addI
  rw [if_neg (show (bk x.s, x.id) ∉ I from h.fresh h1)]
  rfl
set_option maxRecDepth 100000 in
set_option maxHeartbeats 2000000 in
theorem tput_any (b : Nat) (c : ChV) (T : TbV) (fp : Nat → Prop) (hc : c.ok) (h1 : ∀ y ∈ T.L, y.id ≠ c.id) (h2 : ∀ y ∈ T.L, y.s ≠ c.s) (hl : T.L.length ≤ 900000) (w : World) (h : TabM w b T fp) :
    Calls Try.prog 37 #[.pointer (some ⟨b, 0, none⟩), .int .u32 (c.id : Nat), chv c] w fun e w' => e = .returned (.tuple #[]) ∧ TabTo b fp (T.put c) w w' := by
  obtain ⟨m, x, I, fq, h⟩ := h
  have hid : c.id ≤ 4294967295 := by have := hc.i2; omega
  have hid2 := hc.i2
  have hsl : c.s.length ≤ 9223372036854775807 := by have := hc.s2; omega
  have f1 : Frm (fun _ => False) w (w.alloc (.cells #[.string (bs c.s), .int .i64 c.b, .int .i64 (c.r : Nat)] 79)) := (Frm.refl _ w).alloc _
  have b1 := Blk.alloc w 79 #[.string (bs c.s), .int .i64 c.b, .int .i64 (c.r : Nat)]
  obtain ⟨w1, hw1⟩ : ∃ w1, w.alloc (.cells #[.string (bs c.s), .int .i64 c.b, .int .i64 (c.r : Nat)] 79) = w1 := ⟨_, rfl⟩
  rw [hw1] at f1 b1
  have hH := h.keepF f1
  have H := Lib.hid hH
  have c1 := hH.mc
  have hpl : ¬ fp w.heap.size := fun e => by have := h.lt _ e; omega
  obtain ⟨p, hp⟩ : ∃ p, w.heap.size = p := ⟨_, rfl⟩
  have HP := Lib.hid hp
  rw [hp] at b1 hpl
  have HB := Lib.hid b1
  have HF := Lib.hid f1
  have hok := h.ok
  have HX := Lib.hid (And.intro hok (And.intro hc (And.intro h1 h2)))
  have HIX := Lib.hid (And.intro h.ix (h.ix.addI h1))
  have hIl : I.length ≤ 900000 := by rw [h.ix.len]; exact hl
  clear h h1 h2 hH hok hc
  go_enter Try.func37, Try.ntmps37
  go_upto_region 1 with fail
  refine wp_region_root (fun w' => w'.cell? ⟨b, 1, none⟩ = some (.map (some m)) ∧ (Instr.loadAt 79 (.pointer (some ⟨p, 0, none⟩))).run Try.prog w' = .ok (chv c) w' ∧ Frm (fun _ => False) w1 w') (by kernel_rfl) rfl rfl (by kernel_rfl) (by kernel_rfl) (by kernel_rfl) (⟨c1, ch_load b1.drew, (Frm.refl _ w1).drew⟩) ?_
  repeat' first
    | (refine CanonL.skip (by rfl) ?_; (try simp only [Act.put, List.setIfInBounds_toArray, List.set_cons_zero, List.set_cons_succ]))
    | (refine CanonL.load (by rfl) _ (by rfl) (by rfl) (fun w hs => hs.2.1) ?_; (try simp only [Act.put, List.setIfInBounds_toArray, List.set_cons_zero, List.set_cons_succ]))
    | (refine CanonL.val (v := ?_) (by rfl) ?_ ?_; rotate_left 1; (focus (intro w hSw; (try dsimp only at hSw); go_simp; (try (with_reducible rfl)); done)); (try simp only [Act.put, List.setIfInBounds_toArray, List.set_cons_zero, List.set_cons_succ]))
  refine CanonL.done ?_
  intro w9 hS9
  obtain ⟨_, _, g2⟩ := hS9
  have H9 := Lib.hid (H.out.keepF g2)
  refine wpOp_store_ch rfl rfl rfl _ _ _ rfl m c.id c T rfl rfl rfl H9.out.map H9.out.ok hid (by omega) ?_
  intro w3 hm3 hg3 hs3
  have hpm : p ≠ m := fun e => hpl (e ▸ H9.out.fm)
  have b3 := (HB.out.keep g2 (fun h => h)).keep hg3 hpm
  have t3 := H9.out.blk.keep hg3 H9.out.bm
  have x3 := H9.out.idx.keep hg3 (fun k hk e => H9.out.qm (e ▸ hk))
  have HT3 := Lib.hid (And.intro t3 (And.intro x3 (And.intro hm3 (And.intro g2 (And.intro hg3 b3)))))
  have d0 := b3.cell 0 rfl
  have d2 := t3.cell 2 rfl
  clear b3 t3 x3 hm3 hg3 g2 c1 b1
  go_upto_region 2 with fail
  refine wp_region_root (fun w' => w'.cell? ⟨b, 2, none⟩ = some (.pointer (some ⟨x, 0, none⟩)) ∧ w'.cell? ⟨p, 0, none⟩ = some (.string (bs c.s)) ∧ Frm (fun _ => False) w3 w') (by kernel_rfl) rfl rfl (by kernel_rfl) (by kernel_rfl) (by kernel_rfl) (⟨d2, d0, (Frm.refl _ w3).drew⟩) ?_
  repeat' first
    | (refine CanonL.skip (by rfl) ?_; (try simp only [Act.put, List.setIfInBounds_toArray, List.set_cons_zero, List.set_cons_succ]))
    | (refine CanonL.val (v := ?_) (by rfl) ?_ ?_; rotate_left 1; (focus (intro w hSw; (try dsimp only at hSw); go_simp; (try (with_reducible rfl)); done)); (try simp only [Act.put, List.setIfInBounds_toArray, List.set_cons_zero, List.set_cons_succ]))
  refine CanonL.done ?_
  intro w9 hS9
  obtain ⟨_, _, g4⟩ := hS9
  refine wpOp_callC rfl rfl (by rfl) (by go_simp) ((add_any x c.s c.id I fq _ (HT3.out.2.1.keepF g4) hsl hIl).mono ?_)
  rintro e w5 ⟨rfl, fx5, x5, g5, n5⟩
  refine ⟨_, rfl, ?_⟩
  simp only [Act.put, List.setIfInBounds_toArray, List.set_cons_zero, List.set_cons_succ]
  rw [HIX.out.2] at x5
  have t5 := (HT3.out.1.keep g4 (fun h => h)).keep g5 H9.out.qb
  have m5 := (HT3.out.2.2.1.keep g4 (fun h => h)).keep g5 H9.out.qm
  have hcast : ((c.id + 1 : Nat) : Int) = (c.id : Int) + 1 := by omega
  have hsk := tskip_raw b m (c.id + 1) T.nx _ w5 t5
  rw [hcast] at hsk
  obtain ⟨q, hq⟩ : ∃ q, (if T.nx < c.id + 1 then c.id + 1 else T.nx) = q := ⟨_, rfl⟩
  rw [hq] at hsk
  have HQ := Lib.hid hq
  clear hq
  have HS := Lib.hid hsk
  clear hsk hcast
  have HE : Hid (∀ nx', nx' = (if T.nx < c.id + 1 then c.id + 1 else T.nx) → TabTo b fp (T.put c) w (w5.setCell ⟨b, 3, none⟩ (.int .u32 (nx' : Nat)))) := Lib.hid fun nx' hnx => by
    obtain ⟨hok, hc, hh1, hh2⟩ := HX.out
    have hnp : (T.put c).nx = nx' := by
      rw [hnx]
      show (if T.nx ≤ c.id then c.id + 1 else T.nx) = _
      split <;> split <;> omega
    obtain ⟨r1, r2, r3, r4, r5, r6⟩ := HT3.out
    have fA : Frm fp w w5 := (((((HF.out.trans r4).mono (Y := fp) fun _ _ h => h.elim).next r5 (fun k _ e => e ▸ H9.out.fm)).next g4 (fun k _ h => h.elim)).next g5 (fun k _ e => H9.out.fx k e))
    have fB : Frm fp w (w5.setCell ⟨b, 3, none⟩ (.int .u32 (nx' : Nat))) := fA.setCell (p := ⟨b, 3, none⟩) (fun _ => H9.out.fb) _
    have fC : Frm (· = b) w5 (w5.setCell ⟨b, 3, none⟩ (.int .u32 (nx' : Nat))) := (Frm.refl (· = b) w5).setCell (p := ⟨b, 3, none⟩) (fun _ => rfl) _
    have s34 := g4.size
    have s3 : w.heap.size ≤ w3.heap.size := Nat.le_trans (HF.out.trans r4).size r5.size
    have hb5 := t5.lt
    have hnb : ¬ fx5 b := fun e => (n5 b e).elim H9.out.qb (fun e => by have := H9.out.lt b H9.out.fb; have := r5.size; omega)
    have hnm : ¬ fx5 m := fun e => (n5 m e).elim H9.out.qm (fun e => by have := H9.out.lt m H9.out.fm; have := r5.size; omega)
    refine ⟨fun k => fp k ∨ fx5 k, ⟨m, x, _, fx5, ⟨?_, ?_, x5.keep fC (fun k hk e => hnb (e ▸ hk)), HIX.out.1.put c, TbV.put_ok hok hc hh1 hh2, H9.out.bm, hnb, hnm, .inl H9.out.fb, .inl H9.out.fm, fun k hk => .inr hk, fun k hk => ?_⟩⟩, fB, fun k hk => ?_⟩
    · have := t5.set 3 (.int .u32 (nx' : Nat))
      rw [hnp]
      exact this
    · refine (m5.keep fC (fun e => H9.out.bm e.symm)).congr fun j => ?_
      exact TbV.put_get hok hc hh1 hh2 j
    · rcases hk with hk | hk
      · exact Nat.lt_of_lt_of_le (H9.out.lt k hk) (Nat.le_trans (Nat.le_trans (Nat.le_trans r5.size g4.size) g5.size) fC.size)
      · exact Nat.lt_of_lt_of_le (x5.1 k hk) fC.size
    · rcases hk with hk | hk
      · exact .inl hk
      · rcases n5 k hk with e | e
        · exact .inl (H9.out.fx k e)
        · exact .inr (by omega)
  clear HT3 t5 m5 x5 g5 n5 g4 d0 d2
  go_wp2_with fail
  refine HS.out.mono ?_
  rintro e w6 ⟨rfl, rfl⟩
  go_wp2_with fail
  go_end0
  exact ⟨rfl, HE.out q HQ.out.symm⟩
theorem TbV.add_form {T : TbV} {s : List UInt8} (b : Int) (h : fitS s = false) : T.add s b = (T, 0, 4) := by unfold TbV.add; rw [if_pos h]
theorem TbV.add_there {T : TbV} {s : List UInt8} (b : Int) (h : fitS s = true) (h2 : (T.find s).isSome = true) : T.add s b = (T, 0, 6) := by
  unfold TbV.add
  rw [if_neg (by rw [h]; decide), if_pos h2]
theorem TbV.add_count {T : TbV} {s : List UInt8} (b : Int) (h : fitS s = true) (h2 : (T.find s).isSome = false) (h3 : T.nx = 4294967295) : T.add s b = (T, 0, 12) := by
  unfold TbV.add
  rw [if_neg (by rw [h]; decide), if_neg (by rw [h2]; decide), if_pos h3]
theorem TbV.add_yes {T : TbV} {s : List UInt8} (b : Int) (h : fitS s = true) (h2 : (T.find s).isSome = false) (h3 : T.nx ≠ 4294967295) : T.add s b = (T.put ⟨T.nx, s, b, 1⟩, T.nx, 0) := by
  unfold TbV.add
  rw [if_neg (by rw [h]; decide), if_neg (by rw [h2]; decide), if_neg h3]
theorem fitS_iff (s : List UInt8) : fitS s = true ↔ 1 ≤ s.length ∧ s.length ≤ 64 := by
  unfold fitS
  rw [Bool.and_eq_true, decide_eq_true_eq, decide_eq_true_eq]
set_option maxRecDepth 100000 in
set_option maxHeartbeats 2000000 in
theorem tadd_any (b : Nat) (s : List UInt8) (z : Int) (T : TbV) (fp : Nat → Prop) (hs : s.length ≤ 9223372036854775807) (hz : -9223372036854775808 ≤ z ∧ z ≤ 9223372036854775807) (hl : T.L.length ≤ 900000) (w : World) (h : TabM w b T fp) :
    Calls Try.prog 13 #[.pointer (some ⟨b, 0, none⟩), .string (bs s), .int .i64 z] w fun e w' => e = .returned (.tuple #[.int .u32 ((T.add s z).2.1 : Nat), .int .i64 ((T.add s z).2.2 : Nat)]) ∧ TabTo b fp (T.add s z).1 w w' := by
  have HM : Hid (Calls Try.prog 35 #[.pointer (some ⟨b, 0, none⟩)] w fun e w' => e = .returned (.bool true) ∧ w = w') := by
    obtain ⟨m, x, I, fq, h⟩ := h
    exact Lib.hid (tmade_any b m x I T fq fp w h)
  have HFt := Lib.hid (fits_any s hs w)
  have HHs := Lib.hid (thas_any b s T fp hs hl w h)
  have H := Lib.hid h
  have hok := h.ok
  have hn2 := hok.n2
  cases hf : fitS s with
  | false =>
    rw [TbV.add_form z hf]
    rw [hf] at HFt
    clear h hok hf
    go_enter Try.func13, Try.ntmps13
    go_wp2_with fail
    refine HM.out.mono ?_
    rintro e w1 ⟨rfl, rfl⟩
    go_wp2_with fail
    refine HFt.out.mono ?_
    rintro e w1 ⟨rfl, rfl⟩
    go_wp2_with fail
    go_ret2
    exact ⟨rfl, TabTo.same H.out (Frm.refl _ _)⟩
  | true =>
    rw [hf] at HFt
    cases hfd : (T.find s).isSome with
    | true =>
      rw [TbV.add_there z hf hfd]
      rw [hfd] at HHs
      clear h hok hf hfd
      go_enter Try.func13, Try.ntmps13
      go_wp2_with fail
      refine HM.out.mono ?_
      rintro e w1 ⟨rfl, rfl⟩
      go_wp2_with fail
      refine HFt.out.mono ?_
      rintro e w1 ⟨rfl, rfl⟩
      go_wp2_with fail
      refine HHs.out.mono ?_
      rintro e w1 ⟨rfl, g1⟩
      go_wp2_with fail
      go_ret2
      exact ⟨rfl, TabTo.same H.out g1⟩
    | false =>
      rw [hfd] at HHs
      by_cases hnx : T.nx = 4294967295
      · rw [TbV.add_count z hf hfd hnx]
        have hc3 : ∀ W, Frm (fun _ => False) w W → W.cell? ⟨b, 3, none⟩ = some (.int .u32 4294967295) := fun W f => by
          obtain ⟨m, x, I, fq, h⟩ := h
          have := (h.keepF f).nc
          rw [hnx] at this
          exact this
        have HC := Lib.hid hc3
        clear h hok hf hfd hnx hc3
        go_enter Try.func13, Try.ntmps13
        go_wp2_with fail
        refine HM.out.mono ?_
        rintro e w1 ⟨rfl, rfl⟩
        go_wp2_with fail
        refine HFt.out.mono ?_
        rintro e w1 ⟨rfl, rfl⟩
        go_wp2_with fail
        refine HHs.out.mono ?_
        rintro e w1 ⟨rfl, g1⟩
        have c3 := HC.out w1 g1
        go_wp2_with fail
        go_ret2
        exact ⟨rfl, TabTo.same H.out g1⟩
      · rw [TbV.add_yes z hf hfd hnx]
        have hc3 : ∀ W, Frm (fun _ => False) w W → W.cell? ⟨b, 3, none⟩ = some (.int .u32 (T.nx : Nat)) := fun W f => by
          obtain ⟨m, x, I, fq, h⟩ := h
          exact (h.keepF f).nc
        have HC := Lib.hid hc3
        have hfit := (fitS_iff s).1 hf
        have hn1 := hok.n1
        have hno : T.find s = none := by cases e : T.find s with
          | none => rfl
          | some k => rw [e] at hfd; cases hfd
        have HP := Lib.hid fun (W : World) (f : Frm (fun _ => False) w W) => tput_any b ⟨T.nx, s, z, 1⟩ T fp ⟨hn1, by show T.nx < _; omega, hfit.1, hfit.2, hz, Nat.le_refl _, by show 1 ≤ 65535; decide⟩ (fun y hy => by have := hok.lt y hy; show y.id ≠ T.nx; omega) (TbV.find_none hno) hl W (h.keepF f)
        have hq : ((T.nx : Int) == 4294967295) = false := by rw [beq_eq_false_iff_ne]; omega
        clear h hok hf hfd hnx hc3 hno hfit hn1
        go_enter Try.func13, Try.ntmps13
        go_wp2_with fail
        refine HM.out.mono ?_
        rintro e w1 ⟨rfl, rfl⟩
        go_wp2_with fail
        refine HFt.out.mono ?_
        rintro e w1 ⟨rfl, rfl⟩
        go_wp2_with fail
        refine HHs.out.mono ?_
        rintro e w1 ⟨rfl, g1⟩
        have c3 := HC.out w1 g1
        have HP1 := Lib.hid (HP.out w1 g1)
        go_wp2_with fail
        refine HP1.out.mono ?_
        rintro e w2 ⟨rfl, h2⟩
        go_wp2_with fail
        go_ret2
        exact ⟨rfl, TabTo.from_ g1 h2⟩
end Go.Proofs.Ytjodkgbpbibfbaa
