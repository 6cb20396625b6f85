/- The document's own One and Keep. No condition but that there are at most a thousand versions. -/
import Derived.Test.YtbmlfhiffooilaaKpJ
namespace Go.Proofs.Ytbmlfhiffooilaa
open Go.RowKit Go.Shelf

/-- Bools that are only read. -/
def BlL (w : World) (v : Value) (L : List Bool) : Prop := Sl w 1 v L.length (L.map Value.bool)
theorem BlL.keepF {w w' : World} {v : Value} {L : List Bool} (h : BlL w v L) (hf : Frm (fun _ => False) w w') : BlL w' v L := Sl.keepF h hf
theorem BlL.slice {w : World} {v : Value} {L : List Bool} (h : BlL w v L) : ∃ a cap, v = .slice a L.length cap ∧ L.length ≤ cap ∧ cap ≤ maxLen := Sl.slice h
theorem BlL.at {w : World} {a : Option Addr} {n cap : Nat} {L : List Bool} (h : BlL w (.slice a n cap) L) (j : Nat) (hj : j < L.length) : ∃ g off, a = some ⟨g, off, none⟩ ∧ w.cell? ⟨g, off + j, none⟩ = some (.bool L[j]) := by
  obtain ⟨a', cap', e, _⟩ := Sl.slice h
  cases e
  obtain ⟨g, off, e1, _, e3⟩ := Sl.at h j (by omega)
  exact ⟨g, off, e1, by rw [e3]; simp [hj]⟩
theorem BlL.ofBlk {w : World} {b : Nat} {L : List Bool} (h : Blk w b 4 (bls L)) (hl : L.length ≤ 1000000) : BlL w (.slice (some ⟨b, 0, none⟩) L.length L.length) L := by
  refine ⟨by simp, _, _, rfl, Nat.le_refl _, by unfold maxLen; omega, .inr ⟨b, 0, rfl, h.lt, fun j hj => ?_⟩⟩
  have hj' : j < L.length := by omega
  rw [Nat.zero_add, bls_cell h j hj']
  simp [hj']
theorem infoB : (Try.prog.info? 4).map (fun i => (i.zero, i.size, i.bytes)) = some (some (.bool false), 1, 1) := by kernel_rfl
theorem bools_one (L : List Bool) : ∀ u ∈ L.map Value.bool, u.oneCell' = true := fun u hu => by
  obtain ⟨_, _, rfl⟩ := List.mem_map.1 hu
  rfl
theorem append_bools (w : World) (v x : Value) (l m : List Bool) (h : Row w 1 v l.length (l.map Value.bool)) (hs : BlL w x m) (hb : l.length + m.length ≤ 1000001) :
    ∃ v' w', (Builtin.append_ #[39, 39] 39 #[v, x]).run Try.prog w = .ok v' w' ∧ Row w' 1 v' (l ++ m).length ((l ++ m).map Value.bool) ∧ w.grownBy w' v.ownBlock ∧ (∀ g, v'.ownBlock = some g → v.ownBlock = some g ∨ w.heap.size ≤ g) := by
  obtain ⟨i0, hi, hz0, hz1, hz2⟩ := info_parts infoB
  obtain ⟨v', w', h1, h2, h3, h4⟩ := run_append_row w 39 39 39 4 i0 (.bool false) 1 1 Try.underlying39 hi hz0 hz1 hz2 rfl h x m.length (m.map Value.bool)
    (Sl.src hs Try.underlying39 (bools_one m)) (by unfold maxLen; omega) (by omega)
  exact ⟨v', w', h1, by rw [List.length_append, List.map_append]; exact h2, h3, h4⟩
theorem BlL.one (w : World) (q : Bool) : BlL (w.alloc (.cells #[.bool q] 4)) (.slice (some ⟨w.heap.size, 0, none⟩) 1 1) [q] := BlL.ofBlk (L := [q]) (Blk.alloc w _ _) (by simp)
/-- Whether a version is kept, from its age. -/
def oneD (k a d : Nat) (x y : Bool) : Bool := if k = 1 then (if d ≤ 7 then true else if d ≤ 63 then x else if d ≤ 511 then y else false) else if k = 0 ∧ 0 < a then decide (d ≤ a) else true
theorem one9_D (k a now : Nat) (l : List StI) (s : StI) : one9 k a l now s = oneD k a (now - s.tick) (firstS l 8 s) (firstS l 64 s) := rfl
theorem oneD_00 (d : Nat) (x y : Bool) : oneD 0 0 d x y = true := rfl
theorem oneD_0a {a : Nat} (h : ¬ a = 0) (d : Nat) (x y : Bool) : oneD 0 a d x y = decide (d ≤ a) := by
  unfold oneD; rw [if_neg (show ¬ (0 : Nat) = 1 by decide), if_pos ⟨rfl, Nat.pos_of_ne_zero h⟩]
theorem oneD_1 (a d : Nat) (x y : Bool) : oneD 1 a d x y = (if d ≤ 7 then true else if d ≤ 63 then x else if d ≤ 511 then y else false) := rfl
theorem oneD_n {k : Nat} (h1 : ¬ k = 0) (h2 : ¬ k = 1) (a d : Nat) (x y : Bool) : oneD k a d x y = true := by
  unfold oneD; rw [if_neg h2, if_neg (fun h => h1 h.1)]
set_option maxRecDepth 100000 in
set_option maxHeartbeats 8000000 in
theorem one9_any (k a now : Nat) (q : Int) (v : Value) (l : List StI) (s : StI) (w : World) (h : StL w v l) (hnow : now ≤ 4294967295) :
    Calls Try.prog 27 #[.agg (pv k a q), v, .agg (stv s), .int .u32 (now : Int)] w fun e w' => e = .returned (.bool (one9 k a l now s)) ∧ Frm (fun _ => False) w w' := by
  obtain ⟨aa, cap, rfl, hc1, hc2⟩ := h.slice
  have g0 : Frm (fun _ => False) w ((w.alloc (.cells (pv k a q) 27)).alloc (.cells (stv s) 30)) := ((Frm.refl _ w).alloc _).alloc _
  have b0 : Blk ((w.alloc (.cells (pv k a q) 27)).alloc (.cells (stv s) 30)) w.heap.size 27 (pv k a q) := (Blk.alloc w _ _).old _
  have b1 := Blk.atS w 27 30 (pv k a q) (stv s)
  have c0 := b1.cell 0 rfl
  have c1 := b1.cell 1 rfl
  have HA := Lib.hid (rage_any s now ((w.alloc (.cells (pv k a q) 27)).alloc (.cells (stv s) 30)) hnow)
  obtain ⟨d, hd⟩ : ∃ d, now - s.tick = d := ⟨_, rfl⟩
  have HD := Lib.hid hd
  rw [hd] at HA
  have HB0 := Lib.hid b0
  have HB1 := Lib.hid b1
  have HG := Lib.hid g0
  have HF := Lib.hid (fun (wd : Nat) W (g : Frm (fun _ => False) w W) hwd hwl => first_any wd _ l s W (h.keepF g) hwd hwl)
  have hone := one9_D k a now l s
  rw [hd] at hone
  have HONE := Lib.hid hone
  clear h b0 b1 g0 hd hone
  go_enter Try.func27, Try.ntmps27
  go_wp2_with fail
  refine HA.out.mono ?_
  rintro e w2 ⟨rfl, g2⟩
  have hG := HG.out.trans g2
  have d0 := (HB0.out.keep g2 (fun h => h)).cell 0 rfl
  have d1 := (HB0.out.keep g2 (fun h => h)).cell 1 rfl
  have e0 := (HB1.out.keep g2 (fun h => h)).cell 0 rfl
  have e1 := (HB1.out.keep g2 (fun h => h)).cell 1 rfl
  have HGG := Lib.hid hG
  clear c0 c1 HA HB0 HB1 HG g2 hG
  by_cases h1 : k = 0
  · subst h1
    by_cases h2 : a = 0
    · subst h2
      go_wp2_with fail
      go_ret
      exact ⟨by rw [HONE.out, oneD_00]; rfl, HGG.out⟩
    · have h2i : ((a : Int) == 0) = false := by rw [beq_eq_false_iff_ne]; omega
      have H2 := Lib.hid h2
      obtain ⟨qq, hqq⟩ : ∃ qq, decide (d ≤ a) = qq := ⟨_, rfl⟩
      have hqi : decide ((d : Int) ≤ (a : Int)) = qq := by rw [← hqq]; exact decide_eq_decide.2 (by omega)
      have HQ := Lib.hid hqq
      clear hqq
      go_wp2_with fail
      go_ret
      exact ⟨by rw [HONE.out, oneD_0a H2.out, HQ.out]; rfl, HGG.out⟩
  · have h1i : ¬ (k : Int) = 0 := by omega
    by_cases h2 : k = 1
    · subst h2
      by_cases a1 : d ≤ 7
      · have a1i : (d : Int) < 8 := by omega
        go_wp2_with fail
        go_ret
        exact ⟨by rw [HONE.out, oneD_1, if_pos a1]; rfl, HGG.out⟩
      · have a1i : ¬ (d : Int) < 8 := by omega
        by_cases a2 : d ≤ 63
        · have a2i : (d : Int) < 64 := by omega
          go_wp2_with fail
          refine (HF.out 8 w2 HGG.out (by decide) (by decide)).mono ?_
          rintro e w3 ⟨rfl, g3⟩
          go_wp2_with fail
          go_ret
          exact ⟨by rw [HONE.out, oneD_1, if_neg a1, if_pos a2]; rfl, HGG.out.trans g3⟩
        · have a2i : ¬ (d : Int) < 64 := by omega
          by_cases a3 : d ≤ 511
          · have a3i : (d : Int) < 512 := by omega
            go_wp2_with fail
            refine (HF.out 64 w2 HGG.out (by decide) (by decide)).mono ?_
            rintro e w3 ⟨rfl, g3⟩
            go_wp2_with fail
            go_ret
            exact ⟨by rw [HONE.out, oneD_1, if_neg a1, if_neg a2, if_pos a3]; rfl, HGG.out.trans g3⟩
          · have a3i : ¬ (d : Int) < 512 := by omega
            go_wp2_with fail
            go_ret
            exact ⟨by rw [HONE.out, oneD_1, if_neg a1, if_neg a2, if_neg a3]; rfl, HGG.out⟩
    · have h2i : ¬ (k : Int) = 1 := by omega
      go_wp2_with fail
      go_ret
      exact ⟨by rw [HONE.out, oneD_n h1 h2]; rfl, HGG.out⟩
def rk5M : List Nat := [1, 2, 4, 8, 28, 60, 64, 255, 511]
def rk5R (k a now g off cap j : Nat) (q : Int) (l : List StI) (s : StI) (ql : Bool) : List ((Nat → Value) → World → Prop) := [
  fun val _ => val 0 = .agg (pv k a q),
  fun val _ => val 1 = .slice (some ⟨g, off, none⟩) l.length cap,
  fun val _ => val 2 = .slice (some ⟨g, off, none⟩) l.length cap,
  fun val _ => val 3 = .int .i64 (j : Int),
  fun val _ => val 4 = .pointer (some ⟨g, off + j * 2, none⟩),
  fun val _ => val 5 = .agg (stv s),
  fun val _ => val 6 = .int .u32 (now : Int),
  fun val _ => val 7 = .bool ql,
  fun val _ => val 8 = .bool ql]

set_option maxRecDepth 100000 in
set_option maxHeartbeats 8000000 in
theorem rkeep_any (k a now : Nat) (q : Int) (v : Value) (l : List StI) (w : World) (h : StL w v l) (hb : l.length ≤ 1000) (hnow : now ≤ 4294967295) :
    Calls Try.prog 17 #[.agg (pv k a q), v, .int .u32 (now : Int)] w fun e w' => ∃ v, e = .returned v ∧ BlL w' v (keep9 k a l now) ∧ Frm (fun _ => False) w w' := by
  obtain ⟨aa, cap, rfl, hc1, hc2⟩ := h.slice
  unfold maxLen at hc2
  have g0 : Frm (fun _ => False) w (w.alloc (.cells (pv k a q) 27)) := (Frm.refl _ w).alloc _
  have b0 : Blk (w.alloc (.cells (pv k a q) 27)) w.heap.size 27 (pv k a q) := Blk.alloc w _ _
  have HL := Lib.hid h
  have HG := Lib.hid g0
  go_enter Try.func17, Try.ntmps17
  go_upto_region 2 with fail
  generalize w.alloc (.cells (pv k a q) 27) = w1 at *
  obtain ⟨A, hA⟩ : ∃ A, w.heap.size = A := ⟨_, rfl⟩
  have HA := Lib.hid hA
  rw [hA] at b0 ⊢
  have HB := Lib.hid b0
  have HBL := Lib.hid hb
  clear h b0 g0 hA
  go_wp2_with fail
  go_loopw [7, 8] (fun u i wr => ∃ j : Nat, j ≤ l.length ∧ i = .int .i64 j ∧ Row wr 1 u ((keep9 k a l now).take j).length (((keep9 k a l now).take j).map Value.bool) ∧ (∀ g, u.ownBlock = some g → w1.heap.size ≤ g) ∧ Frm (fun _ => False) w1 wr) (fun _ i _ => l.length - (intOf i).toNat)
  case atStart => exact ⟨0, Nat.zero_le _, rfl, by rw [List.take_zero]; exact Row.nil_ _ 1, fun g e => (by cases e), Frm.refl _ _⟩
  case round =>
    obtain ⟨j, hj, rfl, hO, hN, hF⟩ := hrel
    by_cases hlt : j < l.length
    · have hji : (j : Int) < (l.length : Int) := by omega
      have hj0 : (0 : Int) ≤ (j : Int) := by omega
      obtain ⟨g, off, rfl, e0, e1⟩ := (HL.out.keepF (HG.out.trans hF)).elem j hlt
      obtain ⟨s, hs⟩ : ∃ s, l[j] = s := ⟨_, rfl⟩
      rw [hs] at e0 e1
      have hkl : (keep9 k a l now).length = l.length := by simp [keep9]
      have HT : Hid ((keep9 k a l now).take (j + 1) = (keep9 k a l now).take j ++ [one9 k a l now s]) := Lib.hid (by
        rw [List.take_succ_eq_append_getElem (by rw [hkl]; exact hlt)]
        simp [keep9, hs])
      obtain ⟨ql, hql⟩ : ∃ ql, one9 k a l now s = ql := ⟨_, rfl⟩
      rw [hql] at HT
      have HE : Hid (∀ W, Frm (fun _ => False) wr W → W.cell? ⟨g, off + j * 2, none⟩ = some (.int .u32 (s.id : Int)) ∧ W.cell? ⟨g, off + j * 2 + 1, none⟩ = some (.int .u32 (s.tick : Int))) := Lib.hid fun W gg => ⟨gg.cellF e0, gg.cellF e1⟩
      have HP : Hid (∀ W, Frm (fun _ => False) wr W → Blk W A 27 (pv k a q)) := Lib.hid fun W gg => HB.out.keep (hF.trans gg) (fun h => h)
      have HONE : Hid (∀ W, Frm (fun _ => False) wr W → Calls Try.prog 27 #[.agg (pv k a q), .slice (some ⟨g, off, none⟩) l.length cap, .agg (stv s), .int .u32 (now : Int)] W fun e w' => e = .returned (.bool ql) ∧ Frm (fun _ => False) W w') := Lib.hid fun W gg => by
        rw [← hql]
        exact one9_any k a now q _ l s W (HL.out.keepF ((HG.out.trans hF).trans gg)) hnow
      obtain ⟨a4, c4, hu, _, _⟩ := Row.slice hO
      have hl4 : ((keep9 k a l now).take j).length = j := by rw [List.length_take, hkl]; omega
      subst hu
      have HO := Lib.hid hO
      have HN := Lib.hid hN
      have HF := Lib.hid hF
      have HL4 := Lib.hid hl4
      rw [hl4]
      clear hO hN hF hs hql e0 e1 hkl hl4
      go_upto_region 5 with fail
      rename_i hK
      have D : Frm (fun _ => False) wr wr.drew := (Frm.refl _ _).drew
      refine wp_region_late 9 0 [] [[], [], [], [], [2, 3], [4], [], [0, 1, 5, 6], [7]] rk5M (rk5R k a now g off cap j q l s ql) (by kernel_rfl) rfl rfl rfl (by kernel_rfl) (by kernel_rfl) (by kernel_rfl) (by kernel_rfl) rfl (by kernel_rfl) (by kernel_rfl) (by kernel_rfl) (by kernel_rfl) (fun val => ?_) ?_
      · try dsimp only
        refine RelO.next (k' := 1) rfl (fun W gW hF => ?_) ?_
        focus
          have z0 := (HP.out W (D.trans gW)).cell 0 rfl
          have z1 := (HP.out W (D.trans gW)).cell 1 rfl
          have z2 := (HP.out W (D.trans gW)).cell 2 rfl
          exact OpOK.val (u := .agg (pv k a q)) (by rfl) (by first | (go_simp; done) | (go_simp; with_reducible rfl) | (go_simp; rfl)) (fun W' _ => rfl)
        try simp only [Act.put, List.setIfInBounds_toArray, List.set_cons_zero, List.set_cons_succ]
        refine RelO.next (k' := 2) rfl (fun W gW hF => ?_) ?_
        focus
          refine OpOK.val (u := .slice (some ⟨g, off, none⟩) l.length cap) (by rfl) ?_ (fun W' _ => rfl)
          try simp only [tupAt]
          first | (go_simp; done) | (go_simp; with_reducible rfl) | (go_simp; rfl)
        try simp only [Act.put, List.setIfInBounds_toArray, List.set_cons_zero, List.set_cons_succ]
        refine RelO.next (k' := 3) rfl (fun W gW hF => ?_) ?_
        focus
          refine OpOK.val (u := .slice (some ⟨g, off, none⟩) l.length cap) (by rfl) ?_ (fun W' _ => rfl)
          try simp only [tupAt]
          first | (go_simp; done) | (go_simp; with_reducible rfl) | (go_simp; rfl)
        try simp only [Act.put, List.setIfInBounds_toArray, List.set_cons_zero, List.set_cons_succ]
        refine RelO.next (k' := 4) rfl (fun W gW hF => ?_) ?_
        focus
          refine OpOK.val (u := .int .i64 (j : Int)) (by rfl) ?_ (fun W' _ => rfl)
          try simp only [tupAt]
          first | (go_simp; done) | (go_simp; with_reducible rfl) | (go_simp; rfl)
        try simp only [Act.put, List.setIfInBounds_toArray, List.set_cons_zero, List.set_cons_succ]
        refine RelO.next (k' := 5) rfl (fun W gW hF => ?_) ?_
        focus
          obtain ⟨h2, h3, _⟩ := hF
          have e2 : val 2 = .slice (some ⟨g, off, none⟩) l.length cap := h2 _ (Frm.refl _ W)
          have e3 : val 3 = .int .i64 (j : Int) := h3 _ (Frm.refl _ W)
          try simp only [e3]
          try simp only [e2]
          try simp only [tupAt]
          refine OpOK.val (u := .pointer (some ⟨g, off + j * 2, none⟩)) (by rfl) ?_ (fun W' _ => rfl)
          try simp only [e3]
          try simp only [e2]
          try simp only [tupAt]
          first | (go_simp; done) | (go_simp; with_reducible rfl) | (go_simp; rfl)
        try simp only [Act.put, List.setIfInBounds_toArray, List.set_cons_zero, List.set_cons_succ]
        refine RelO.next (k' := 6) rfl (fun W gW hF => ?_) ?_
        focus
          obtain ⟨h4, _⟩ := hF
          have e4 : val 4 = .pointer (some ⟨g, off + j * 2, none⟩) := h4 _ (Frm.refl _ W)
          try simp only [e4]
          try simp only [tupAt]
          obtain ⟨z0, z1⟩ := HE.out W (D.trans gW)
          exact OpOK.val (u := .agg (stv s)) (by rfl) (by first | (go_simp; done) | (go_simp; with_reducible rfl) | (go_simp; rfl)) (fun W' _ => rfl)
        try simp only [Act.put, List.setIfInBounds_toArray, List.set_cons_zero, List.set_cons_succ]
        refine RelO.next (k' := 7) rfl (fun W gW hF => ?_) ?_
        focus
          refine OpOK.val (u := .int .u32 (now : Int)) (by rfl) ?_ (fun W' _ => rfl)
          try simp only [tupAt]
          first | (go_simp; done) | (go_simp; with_reducible rfl) | (go_simp; rfl)
        try simp only [Act.put, List.setIfInBounds_toArray, List.set_cons_zero, List.set_cons_succ]
        refine RelO.next (k' := 8) rfl (fun W gW hF => ?_) ?_
        focus
          obtain ⟨h0, h1, h5, h6, _⟩ := hF
          have e0 : val 0 = .agg (pv k a q) := h0 _ (Frm.refl _ W)
          have e1 : val 1 = .slice (some ⟨g, off, none⟩) l.length cap := h1 _ (Frm.refl _ W)
          have e5 : val 5 = .agg (stv s) := h5 _ (Frm.refl _ W)
          have e6 : val 6 = .int .u32 (now : Int) := h6 _ (Frm.refl _ W)
          try simp only [e6]
          try simp only [e5]
          try simp only [e1]
          try simp only [e0]
          try simp only [tupAt]
          refine OpOK.call (by rfl) ?_ ((HONE.out W (D.trans gW)).mono ?_)
          · first | (go_simp; done) | (go_simp; with_reducible rfl) | (go_simp; rfl)
          · rintro e W1 ⟨rfl, g1⟩
            exact ⟨_, rfl, g1, fun W2 _ => rfl⟩
        try simp only [Act.put, List.setIfInBounds_toArray, List.set_cons_zero, List.set_cons_succ]
        refine RelO.next (k' := 9) rfl (fun W gW hF => ?_) ?_
        focus
          obtain ⟨h7, _⟩ := hF
          have e7 : val 7 = .bool ql := h7 _ (Frm.refl _ W)
          try simp only [e7]
          try simp only [tupAt]
          refine OpOK.val (u := .bool ql) (by rfl) ?_ (fun W' _ => rfl)
          try simp only [e7]
          try simp only [tupAt]
          first | (go_simp; done) | (go_simp; with_reducible rfl) | (go_simp; rfl)
        try simp only [Act.put, List.setIfInBounds_toArray, List.set_cons_zero, List.set_cons_succ]
        exact RelO.nil
      intro val w3 gW hF
      obtain ⟨h0, h1, h2, h3, h4, h5, h6, h7, h8, hT⟩ := hF
      have e0 : val 0 = .agg (pv k a q) := h0 _ (Frm.refl _ w3)
      have e1 : val 1 = .slice (some ⟨g, off, none⟩) l.length cap := h1 _ (Frm.refl _ w3)
      have e2 : val 2 = .slice (some ⟨g, off, none⟩) l.length cap := h2 _ (Frm.refl _ w3)
      have e3 : val 3 = .int .i64 (j : Int) := h3 _ (Frm.refl _ w3)
      have e4 : val 4 = .pointer (some ⟨g, off + j * 2, none⟩) := h4 _ (Frm.refl _ w3)
      have e5 : val 5 = .agg (stv s) := h5 _ (Frm.refl _ w3)
      have e6 : val 6 = .int .u32 (now : Int) := h6 _ (Frm.refl _ w3)
      have e7 : val 7 = .bool ql := h7 _ (Frm.refl _ w3)
      have e8 : val 8 = .bool ql := h8 _ (Frm.refl _ w3)
      clear hT h0 h1 h2 h3 h4 h5 h6 h7 h8
      simp only [aO, Act.put, List.setIfInBounds_toArray, List.set_cons_zero, List.set_cons_succ, Nat.reduceAdd]
      try simp only [e8]
      try simp only [e7]
      try simp only [e6]
      try simp only [e5]
      try simp only [e4]
      try simp only [e3]
      try simp only [e2]
      try simp only [e1]
      try simp only [e0]
      try simp only [tupAt]
      refine wpTail.doneN ?_
      refine hK _ _ ?_
      have g5 := D.trans gW
      have g6 : Frm (fun _ => False) w3 (w3.alloc (.cells #[.bool ql] 4)) := (Frm.refl _ w3).alloc _
      obtain ⟨v6, w6, hrun, hrow, hgr, hnew⟩ := append_bools _ _ _ _ [ql] (Row.keep (Row.keep HO.out g5 (fun _ _ h => h)) g6 (fun _ _ h => h)) (BlL.one w3 ql) (by
        have h3 : ([ql] : List Bool).length = 1 := rfl
        have h4 := HL4.out
        omega)
      rw [HL4.out] at hrun
      have HT6 := Lib.hid (show ∀ g, v6.ownBlock = some g → w1.heap.size ≤ g from fun g e => (hnew g e).elim (fun e => HN.out g e) (fun e => by have := g6.size; have := g5.size; have := HF.out.size; omega))
      have HF6 := Lib.hid (show Frm (fun _ => False) w1 w6 from ((HF.out.trans g5).trans g6).grown hgr (fun k hk e => by have := HN.out k e; omega))
      have HO6 := Lib.hid hrow
      have Hrun := Lib.hid hrun
      clear gW D hK g5 g6 hrun hrow hgr hnew HE HP HONE e0 e1 e2 e3 e4 e5 e6 e7 e8
      go_wp2_with (at_builtin; refine Lib.wpList_append_run _ rfl _ _ _ _ rfl _ _ rfl rfl _ _ Hrun.out ?_)
      go_roundw
      case rel => exact ⟨j + 1, by omega, by go_num, by rw [HT.out]; exact HO6.out, HT6.out, HF6.out⟩
      case measure => simp [intOf]; omega
    · obtain rfl : j = l.length := by omega
      rw [List.take_of_length_le (by simp [keep9])] at hO
      go_wp2_with fail
      go_ret
      exact ⟨u7, rfl, Sl.ofRow hO, HG.out.trans hF⟩
end Go.Proofs.Ytbmlfhiffooilaa
