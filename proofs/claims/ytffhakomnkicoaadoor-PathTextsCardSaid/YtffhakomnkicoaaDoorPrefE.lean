/- What the document's Split answers. No condition. -/
import Derived.Test.YtffhakomnkicoaaDoorPrefC
import Derived.Test.YtffhakomnkicoaaDoorPrefD
namespace Go.Proofs.YtffhakomnkicoaaDoor
open Go.RowKit

theorem split_shape {s a : List UInt8} {r n : Nat} {L : List (List UInt8)} (hL : cut 126 s = L) (h : splitO s = some (a, r, n)) : L = [a, dig r :: 46 :: digs n] ∧ okd a r n ∧ conf a r n = s := by
  obtain ⟨h1, h2⟩ := splitO_ok h
  have h3 := cut_conf h1
  rw [h2, hL] at h3
  exact ⟨h3, h1, h2⟩
theorem split_none_len {s : List UInt8} {L : List (List UInt8)} (hL : cut 126 s = L) (h : L.length ≠ 2) : splitO s = none := by
  cases e : splitO s with
  | none => rfl
  | some X =>
    obtain ⟨a, r, n⟩ := X
    have := (split_shape hL e).1
    rw [this] at h
    exact absurd rfl h
theorem split_none_tail {s a t : List UInt8} (hL : cut 126 s = [a, t]) (h : t.length < 3 ∨ 7 < t.length) : splitO s = none := by
  cases e : splitO s with
  | none => rfl
  | some X =>
    obtain ⟨b, r, n⟩ := X
    obtain ⟨h1, h2, _⟩ := split_shape hL e
    simp only [List.cons.injEq, and_true] at h1
    have l1 := digs_pos n
    have l2 := digs_len5 h2.2.2.2
    rw [h1.2] at h
    simp only [List.length_cons] at h
    omega
theorem split_none_dig {s a t : List UInt8} (hL : cut 126 s = [a, t]) (k : Nat) (hk : k < t.length) (h2 : 2 ≤ k) (h : isd t[k] = false) : splitO s = none := by
  cases e : splitO s with
  | none => rfl
  | some X =>
    obtain ⟨b, r, n⟩ := X
    obtain ⟨h1, _, _⟩ := split_shape hL e
    simp only [List.cons.injEq, and_true] at h1
    have h3 := h1.2
    subst h3
    obtain ⟨j, rfl⟩ : ∃ j, k = j + 2 := ⟨k - 2, by omega⟩
    simp only [List.getElem_cons_succ] at h
    have := List.all_eq_true.1 (digs_spec n).2.1 _ (List.getElem_mem (by simpa using hk))
    rw [this] at h
    cases h
/-- Of what Split has told apart. -/
theorem split_end {s a t : List UInt8} (hL : cut 126 s = [a, t]) (h0 : 0 < t.length) : splitO s = if conflict a ((t[0].toNat + 208) % 256) (val (t.drop 2)) = (s, 0) then some (a, (t[0].toNat + 208) % 256, val (t.drop 2)) else none := by
  split
  · rename_i h
    have h1 : (conflict a ((t[0].toNat + 208) % 256) (val (t.drop 2))).2 = 0 := by rw [h]
    have h2 := conflict_ok.1 h1
    rw [conflict_good h2] at h
    exact splitO_iff.2 ⟨h2, (Prod.mk.inj h).1⟩
  · rename_i h
    cases e : splitO s with
    | none => rfl
    | some X =>
      obtain ⟨b, r, n⟩ := X
      obtain ⟨h1, h2, h3⟩ := split_shape hL e
      simp only [List.cons.injEq, and_true] at h1
      obtain ⟨rfl, h4⟩ := h1
      subst h4
      exfalso
      apply h
      have e1 : ((dig r :: 46 :: digs n)[0].toNat + 208) % 256 = r := by
        show ((dig r).toNat + 208) % 256 = r
        have := h2.2.1
        rw [dig_toNat (by omega)]; omega
      have e2 : (dig r :: 46 :: digs n).drop 2 = digs n := rfl
      rw [e1, e2, val_digs, conflict_good h2, h3]
theorem val_take {t : List UInt8} {k : Nat} (h2 : 2 ≤ k) (hk : k < t.length) : val ((t.drop 2).take (k + 1 - 2)) = val ((t.drop 2).take (k - 2)) * 10 + (t[k].toNat - 48) := by
  have hd : k - 2 < (t.drop 2).length := by rw [List.length_drop]; omega
  rw [show k + 1 - 2 = (k - 2) + 1 by omega, List.take_succ_eq_append_getElem hd, val_snoc, List.getElem_drop]
  have : 2 + (k - 2) = k := by omega
  simp only [this]
theorem splitV_none {s : List UInt8} (h : splitO s = none) : splitV s = .tuple #[.string (bs s), dotV 0 0, .bool false] := by unfold splitV; rw [h]
set_option maxRecDepth 100000 in
set_option maxHeartbeats 2000000 in
theorem rsplit_len (s : List UInt8) (w : World) (hl : s.length ≤ 1000) (h2 : (cut 126 s).length ≠ 2) :
    Calls Tryd.prog 16 #[.string (bs s)] w (SplitTo s w) := by
  have hsp := splitV_none (split_none_len rfl h2)
  have Hsp := Lib.hid hsp
  have HC := Lib.hid (fun w => by have := rcut_any s 126 126 rfl w hl; unfold NewS at this; exact this)
  clear hsp
  generalize cut 126 s = L at *
  have q2 : ((L.length : Int) != 2) = true := by rw [bne_iff_ne]; omega
  have q3 : ((L.length : Int) == 2) = false := by rw [beq_eq_false_iff_ne]; omega
  go_enter Tryd.func16, Tryd.ntmps16
  have f0 : Fr w (w.alloc (.cells #[.int .u8 0, .int .u32 0] 34)) := (Frm.refl _ w).alloc _
  have hB0 := Blk.alloc w 34 #[.int .u8 0, .int .u32 0]
  go_wp2_with fail
  refine (HC.out _).mono ?_
  rintro e w1 ⟨v, rfl, o1, f1, _⟩
  have hB := hB0.keep f1 (fun h => h)
  have g1 := f0.trans f1
  obtain ⟨x, cap, rfl, hc1, hc2⟩ := Row.slice o1
  unfold maxLen at hc2
  have s1 := o1.reads
  clear HC o1 hB0 f0 f1
  have c0 := hB.cell 0 rfl
  have c1 := hB.cell 1 rfl
  have r0 := hB.free 0
  have r1 := hB.free 1
  have hS := (hB.set 0 (.int .u8 0)).set 1 (.int .u32 0)
  have d0 := hS.cell 0 rfl
  have d1 := hS.cell 1 rfl
  have ff : Fr w ((w1.setCell ⟨w.heap.size, 0, none⟩ (.int .u8 0)).setCell ⟨w.heap.size, 1, none⟩ (.int .u32 0)) := (g1.setCell (p := ⟨w.heap.size, 0, none⟩) (fun h => absurd h (by simp)) _).setCell (p := ⟨w.heap.size, 1, none⟩) (fun h => absurd h (by simp)) _
  go_wp2_with fail
  exact bodyPost_ret (v := .tuple #[.string (bs s), .agg #[.int .u8 0, .int .u32 0], .bool false]) (by simp [results, Tryd.results16, go_sem, d0, d1]) rfl ⟨by rw [Hsp.out]; rfl, ff⟩
set_option maxRecDepth 100000 in
set_option maxHeartbeats 2000000 in
theorem rsplit_short (s a t : List UInt8) (w : World) (hl : s.length ≤ 1000) (hL : cut 126 s = [a, t]) (h : t.length < 3 ∨ 7 < t.length) :
    Calls Tryd.prog 16 #[.string (bs s)] w (SplitTo s w) := by
  have hsp := splitV_none (split_none_tail hL h)
  have Hsp := Lib.hid hsp
  have HC := Lib.hid (fun w => by have := rcut_any s 126 126 rfl w hl; unfold NewS at this; rw [hL] at this; exact this)
  have hsz : (bs t).size = t.length := rfl
  clear hsp hL
  go_enter Tryd.func16, Tryd.ntmps16
  have f0 : Fr w (w.alloc (.cells #[.int .u8 0, .int .u32 0] 34)) := (Frm.refl _ w).alloc _
  have hB0 := Blk.alloc w 34 #[.int .u8 0, .int .u32 0]
  go_wp2_with fail
  refine (HC.out _).mono ?_
  rintro e w1 ⟨v, rfl, o1, f1, _⟩
  have hB := hB0.keep f1 (fun h => h)
  have g1 := f0.trans f1
  obtain ⟨x, cap, rfl, hc1, hc2⟩ := Row.slice o1
  unfold maxLen at hc2
  have s1 := o1.reads
  clear HC o1 hB0 f0 f1
  obtain ⟨b1, o1, rfl, _, e0⟩ := s1.at 0 (Nat.zero_lt_succ _)
  obtain ⟨b2, o2, eq, _, e1⟩ := s1.at 1 (Nat.lt_add_one 1)
  cases eq
  rw [Nat.add_zero] at e0
  have k0 : w1.cell? ⟨b1, o1, none⟩ = some (.string (bs a)) := e0
  have k1 : w1.cell? ⟨b1, o1 + 1, none⟩ = some (.string (bs t)) := e1
  clear e0 e1 s1
  by_cases h3 : t.length < 3
  · have q3 : (t.length : Int) < 3 := by omega
    clear h
    have c0 := hB.cell 0 rfl
    have c1 := hB.cell 1 rfl
    have r0 := hB.free 0
    have r1 := hB.free 1
    have hS := (hB.set 0 (.int .u8 0)).set 1 (.int .u32 0)
    have d0 := hS.cell 0 rfl
    have d1 := hS.cell 1 rfl
    have ff : Fr w ((w1.setCell ⟨w.heap.size, 0, none⟩ (.int .u8 0)).setCell ⟨w.heap.size, 1, none⟩ (.int .u32 0)) := (g1.setCell (p := ⟨w.heap.size, 0, none⟩) (fun h => absurd h (by simp)) _).setCell (p := ⟨w.heap.size, 1, none⟩) (fun h => absurd h (by simp)) _
    go_wp2_with fail
    exact bodyPost_ret (v := .tuple #[.string (bs s), .agg #[.int .u8 0, .int .u32 0], .bool false]) (by simp [results, Tryd.results16, go_sem, d0, d1]) rfl ⟨by rw [Hsp.out]; rfl, ff⟩
  · have q3 : (3 : Int) ≤ (t.length : Int) := by omega
    have q7 : (7 : Int) < (t.length : Int) := by omega
    clear h
    have c0 := hB.cell 0 rfl
    have c1 := hB.cell 1 rfl
    have r0 := hB.free 0
    have r1 := hB.free 1
    have hS := (hB.set 0 (.int .u8 0)).set 1 (.int .u32 0)
    have d0 := hS.cell 0 rfl
    have d1 := hS.cell 1 rfl
    have ff : Fr w ((w1.setCell ⟨w.heap.size, 0, none⟩ (.int .u8 0)).setCell ⟨w.heap.size, 1, none⟩ (.int .u32 0)) := (g1.setCell (p := ⟨w.heap.size, 0, none⟩) (fun h => absurd h (by simp)) _).setCell (p := ⟨w.heap.size, 1, none⟩) (fun h => absurd h (by simp)) _
    go_wp2_with fail
    exact bodyPost_ret (v := .tuple #[.string (bs s), .agg #[.int .u8 0, .int .u32 0], .bool false]) (by simp [results, Tryd.results16, go_sem, d0, d1]) rfl ⟨by rw [Hsp.out]; rfl, ff⟩
set_option maxRecDepth 100000 in
set_option maxHeartbeats 2000000 in
theorem rsplit_tail (s a t : List UInt8) (w : World) (hl : s.length ≤ 1000) (hL : cut 126 s = [a, t]) (h3 : 3 ≤ t.length) (h7 : t.length ≤ 7) :
    Calls Tryd.prog 16 #[.string (bs s)] w (SplitTo s w) := by
  have HC := Lib.hid (fun w => by have := rcut_any s 126 126 rfl w hl; unfold NewS at this; rw [hL] at this; exact this)
  have hsz : (bs t).size = t.length := rfl
  have HL := Lib.hid hL
  have hal := cut_le 126 s a (by rw [hL]; simp)
  clear hL
  go_enter Tryd.func16, Tryd.ntmps16
  have f0 : Fr w (w.alloc (.cells #[.int .u8 0, .int .u32 0] 34)) := (Frm.refl _ w).alloc _
  have hB0 := Blk.alloc w 34 #[.int .u8 0, .int .u32 0]
  go_wp2_with fail
  refine (HC.out _).mono ?_
  rintro e w1 ⟨v, rfl, o1, f1, _⟩
  have hB := hB0.keep f1 (fun h => h)
  have g1 := f0.trans f1
  obtain ⟨x, cap, rfl, hc1, hc2⟩ := Row.slice o1
  unfold maxLen at hc2
  have s1 := o1.reads
  clear HC o1 hB0 f0 f1
  obtain ⟨b1, o1, rfl, _, e0⟩ := s1.at 0 (Nat.zero_lt_succ _)
  obtain ⟨b2, o2, eq, _, e1⟩ := s1.at 1 (Nat.lt_add_one 1)
  cases eq
  rw [Nat.add_zero] at e0
  have k0 : w1.cell? ⟨b1, o1, none⟩ = some (.string (bs a)) := e0
  have k1 : w1.cell? ⟨b1, o1 + 1, none⟩ = some (.string (bs t)) := e1
  clear e0 e1 s1
  have q3 : (3 : Int) ≤ (t.length : Int) := by omega
  have q7 : (t.length : Int) ≤ 7 := by omega
  go_wp2_with fail
  go_loopw [6, 7] (fun n i wr => ∃ k m : Nat, 2 ≤ k ∧ k ≤ t.length ∧ i = .int .i64 k ∧ n = .int .u32 m ∧ w1 = wr ∧ Hid (m = val ((t.drop 2).take (k - 2))) ∧ m < 10 ^ (k - 2)) (fun _ i _ => t.length - (intOf i).toNat)
  case atStart => exact ⟨2, 0, Nat.le_refl _, by omega, rfl, rfl, rfl, Lib.hid rfl, by decide⟩
  case round =>
    obtain ⟨k, m, hk2, hk, rfl, rfl, rfl, hm, hmb⟩ := hrel
    by_cases hlt : k < t.length
    · have hkn : k < (bs t).size := hlt
      have hki : (k : Int) < (t.length : Int) := by omega
      have hk0 : (0 : Int) ≤ (k : Int) := by omega
      have hb : (bs t)[k] = (t[k]'hlt) := rfl
      have hp : 10 ^ (k - 2) ≤ 10 ^ 4 := Nat.pow_le_pow_right (by decide) (by omega)
      have hm4 : m ≤ 9999 := by have : (10 : Nat) ^ 4 = 10000 := rfl; omega
      cases hd : isd (t[k]'hlt) with
      | true =>
        have hd2 : 48 ≤ (t[k]'hlt).toNat ∧ (t[k]'hlt).toNat ≤ 57 := of_decide_eq_true hd
        rw [← hb] at hd2
        have hv := val_take hk2 hlt
        rw [← hm.out, ← hb] at hv
        have Hv := Lib.hid hv
        have hpw : 10 ^ (k + 1 - 2) = 10 ^ (k - 2) * 10 := by rw [show k + 1 - 2 = (k - 2) + 1 by omega, Nat.pow_succ]
        have hmb2 : m * 10 + ((bs t)[k].toNat - 48) < 10 ^ (k + 1 - 2) := by rw [hpw]; omega
        have Hmb2 := Lib.hid hmb2
        have dg1 : (48 : Int) ≤ ((bs t)[k].toNat : Int) := by omega
        have dg2 : ((bs t)[k].toNat : Int) ≤ 57 := by omega
        have x1 : IntKind.u8.wrap (((bs t)[k].toNat : Int) - 48) = ((bs t)[k].toNat : Int) - 48 := IntWalk.u8_in _ (by omega)
        have x2 : IntKind.u32.wrap ((m : Int) * 10) = (m : Int) * 10 := IntWalk.u32_in _ (by omega)
        have x3 : IntKind.u32.wrap (((bs t)[k].toNat : Int) - 48) = ((bs t)[k].toNat : Int) - 48 := IntWalk.u32_in _ (by omega)
        have x4 : IntKind.u32.wrap ((m : Int) * 10 + (((bs t)[k].toNat : Int) - 48)) = (m : Int) * 10 + (((bs t)[k].toNat : Int) - 48) := IntWalk.u32_in _ (by omega)
        clear hd hd2 hb hv hpw hmb2 hp
        go_wp2_with fail
        go_roundw
        case rel => exact ⟨k + 1, m * 10 + ((bs t)[k].toNat - 48), by omega, by omega, by go_num, val_int (by omega), trivial, Lib.hid Hv.out.symm, Hmb2.out⟩
        case measure => simp [intOf]; omega
      | false =>
        have hsp := splitV_none (split_none_dig HL.out k hlt hk2 hd)
        have Hsp := Lib.hid hsp
        have hd2 : ¬ (48 ≤ (t[k]'hlt).toNat ∧ (t[k]'hlt).toNat ≤ 57) := of_decide_eq_false hd
        rw [← hb] at hd2
        clear hsp hd hb hp
        by_cases dg1 : (48 : Int) ≤ ((bs t)[k].toNat : Int)
        · have dg2 : (57 : Int) < ((bs t)[k].toNat : Int) := by omega
          clear hd2
          have c0 := hB.cell 0 rfl
          have c1 := hB.cell 1 rfl
          have r0 := hB.free 0
          have r1 := hB.free 1
          have hS := (hB.set 0 (.int .u8 0)).set 1 (.int .u32 0)
          have d0 := hS.cell 0 rfl
          have d1 := hS.cell 1 rfl
          have ff : Fr w ((w1.setCell ⟨w.heap.size, 0, none⟩ (.int .u8 0)).setCell ⟨w.heap.size, 1, none⟩ (.int .u32 0)) := (g1.setCell (p := ⟨w.heap.size, 0, none⟩) (fun h => absurd h (by simp)) _).setCell (p := ⟨w.heap.size, 1, none⟩) (fun h => absurd h (by simp)) _
          go_wp2_with fail
          exact bodyPost_ret (v := .tuple #[.string (bs s), .agg #[.int .u8 0, .int .u32 0], .bool false]) (by simp [results, Tryd.results16, go_sem, d0, d1]) rfl ⟨by rw [Hsp.out]; rfl, ff⟩
        · have dg2 : ((bs t)[k].toNat : Int) < 48 := by omega
          clear hd2
          have c0 := hB.cell 0 rfl
          have c1 := hB.cell 1 rfl
          have r0 := hB.free 0
          have r1 := hB.free 1
          have hS := (hB.set 0 (.int .u8 0)).set 1 (.int .u32 0)
          have d0 := hS.cell 0 rfl
          have d1 := hS.cell 1 rfl
          have ff : Fr w ((w1.setCell ⟨w.heap.size, 0, none⟩ (.int .u8 0)).setCell ⟨w.heap.size, 1, none⟩ (.int .u32 0)) := (g1.setCell (p := ⟨w.heap.size, 0, none⟩) (fun h => absurd h (by simp)) _).setCell (p := ⟨w.heap.size, 1, none⟩) (fun h => absurd h (by simp)) _
          go_wp2_with fail
          exact bodyPost_ret (v := .tuple #[.string (bs s), .agg #[.int .u8 0, .int .u32 0], .bool false]) (by simp [results, Tryd.results16, go_sem, d0, d1]) rfl ⟨by rw [Hsp.out]; rfl, ff⟩
    · have hkm : (k : Int) = t.length := by omega
      have hfull : (t.drop 2).take (k - 2) = t.drop 2 := List.take_of_length_le (by rw [List.length_drop]; omega)
      have hm2 := hm.out
      rw [hfull] at hm2
      have h0 : 0 < t.length := by omega
      have hse := split_end HL.out h0
      rw [← hm2] at hse
      have Hse := Lib.hid hse
      have h0s : 0 < (bs t).size := h0
      have hb : (bs t)[0] = (t[0]'h0) := rfl
      obtain ⟨r, hr⟩ : ∃ r, ((t[0]'h0).toNat + 208) % 256 = r := ⟨_, rfl⟩
      rw [hr] at Hse
      have hwr : IntKind.u8.wrap (((bs t)[0].toNat : Int) - 48) = (r : Int) := by
        rw [IntKind.wrap_u8, hb]; omega
      have hti : (0 : Int) < (t.length : Int) := by omega
      rw [hkm]
      have hxx : ∃ x1 x2, conflict a r m = (x1, x2) := ⟨_, _, rfl⟩
      obtain ⟨x1, x2, hx⟩ := hxx
      rw [hx] at Hse
      have HRC := Lib.hid (fun w => by have := rconflict_any a r m w (by omega); unfold ConfTo at this; rw [hx] at this; exact this)
      have f2 := g1.alloc (.cells #[.int .u8 r, .int .u32 m] 34)
      have hD := Blk.alloc w1 34 #[.int .u8 r, .int .u32 m]
      have hB2 := hB.old (.cells #[.int .u8 r, .int .u32 m] 34)
      have n0 := Frm.cellF ((Frm.refl _ w1).alloc (.cells #[.int .u8 r, .int .u32 m] 34)) k0
      have n1 := hD.cell 0 rfl
      have n2 := hD.cell 1 rfl
      clear hb hr hkm hlt hk hk2 hse hm hm2 hmb hfull hx hD
      go_wp2_with fail
      clear k0 k1 hB g1
      generalize w1.alloc (.cells #[.int .u8 r, .int .u32 m] 34) = w2 at *
      generalize w1.heap.size = D at *
      go_region_held3 (fun w' => w'.cell? ⟨b1, o1, none⟩ = some (.string (bs a)) ∧ w'.cell? ⟨D, 0, none⟩ = some (.int .u8 r) ∧ w'.cell? ⟨D, 1, none⟩ = some (.int .u32 m) ∧ Blk w' w.heap.size 34 #[.int .u8 0, .int .u32 0] ∧ Frm (fun _ => False) w w')
        (((try dsimp only); (try go_split_ands); (repeat' apply And.intro) <;> (first
          | assumption
          | exact Frm.drew (by assumption)
          | exact Blk.drew (by assumption)
          | exact Frm.cellF gg (by assumption)
          | exact Blk.keep (by assumption) gg (fun h => h)
          | (refine Frm.trans ?_ gg; assumption)
          | go_keep)))
        (first
          | (go_at_call 24; (with_reducible refine Calls.mono (HRC.out _) ?_); rintro e ww ⟨rfl, gg⟩))
      rename_i hh
      obtain ⟨y0, y1, y2, hBz, fz⟩ := hh
      clear n0 n1 n2 HRC hB2 f2
      by_cases hx2 : x2 = 0
      · by_cases hx1 : x1 = s
        · subst hx1 hx2
          have hsp : splitV x1 = .tuple #[.string (bs a), dotV r m, .bool true] := by
            unfold splitV
            rw [Hse.out, if_pos rfl]
          have Hsp := Lib.hid hsp
          have q1 : ((bs x1).toList == (bs x1).toList) = true := by rw [str_eq]; simp
          clear hsp Hse HL
          have c0 := hBz.cell 0 rfl
          have c1 := hBz.cell 1 rfl
          have r0 := hBz.free 0
          have r1 := hBz.free 1
          have hS := (hBz.set 0 (.int .u8 r)).set 1 (.int .u32 m)
          have ff : Fr w ((ww.setCell ⟨w.heap.size, 0, none⟩ (.int .u8 r)).setCell ⟨w.heap.size, 1, none⟩ (.int .u32 m)).drew := ((fz.setCell (p := ⟨w.heap.size, 0, none⟩) (fun h => absurd h (by simp)) _).setCell (p := ⟨w.heap.size, 1, none⟩) (fun h => absurd h (by simp)) _).drew
          have d0 := (hS.drew).cell 0 rfl
          have d1 := (hS.drew).cell 1 rfl
          go_wp2_with fail
          go_region
          all_goals
            go_wp2_with fail
            exact bodyPost_ret (v := .tuple #[.string (bs a), .agg #[.int .u8 r, .int .u32 m], .bool true]) (by simp [results, Tryd.results16, go_sem, d0, d1]) rfl ⟨by rw [Hsp.out]; rfl, ff⟩
        · have hse2 : splitO s = none := by
            rw [Hse.out, if_neg (fun e => hx1 (Prod.mk.inj e).1)]
          have Hsp := Lib.hid (splitV_none hse2)
          have q1 : ((bs x1).toList == (bs s).toList) = false := by rw [str_eq]; exact decide_eq_false hx1
          subst hx2
          clear Hse HL hse2 hx1
          have c0 := hBz.cell 0 rfl
          have c1 := hBz.cell 1 rfl
          have r0 := hBz.free 0
          have r1 := hBz.free 1
          have hS := (hBz.set 0 (.int .u8 0)).set 1 (.int .u32 0)
          have d0 := hS.cell 0 rfl
          have d1 := hS.cell 1 rfl
          have ff : Fr w ((ww.setCell ⟨w.heap.size, 0, none⟩ (.int .u8 0)).setCell ⟨w.heap.size, 1, none⟩ (.int .u32 0)) := (fz.setCell (p := ⟨w.heap.size, 0, none⟩) (fun h => absurd h (by simp)) _).setCell (p := ⟨w.heap.size, 1, none⟩) (fun h => absurd h (by simp)) _
          go_wp2_with fail
          exact bodyPost_ret (v := .tuple #[.string (bs s), .agg #[.int .u8 0, .int .u32 0], .bool false]) (by simp [results, Tryd.results16, go_sem, d0, d1]) rfl ⟨by rw [Hsp.out]; rfl, ff⟩
      · have hse2 : splitO s = none := by
          rw [Hse.out, if_neg (fun e => hx2 (Prod.mk.inj e).2)]
        have Hsp := Lib.hid (splitV_none hse2)
        have q1 : ((x2 : Int) != 0) = true := by rw [bne_iff_ne]; omega
        have q2 : ((x2 : Int) == 0) = false := by rw [beq_eq_false_iff_ne]; omega
        clear Hse HL hse2 hx2
        have c0 := hBz.cell 0 rfl
        have c1 := hBz.cell 1 rfl
        have r0 := hBz.free 0
        have r1 := hBz.free 1
        have hS := (hBz.set 0 (.int .u8 0)).set 1 (.int .u32 0)
        have d0 := hS.cell 0 rfl
        have d1 := hS.cell 1 rfl
        have ff : Fr w ((ww.setCell ⟨w.heap.size, 0, none⟩ (.int .u8 0)).setCell ⟨w.heap.size, 1, none⟩ (.int .u32 0)) := (fz.setCell (p := ⟨w.heap.size, 0, none⟩) (fun h => absurd h (by simp)) _).setCell (p := ⟨w.heap.size, 1, none⟩) (fun h => absurd h (by simp)) _
        go_wp2_with fail
        exact bodyPost_ret (v := .tuple #[.string (bs s), .agg #[.int .u8 0, .int .u32 0], .bool false]) (by simp [results, Tryd.results16, go_sem, d0, d1]) rfl ⟨by rw [Hsp.out]; rfl, ff⟩
theorem rsplit_any (s : List UInt8) (w : World) (hl : s.length ≤ 1000) : Calls Tryd.prog 16 #[.string (bs s)] w (SplitTo s w) := by
  by_cases h2 : (cut 126 s).length = 2
  · obtain ⟨a, t, e⟩ : ∃ a t, cut 126 s = [a, t] := by
      generalize cut 126 s = L at *
      match L, h2 with
      | [a, t], _ => exact ⟨a, t, rfl⟩
    by_cases h3 : t.length < 3 ∨ 7 < t.length
    · exact rsplit_short s a t w hl e h3
    · exact rsplit_tail s a t w hl e (by omega) (by omega)
  · exact rsplit_len s w hl h2
end Go.Proofs.YtffhakomnkicoaaDoor
