/- What the document's Crash and Flush do. No condition. -/
import Derived.Test.YtdhnidmeeocajaaGreatDvX
import Derived.Test.YtdhnidmeeocajaaGreatDvJ
import Derived.Test.YtdhnidmeeocajaaGreatCodecV
import Derived.Deep.DeepCutAuto
import Derived.StillTailTactics
namespace Go.Proofs.YtdhnidmeeocajaaGreat
open Go.RowKit Go.Shelf

theorem Row.freeAt {w : World} {n n0 : Nat} {g off cap : Nat} {xs : List Value} (h : Row w 1 (.slice (some ⟨g, off, none⟩) n0 cap) n xs) (j : Nat) (hj : j < n) : w.frozen? ⟨g, off + j, none⟩ = false := by
  rcases h.2 with ⟨e, _⟩ | ⟨g', cap', e, h1, _, _, _, h5⟩
  · cases e
  · cases e
    rw [Nat.zero_add]
    exact (h5 j (by omega)).2
section
variable {ops : Array Oper} {Q : Exit → Act → World → Prop} {a : Act} {W : World}
theorem wpOp_store_str {o : Oper} {K : Act → World → Prop} {i : Nat} (hi : ops[i]? = some o) (hg : o.guard = none) (hd : o.dst = none) (x y : Operand) (ho : o.op = .store 9 x y)
    (p : Addr) (q : ByteArray) (old : Value) (hx : a.eval x = .pointer (some p)) (hy : a.eval y = .string q) (c0 : W.cell? p = some old) (f0 : W.frozen? p = false) (hK : K a (W.setCell p (.string q))) : wpOp Tryz.prog ops Q i K a W := by
  unfold wpOp
  simp only [hi]
  rw [if_pos (by unfold Region.wanted; rw [hg])]
  refine .inl ?_
  unfold Oper.wp execOp
  simp only [ho, hx, hy]
  go_simp
  have e : (a.put o.dst undef) = a := by rw [hd]; rfl
  (try rw [e])
  exact hK
end
/-- One cell of a row is written. -/
theorem Row.set1 {w : World} {n n0 g off cap : Nat} {xs : List Value} (h : Row w 1 (.slice (some ⟨g, off, none⟩) n0 cap) n xs) (j : Nat) (hj : j < n) (u : Value) : Row (w.setCell ⟨g, off + j, none⟩ u) 1 (.slice (some ⟨g, off, none⟩) n0 cap) n (xs.set j u) := by
  obtain ⟨hl, h⟩ := h
  rcases h with ⟨e, _⟩ | ⟨g', cap', e, h1, h2, ⟨o, ho, hoc⟩, h4, h5⟩
  · cases e
  · cases e
    rw [Nat.zero_add]
    cases o with
    | cells cur t fz =>
      have hc : ∀ i, w.cell? ⟨g, i, none⟩ = cur[i]? := fun i => by simp only [World.cell?, ho]; simp
      have ho' : (w.setCell ⟨g, j, none⟩ u).heap[g]? = some (.cells (cur.setIfInBounds j u) t fz) := by
        simp only [World.setCell, Array.getElem?_modify]
        simp [ho]
      have hc' : ∀ i, (w.setCell ⟨g, j, none⟩ u).cell? ⟨g, i, none⟩ = (cur.setIfInBounds j u)[i]? := fun i => by simp only [World.cell?, ho']; simp
      have hf' : ∀ i, (w.setCell ⟨g, j, none⟩ u).frozen? ⟨g, i, none⟩ = w.frozen? ⟨g, i, none⟩ := fun i => by simp only [World.frozen?, ho', ho]
      refine ⟨by rw [List.length_set]; exact hl, .inr ⟨g, cap, rfl, h1, h2, ⟨_, ho', hoc⟩, fun i hi => ?_, fun i hi => ⟨?_, ?_⟩⟩⟩
      · have := h4 i hi
        rw [hc] at this
        rw [hc', Array.getElem?_setIfInBounds, List.getElem?_set, ← this]
        have h5j := (h5 j (by omega)).1
        rw [hc] at h5j
        have hjs : j < cur.size := by
          rcases Nat.lt_or_ge j cur.size with h | h
          · exact h
          · rw [Array.getElem?_eq_none h] at h5j; cases h5j
        by_cases e : j = i
        · subst e
          rw [if_pos rfl, if_pos rfl, if_pos hjs, if_pos (by omega)]
        · rw [if_neg e, if_neg e]
      · have h5i := (h5 i hi).1
        rw [hc] at h5i
        rw [hc', Array.getElem?_setIfInBounds]
        by_cases e : j = i
        · subst e
          have hjs : j < cur.size := by
            rcases Nat.lt_or_ge j cur.size with h | h
            · exact h
            · rw [Array.getElem?_eq_none h] at h5i; cases h5i
          rw [if_pos rfl, if_pos hjs]; rfl
        · rw [if_neg e]; exact h5i
      · rw [hf']; exact (h5 i hi).2
    | _ => cases hoc
theorem RefC.setA {w : World} {r n cap g off : Nat} {A : List (List UInt8)} {B : List (Nat × List UInt8)} {fp : Nat → Prop} {vb : Value} (h : RefC w r A B fp (.slice (some ⟨g, off, none⟩) n cap) vb) (q : Nat) (hq : q < A.length) (s : List UInt8) :
    RefC (w.setCell ⟨g, off + q, none⟩ (.string (bs s))) r (A.set q s) B fp (.slice (some ⟨g, off, none⟩) n cap) vb := by
  have hg := h.fa g rfl
  refine ⟨h.blk.other (fun e => hg.2 e.symm) _, ?_, Row.setOther h.list (fun e => (h.fb g e).2.2 rfl) _, h.fr, h.fa, h.fb, fun k hk => ?_⟩
  · have := Row.set1 h.firm q hq (.string (bs s))
    have e : strs (A.set q s) = (strs A).set q (.string (bs s)) := by unfold strs; rw [List.map_set]
    unfold OwnS
    rw [List.length_set, e]
    exact this
  · have e : (w.setCell ⟨g, off + q, none⟩ (.string (bs s))).heap.size = w.heap.size := by simp [World.setCell]
    rw [e]
    exact h.lt k hk
theorem RefC.noL {w : World} {r : Nat} {A : List (List UInt8)} {B : List (Nat × List UInt8)} {fp : Nat → Prop} {va vb : Value} (h : RefC w r A B fp va vb) : RefC (w.setCell ⟨r, 1, none⟩ (.slice none 0 0)) r A [] fp va (.slice none 0 0) := by
  refine ⟨h.blk.set 1 _, Row.setOther h.firm (fun e => (h.fa r e).2 rfl) _, Row.nil_ _ 2, h.fr, h.fa, (fun g hg => by cases hg), fun k hk => ?_⟩
  have e : (w.setCell ⟨r, 1, none⟩ (.slice none 0 0)).heap.size = w.heap.size := by simp [World.setCell]
  rw [e]
  exact h.lt k hk
theorem tmod_surv {q r : Int} (hr : q.tmod 66 = r) : (q % 66 = if r < 0 then r + 66 else r) ∧ r < 66 ∧ -66 < r := by
  have hb1 : r < 66 := by rw [← hr]; exact Int.tmod_lt_of_pos _ (by decide)
  have hb2 : -66 < r := by rw [← hr]; exact Int.lt_tmod_of_pos _ (by decide)
  refine ⟨?_, hb1, hb2⟩
  have := Int.tmod_eq_emod (a := q) (b := 66)
  rw [hr] at this
  have h66 : (66 : Int).natAbs = 66 := rfl
  have hm : 0 ≤ q % 66 := Int.emod_nonneg _ (by decide)
  have hm2 : q % 66 < 66 := Int.emod_lt_of_pos _ (by decide)
  split at this
  · rw [if_neg (by omega)]; omega
  · rename_i hnd
    have : q % 66 ≠ 0 := fun e => hnd (.inr (Int.dvd_of_emod_eq_zero e))
    rw [if_pos (by omega)]; omega
/-- How many bytes survive, in the steps of the document. -/
theorem surv_steps (cs : List Int) (i : Nat) : ∃ r r2 : Int, (cs.length = 0 → r = 0) ∧ (∀ h : cs.length ≠ 0, r = (cs[i % cs.length]'(Nat.mod_lt _ (Nat.pos_of_ne_zero h))).tmod 66) ∧ (-66 < r ∧ r < 66) ∧ r2 = (if r < 0 then r + 66 else r) ∧ (0 ≤ r2 ∧ r2 < 66) ∧ surv cs i = (if 64 < r2 then 64 else r2.toNat) := by
  by_cases h : cs.length = 0
  · refine ⟨0, 0, fun _ => rfl, fun h2 => absurd h h2, by omega, rfl, by omega, ?_⟩
    unfold surv
    rw [if_pos h]
    rfl
  · obtain ⟨q, hq⟩ : ∃ q, cs[i % cs.length]'(Nat.mod_lt _ (Nat.pos_of_ne_zero h)) = q := ⟨_, rfl⟩
    obtain ⟨h1, h2, h3⟩ := tmod_surv (q := q) rfl
    refine ⟨q.tmod 66, _, fun e => absurd e h, fun _ => by rw [hq], ⟨h3, h2⟩, rfl, ?_, ?_⟩
    · rw [← h1]; exact ⟨Int.emod_nonneg _ (by decide), Int.emod_lt_of_pos _ (by decide)⟩
    · rw [surv_pos h q (by rw [List.getElem?_eq_getElem (Nat.mod_lt _ (Nat.pos_of_ne_zero h)), hq]), ← h1]
      have hm : 0 ≤ q % 66 := Int.emod_nonneg _ (by decide)
      split <;> omega
set_option maxRecDepth 100000 in
set_option maxHeartbeats 8000000 in
theorem rcrash_any (r : Nat) (D : DV) (fp : Nat → Prop) (v : Value) (cs : List Int) (w : World) (h : RefM w r D fp) (hok : D.ok) (hv : Zs w v cs) (hz : ∀ z ∈ cs, Z64 z) (hcl : cs.length ≤ 1000000) (hvb : cs.length = 0 ∨ ∀ g, blkOf v = some g → ¬ fp g) :
    Calls Tryz.prog 56 #[.pointer (some ⟨r, 0, none⟩), v] w fun e w' => e = .returned (.tuple #[]) ∧ RefM w' r (D.crash cs) fp ∧ Frm fp w w' := by
  obtain ⟨va, vb, h⟩ := h
  have hll := FLs_len D
  have hfl := D.fresh_len
  have hnn := hok.hi
  obtain ⟨L, hL⟩ : ∃ L, (FLs D).length = L := ⟨_, rfl⟩
  obtain ⟨al, cl, rfl, hcl1, hcl2⟩ := h.list.frl.slice
  obtain ⟨aa, ca, rfl, hca1, hca2⟩ := h.firm.reads.slice
  obtain ⟨av, cv, rfl, hv1, hv2⟩ := hv.slice
  rw [FRs_len] at hca1
  unfold maxLen at hcl2 hca2 hv2
  have HV := Lib.hid (And.intro hv (And.intro hz (And.intro hcl (And.intro hvb (And.intro hok hL)))))
  have h0 : RefC w r (FRs (D.torn cs 0)) (FLs D) fp (.slice aa (FRs D).length ca) (.slice al (FLs D).length cl) := by rw [DV.torn_zero]; exact h
  rw [FRs_len, hL] at h0
  rw [hL] at hcl1 hll
  have hLn : L ≤ 2048 := by omega
  have H := Lib.hid h0
  have hcs : cs.length ≤ 1000000 := hcl
  clear h h0 hv hz hcl hvb hok hL
  obtain ⟨N, hN⟩ : ∃ N, D.n = N := ⟨_, rfl⟩
  rw [hN] at hnn hca1 hfl
  obtain ⟨M, hM⟩ : ∃ M, cs.length = M := ⟨_, rfl⟩
  rw [hM] at hv1 hcs
  have HN := Lib.hid (And.intro hN hM)
  clear hN hM
  have H : Hid (RefC w r (FRs (D.torn cs 0)) (FLs D) fp (.slice aa N ca) (.slice al L cl)) := by rw [← HN.out.1]; exact H
  rw [HN.out.2]
  have HLL := Lib.hid hll
  clear hll hfl
  go_enter Tryz.func56, Tryz.ntmps56
  go_wp2_with fail
  go_loopw [4] (fun i wr => ∃ k : Nat, k ≤ L ∧ i = .int .i64 (k : Nat) ∧ RefC wr r (FRs (D.torn cs k)) (FLs D) fp (.slice aa N ca) (.slice al L cl) ∧ Frm fp w wr) (fun i _ => L - (intOf i).toNat)
  case atStart => exact ⟨0, Nat.zero_le _, rfl, H.out, Frm.refl _ _⟩
  case round =>
    obtain ⟨k, hk, rfl, hR, gr⟩ := hrel
    have c1 := hR.blk.cell 1 rfl
    have c0 := hR.blk.cell 0 rfl
    by_cases hlt : k < L
    · have hkl : k < D.fresh.length := by have := HLL.out; omega
      have hkl2 : k < (FLs D).length := by rw [HV.out.2.2.2.2.2]; exact hlt
      obtain ⟨q, hq⟩ : ∃ q, D.fresh[k] = q := ⟨_, rfl⟩
      have hmk := DV.mem_fresh.1 (hq ▸ List.getElem_mem hkl : q ∈ D.fresh)
      obtain ⟨lx, hlx⟩ := Option.isSome_iff_exists.1 hmk.2
      have hrk : D.rank q = k := by rw [← hq]; exact D.rank_at k hkl
      have hxl := (HV.out.2.2.2.2.1.xl q lx hlx).1
      have hfk := HV.out.2.2.2.2.1.fl q
      obtain ⟨lf, hlf⟩ : ∃ lf, D.F q = lf := ⟨_, rfl⟩
      rw [hlf] at hfk
      have htk : (D.torn cs k).F q = lf := by
        unfold DV.torn
        dsimp only
        rw [hrk, show decide (k < k) = false from decide_eq_false (Nat.lt_irrefl k), Bool.and_false, if_neg (by decide)]
        exact hlf
      have hleft : D.left cs q = lx.take (surv cs k) ++ lf.drop (surv cs k) := by
        unfold DV.left
        rw [hlx, hrk, hlf]
      have hqn : q < N := by rw [← HN.out.1]; exact hmk.1
      obtain ⟨g, off, rfl, hg, e1, e2⟩ := FrL.elem (show FrL wr (.slice al (FLs D).length cl) (FLs D) from by rw [HV.out.2.2.2.2.2]; exact hR.list.frl) k hkl2
      have hat : (FLs D)[k] = (q, lx) := by rw [FLs_at D k hkl2 hkl, hq, hlx]; rfl
      rw [hat] at e1 e2
      obtain ⟨g2, off2, rfl, hg2, f1⟩ := Strs.at (show Strs wr (.slice aa N ca) (FRs (D.torn cs k)) from hR.firm.reads) q (by rw [FRs_len]; show q < D.n; exact hmk.1)
      rw [FRs_at, htk] at f1
      obtain ⟨r1, r2, s1, s2, s3, s4, s5, s6⟩ := surv_steps cs k
      have hki : (k : Int) < (L : Int) := by omega
      have hk0 : (0 : Int) ≤ (k : Int) := by omega
      have hqi : (q : Int) < (N : Int) := by omega
      have hq0 : (0 : Int) ≤ (q : Int) := by omega
      obtain ⟨m, hm⟩ : ∃ m, surv cs k = m := ⟨_, rfl⟩
      rw [hm] at hleft s6
      have hm64 : m ≤ 64 := by rw [← hm]; exact surv_le cs k
      have HR := Lib.hid (And.intro hR gr)
      have HQ := Lib.hid (And.intro hleft (And.intro hq (And.intro hat (And.intro hxl (And.intro hfk (And.intro hlf htk))))))
      rw [HN.out.2] at s1
      have HS2 := Lib.hid s2
      clear hR gr hleft hq hat hxl hfk hlf htk hmk hlx hrk hm s2
      go_upto_if 19 with fail
      go_cut [5] (fun s5 wx => s5 = .int .i64 r1 ∧ wr = wx)
      case first =>
        by_cases hM0 : M = 0
        · have e : r1 = 0 := s1 hM0
          subst e
          subst hM0
          go_wp2_with fail
          go_meet
          exact ⟨rfl, rfl⟩
        · have hMi : (0 : Int) < (M : Int) := by omega
          obtain ⟨j, hj⟩ : ∃ j, k % cs.length = j := ⟨_, rfl⟩
          have hM0' : cs.length ≠ 0 := by rw [HN.out.2]; exact hM0
          have hjl : j < cs.length := by rw [← hj]; exact Nat.mod_lt _ (by omega)
          have hra := HS2.out hM0'
          obtain ⟨z, hz⟩ : ∃ z, cs[j] = z := ⟨_, rfl⟩
          have hrb : r1 = z.tmod 66 := by rw [hra, ← hz]; congr 1; simp only [hj]
          clear hra
          obtain ⟨g3, off3, rfl, hg3, d0⟩ := Zs.at (show Zs w (.slice av cs.length cv) cs from HV.out.1) j hjl
          rw [hz] at d0
          have hnf : ¬ fp g3 := by
            rcases HV.out.2.2.2.1 with h | h
            · exact absurd h hM0'
            · exact h g3 rfl
          have d0 : wr.cell? ⟨g3, off3 + j, none⟩ = some (.int .i64 z) := (World.cell?_of_block (a := ⟨g3, off3 + j, none⟩) (HR.out.2.block g3 hg3 hnf)).trans d0
          rw [HN.out.2] at hj hjl
          have t1 : (k : Int) % (M : Int) = (j : Int) := by rw [← hj]; omega
          have t1' : (k : Int).tmod (M : Int) = (j : Int) := by rw [Int.tmod_eq_emod_of_nonneg (by omega)]; exact t1
          have t3 : IntKind.i64.wrap (j : Int) = (j : Int) := by rw [IntKind.wrap_i64]; omega
          have hji : (j : Int) < (M : Int) := by omega
          have hj0 : (0 : Int) ≤ (j : Int) := by omega
          have hr1 : z.tmod 66 = r1 := hrb.symm
          clear hrb
          have w1 : IntKind.i64.wrap r1 = r1 := by rw [IntKind.wrap_i64]; omega
          have hMne : ((M : Int) == 0) = false := by rw [beq_eq_false_iff_ne]; omega
          clear hz hj s4 s6 hM0' t1
          go_wp2_with fail
          go_meet
          exact ⟨rfl, rfl⟩
      case rest =>
        obtain ⟨rfl, rfl⟩ := hcut
        go_upto_if 29 with fail
        go_cut [5] (fun s5 wx => s5 = .int .i64 r2 ∧ wr = wx)
        case first =>
          by_cases hn : r1 < 0
          · rw [if_pos hn] at s4
            have w2 : IntKind.i64.wrap (r1 + 66) = r2 := by rw [IntKind.wrap_i64]; omega
            clear s4 s6
            go_wp2_with fail
            go_meet
            exact ⟨rfl, rfl⟩
          · rw [if_neg hn] at s4
            subst s4
            clear s6
            go_wp2_with fail
            go_meet
            exact ⟨rfl, rfl⟩
        case rest =>
          obtain ⟨rfl, rfl⟩ := hcut
          clear s4
          go_upto_if 33 with fail
          go_cut [5] (fun s5 wx => s5 = .int .i64 (m : Nat) ∧ wr = wx)
          case first =>
            by_cases h64 : 64 < r2
            · rw [if_pos h64] at s6
              go_wp2_with fail
              go_meet
              exact ⟨by rw [s6]; exact congrArg (Value.int .i64) (show (64 : Int) = ((64 : Nat) : Int) from rfl), rfl⟩
            · rw [if_neg h64] at s6
              obtain rfl : r2 = (m : Int) := by omega
              clear s6
              go_wp2_with fail
              go_meet
              exact ⟨rfl, rfl⟩
          case rest =>
            obtain ⟨rfl, rfl⟩ := hcut
            clear s1 s3 s5 s6
            go_upto_region 11 with fail
            have b0 := Blk.alloc wr 132 #[.int .i64 (q : Nat), .string (bs lx)]
            have fa : Frm (fun _ => False) wr (wr.alloc (.cells #[.int .i64 (q : Nat), .string (bs lx)] 132)) := (Frm.refl _ _).alloc _
            have hRa := HR.out.1.keep fa (fun _ _ h => h)
            have p0 := b0.cell 0 rfl
            have p1 := b0.cell 1 rfl
            have f1a := dFrm_cell fa f1
            have c0a := hRa.blk.cell 0 rfl
            have z1 : (wr.alloc (.cells #[.int .i64 (q : Nat), .string (bs lx)] 132)).frozen? ⟨g2, off2 + q, none⟩ = false := by
              rw [World.frozen?_of_block (a := ⟨g2, off2 + q, none⟩) (fa.block g2 hg2 (fun h => h))]
              exact Row.freeAt HR.out.1.firm q (by rw [FRs_len]; show q < D.n; rw [HN.out.1]; omega)
            have HA := Lib.hid (And.intro hRa fa)
            clear b0 fa hRa
            generalize wr.alloc (.cells #[.int .i64 (q : Nat), .string (bs lx)] 132) = wa at *
            generalize wr.heap.size = pp at *
            clear c0 c1 e1 e2 f1
            have hbl : (bs lx).size = 64 := by rw [bs_size]; exact HQ.out.2.2.2.1
            have hbf : (bs lf).size = 64 := by rw [bs_size]; exact HQ.out.2.2.2.2.1
            have E1 : (bs lx).extract 0 m = bs (lx.take m) := bs_ext lx m
            have E2 : (bs lf).extract m 64 = bs (lf.drop m) := by rw [bs_ext2 lf m 64 hm64, List.take_of_length_le (by rw [HQ.out.2.2.2.2.1]; exact Nat.le_refl _)]
            have E3 : bs (lx.take m) ++ bs (lf.drop m) = bs (D.left cs q) := by rw [HQ.out.1, bs_append]
            have hsum : (bs (lx.take m)).size + (bs (lf.drop m)).size ≤ 9223372036854775807 := by
              rw [bs_size, bs_size, List.length_take, List.length_drop, HQ.out.2.2.2.1, HQ.out.2.2.2.2.1]; omega
            have hsum2 : (9223372036854775807 < (bs (lx.take m)).size + (bs (lf.drop m)).size) = False := eq_false (Nat.not_lt.2 hsum)
            have hmi : (m : Int) ≤ 64 := by omega
            have hm0 : (0 : Int) ≤ (m : Int) := by omega
            go_quiet (fail)
            go_upto_region 12 with fail
            generalize hnq : nq = nq'
            have gd : Frm (fun _ => False) wa (wa.drewN nq') := (Frm.refl _ _).drewN _
            have p0 := dFrm_cell gd p0
            have p1 := dFrm_cell gd p1
            have f1a := dFrm_cell gd f1a
            have c0a := dFrm_cell gd c0a
            have z1 : (wa.drewN nq').frozen? ⟨g2, off2 + q, none⟩ = false := z1
            have HA2 := Lib.hid (HA.out.2.trans gd)
            have HA3 := Lib.hid (HA.out.1.keep gd (fun _ _ h => h))
            clear gd
            generalize wa.drewN nq' = wb at *
            refine wp_region_root (fun W => W.cell? ⟨r, 0, none⟩ = some (.slice (some ⟨g2, off2, none⟩) N ca) ∧ W.cell? ⟨pp, 0, none⟩ = some (.int .i64 (q : Nat)) ∧ W.cell? ⟨pp, 1, none⟩ = some (.string (bs lx)) ∧ wb.drew = W) (by kernel_rfl) rfl rfl (by kernel_rfl) (by kernel_rfl) (by kernel_rfl) (⟨c0a, p0, p1, rfl⟩) ?_
            repeat' first
              | (refine CanonL.skip (by rfl) ?_; (try simp only [Act.put, List.setIfInBounds_toArray, List.set_cons_zero, List.set_cons_succ]))
              | (refine CanonL.val (v := ?_) (by rfl) ?_ ?_; rotate_left 1; (focus (intro w hSw; (try dsimp only at hSw); go_simp; (try (with_reducible rfl)); done)); (try simp only [Act.put, List.setIfInBounds_toArray, List.set_cons_zero, List.set_cons_succ]))
            refine CanonL.done ?_
            intro w9 hS9
            obtain ⟨_, _, _, rfl⟩ := hS9
            refine wpOp_store_str rfl rfl rfl _ _ rfl ⟨g2, off2 + q, none⟩ (bs (D.left cs q)) _ (by rfl) (by rfl) f1a z1 ?_
            go_wp2_with fail
            go_roundw
            case rel =>
              have hqa : q < (FRs (D.torn cs k)).length := by rw [FRs_len]; show q < D.n; rw [HN.out.1]; omega
              have h2 := HA3.out.setA q hqa (D.left cs q)
              have hst := DV.torn_step HV.out.2.2.2.2.1 cs k hkl
              rw [HQ.out.2.1] at hst
              rw [FRs_set, show (D.torn cs k).n = D.n from rfl, show (D.torn cs k).X = D.X from rfl, hst] at h2
              exact ⟨k + 1, by omega, by go_num, h2.drew, ((HR.out.2.trans (HA2.out.mono fun _ _ h => h.elim)).setCell (fun _ => (HR.out.1.fa g2 rfl).1) _).drew⟩
            case measure => simp [intOf]; omega
    · obtain rfl : k = L := by omega
      have z1 := hR.blk.free 1
      have HR := Lib.hid (And.intro hR gr)
      clear hR gr
      go_wp2_with fail
      go_end0
      have h2 := HR.out.1.noL
      have e : D.torn cs k = ⟨D.n, D.left cs, D.X⟩ := by
        rw [← DV.torn_all HV.out.2.2.2.2.1 cs]
        rw [HLL.out]
      rw [e] at h2
      exact ⟨rfl, ⟨_, _, by rw [FLs_none (D := D.crash cs) (fun _ => rfl)]; exact h2⟩, HR.out.2.setCell (fun _ => HR.out.1.fr) _⟩
theorem crash_64 {D : DV} (h : D.ok) : D.crash [64] = D.flush := by
  unfold DV.crash DV.flush
  congr 1
  funext k
  unfold DV.left DV.read
  cases hx : D.X k with
  | none => rfl
  | some l =>
    have hl := (h.xl k l hx).1
    have hf := h.fl k
    have hs : surv [64] (D.rank k) = 64 := by
      unfold surv
      have e : D.rank k % ([64] : List Int).length = 0 := by simp [Nat.mod_one]
      rw [e]
      rfl
    rw [hs]
    show l.take 64 ++ (D.F k).drop 64 = l
    rw [List.take_of_length_le (by omega), List.drop_eq_nil_iff.2 (by omega), List.append_nil]
set_option maxRecDepth 100000 in
set_option maxHeartbeats 4000000 in
theorem rflush_any (r : Nat) (D : DV) (fp : Nat → Prop) (w : World) (h : RefM w r D fp) (hok : D.ok) :
    Calls Tryz.prog 76 #[.pointer (some ⟨r, 0, none⟩)] w fun e w' => e = .returned (.int .i64 (D.fresh.length : Nat)) ∧ RefM w' r D.flush fp ∧ Frm fp w w' := by
  have hlt := h.lt
  have g1 : Frm (fun _ => False) w (w.alloc (.cells #[.int .i64 64] 3)) := (Frm.refl _ w).alloc _
  have HC := rcrash_any r D fp (.slice (some ⟨w.heap.size, 0, none⟩) 1 1) [64] (w.alloc (.cells #[.int .i64 64] 3)) (h.keepF g1) hok (zs_one w 64 3) (fun z hz => by obtain rfl : z = 64 := List.mem_singleton.1 hz; constructor <;> omega) (by decide) (.inr fun g hg hf => by
    have e : w.heap.size = g := Option.some.inj hg
    have := hlt g hf
    omega)
  rw [crash_64 hok] at HC
  obtain ⟨va, vb, h⟩ := h
  obtain ⟨al, cl, rfl, hc1, hc2⟩ := h.list.frl.slice
  have c1 := h.blk.cell 1 rfl
  unfold maxLen at hc2
  rw [FLs_len] at c1 hc1
  have HC := Lib.hid HC
  have HG := Lib.hid g1
  have H := Lib.hid h
  clear h g1 hlt
  go_enter Tryz.func76, Tryz.ntmps76
  go_wp2_with fail
  refine HC.out.mono ?_
  rintro e w1 ⟨rfl, h1, g1⟩
  go_wp2_with fail
  go_ret
  exact ⟨rfl, h1, (HG.out.mono fun _ _ h => h.elim).trans g1⟩
end Go.Proofs.YtdhnidmeeocajaaGreat

