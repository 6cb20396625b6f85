/- What Copy does. No condition. -/
import Derived.Test.YtnhihadnaiaojaaDvG
import Derived.Deep.RegionHeld3
namespace Go.Proofs.Ytnhihadnaiaojaa
open Go.RowKit Go.Shelf

theorem dFrm_cell {w w' : World} {a : Addr} {v : Value} (h : Frm (fun _ => False) w w') (c : w.cell? a = some v) : w'.cell? a = some v := by
  have hb : a.block < w.heap.size := World.block_lt_of_cell? w _ c
  rw [World.cell?_of_block (h.block a.block hb (fun h => h))]
  exact c
set_option maxRecDepth 100000 in
set_option maxHeartbeats 4000000 in
theorem copy_any (b f x : Nat) (D : DV) (w : World) (h : DevM w b f x D) :
    Calls Try.prog 14 #[.pointer (some ⟨b, 0, none⟩)] w fun e w' => ∃ v, e = .returned v ∧ NewDev D w v w' := by
  have c1 := h.n
  have c2 := h.fc
  have c3 := h.xc
  have HM := Lib.hid (dmade_any b f x D w h)
  have HF : ∀ W, Frm (fun _ => False) w W → Calls Try.prog 31 #[.map (some f)] W fun e w' => ∃ f', e = .returned (.map (some f')) ∧ (∀ W', Frm (fun _ => False) w' W' → MapB W' f' D.n D.firmG) ∧ (W.heap.size ≤ f' ∧ f' < w'.heap.size) ∧ Frm (fun _ => False) W w' := fun W hf =>
    (dclone_any f D.n D.firmG W (h.firm.keep hf (fun h => h))).mono fun e w' ⟨h1, h2, h3⟩ => ⟨_, h1, fun W' g => h2.keep g (fun h => h), ⟨Nat.le_refl _, h2.lt⟩, h3⟩
  have HX : ∀ W, Frm (fun _ => False) w W → Calls Try.prog 31 #[.map (some x)] W fun e w' => ∃ f', e = .returned (.map (some f')) ∧ (∀ W', Frm (fun _ => False) w' W' → MapB W' f' D.n D.X) ∧ (W.heap.size ≤ f' ∧ f' < w'.heap.size) ∧ Frm (fun _ => False) W w' := fun W hf =>
    (dclone_any x D.n D.X W (h.fresh.keep hf (fun h => h))).mono fun e w' ⟨h1, h2, h3⟩ => ⟨_, h1, fun W' g => h2.keep g (fun h => h), ⟨Nat.le_refl _, h2.lt⟩, h3⟩
  have HB : ∀ W f' x', MapB W f' D.n D.firmG → MapB W x' D.n D.X → f' ≠ x' → Calls Try.prog 29 #[.int .i64 (D.n : Nat), .map (some f'), .map (some x')] W fun e w' => e = .returned (.pointer (some ⟨W.heap.size, 0, none⟩)) ∧ DevM w' W.heap.size f' x' D ∧ Frm (fun _ => False) W w' := fun W f' x' h1 h2 h3 => build_any f' x' D W h.ok h1 h2 h3
  have Hf := Lib.hid HF
  have Hx := Lib.hid HX
  have Hb := Lib.hid HB
  clear h HF HX HB
  go_enter Try.func14, Try.ntmps14
  go_wp2_with fail
  refine HM.out.mono ?_
  rintro e w1 ⟨rfl, rfl⟩
  go_wp2_with fail
  have f0 := Frm.refl (fun _ => False) w
  go_region_held3 (fun w' => w'.cell? ⟨b, 1, none⟩ = some (.int .i64 (D.n : Nat)) ∧ w'.cell? ⟨b, 2, none⟩ = some (.map (some f)) ∧ w'.cell? ⟨b, 3, none⟩ = some (.map (some x)) ∧ Frm (fun _ => False) w w')
    (((try dsimp only); (try go_split_ands); (repeat' apply And.intro) <;> (first
      | assumption
      | exact Frm.drew (by assumption)
      | exact dFrm_cell gg (by assumption)
      | (refine Frm.trans ?_ gg; assumption)
      | go_keep)))
    (first
      | (go_at_call 31; (with_reducible refine (Hf.out _ (And.right (And.right (And.right (by assumption))))).mono ?_); rintro e ww ⟨f', rfl, Mf, lf, gg⟩)
      | (go_at_call 31; (with_reducible refine (Hx.out _ (And.right (And.right (And.right (by assumption))))).mono ?_); rintro e ww ⟨x', rfl, Mx, lx, gg⟩)
      | (go_at_call 29; (with_reducible refine (Hb.out _ f' x' (by first | exact Mf _ (Frm.refl _ _) | exact Mf _ gg) (by first | exact Mx _ (Frm.refl _ _) | exact Mx _ gg) (by omega)).mono ?_); rintro e ww ⟨rfl, HD, gg⟩))
  all_goals
    rename_i W1 g1 W2 g2 hh
    clear hh
    go_wp2_with fail
    go_ret
    have e0 : w.drew.heap.size = w.heap.size := rfl
    have s1 := g1.size
    have s2 := g2.size
    exact ⟨_, rfl, W2.heap.size, f', x', rfl, HD, by omega, by omega, by omega, ((f0.drew.trans g1).trans g2).trans gg⟩

theorem surv_pos {cs : List Int} {i : Nat} (h : cs.length ≠ 0) (q : Int) (hq : cs[i % cs.length]? = some q) : surv cs i = min (q % 66).toNat 64 := by
  unfold surv
  rw [if_neg h, List.getD_eq_getElem?_getD, hq]
  rfl
set_option maxRecDepth 100000 in
set_option maxHeartbeats 2000000 in
theorem surv_any (v : Value) (cs : List Int) (i : Nat) (w : World) (h : Zs w v cs) (hz : ∀ z ∈ cs, Z64 z) (hi : i ≤ 1000000) (hl : cs.length ≤ 1000000) :
    Calls Try.prog 47 #[v, .int .i64 (i : Int)] w fun e w' => e = .returned (.int .i64 (surv cs i : Nat)) ∧ w = w' := by
  obtain ⟨a, cap, rfl, h1, h2⟩ := h.slice
  unfold maxLen at h2
  by_cases h0 : cs.length = 0
  · have hs : surv cs i = 0 := by unfold surv; rw [if_pos h0]
    rw [hs]
    have hd : decide ((cs.length : Int) = 0) = true := decide_eq_true (by omega)
    have hd2 : ((cs.length : Int) == 0) = true := by rw [beq_iff_eq]; omega
    go_enter Try.func47, Try.ntmps47
    go_wp2_with fail
    go_ret
    exact ⟨rfl, rfl⟩
  · have hd2 : ((cs.length : Int) == 0) = false := by rw [beq_eq_false_iff_ne]; omega
    obtain ⟨j, hj⟩ : ∃ j, i % cs.length = j := ⟨_, rfl⟩
    have hjl : j < cs.length := by rw [← hj]; exact Nat.mod_lt _ (by omega)
    have t1 : (i : Int) % (cs.length : Int) = (j : Int) := by rw [← hj]; omega
    have t1' : (i : Int).tmod (cs.length : Int) = (j : Int) := by rw [Int.tmod_eq_emod_of_nonneg (by omega)]; exact t1
    have t3 : IntKind.i64.wrap (j : Int) = (j : Int) := by rw [IntKind.wrap_i64]; omega
    obtain ⟨q, hq⟩ : ∃ q, cs[j] = q := ⟨_, rfl⟩
    have hs := surv_pos h0 q (by rw [hj, List.getElem?_eq_getElem hjl, hq])
    rw [hs]
    obtain ⟨g, off, rfl, hg, c0⟩ := h.at j hjl
    rw [hq] at c0
    have hqz : Z64 q := hq ▸ hz _ (List.getElem_mem hjl)
    obtain ⟨hq1, hq2⟩ := hqz
    obtain ⟨r, hr⟩ : ∃ r, q.tmod 66 = r := ⟨_, rfl⟩
    have hb1 : r < 66 := by rw [← hr]; exact Int.tmod_lt_of_pos _ (by decide)
    have hb2 : -66 < r := by rw [← hr]; exact Int.lt_tmod_of_pos _ (by decide)
    have he : q % 66 = if r < 0 then r + 66 else r := by
      have := Int.tmod_eq_emod (a := q) (b := 66)
      rw [hr] at this
      have h66 : (66 : Int).natAbs = 66 := rfl
      have hm : 0 ≤ q % 66 := Int.emod_nonneg _ (by decide)
      have hm2 : q % 66 < 66 := Int.emod_lt_of_pos _ (by decide)
      split at this
      · rw [if_neg (by omega)]; omega
      · rename_i hnd
        have : q % 66 ≠ 0 := fun e => hnd (.inr (Int.dvd_of_emod_eq_zero e))
        rw [if_pos (by omega)]; omega
    have w1 : IntKind.i64.wrap r = r := by rw [IntKind.wrap_i64]; omega
    clear hj hq hs
    rw [he]
    clear he
    by_cases hn : r < 0
    · have w2 : IntKind.i64.wrap (r + 66) = r + 66 := by rw [IntKind.wrap_i64]; omega
      rw [if_pos hn]
      have hm : min (r + 66) 64 = ((min (r + 66).toNat 64 : Nat) : Int) := by omega
      go_enter Try.func47, Try.ntmps47
      go_wp2_with fail
      go_ret
      exact ⟨rfl, rfl⟩
    · rw [if_neg hn]
      have hm : min r 64 = ((min r.toNat 64 : Nat) : Int) := by omega
      go_enter Try.func47, Try.ntmps47
      go_wp2_with fail
      go_ret
      exact ⟨rfl, rfl⟩
end Go.Proofs.Ytnhihadnaiaojaa
