/- What Copy does. No condition. -/
import Derived.Test.YtdhngbfigklaoaaDvG
import Derived.Deep.RegionHeld3
namespace Go.Proofs.Ytdhngbfigklaoaa
open Go.RowKit Go.Shelf

theorem dFrm_cell {w w' : World} {a : Addr} {v : Value} (h : Frm (fun _ => False) w w') (c : w.cell? a = some v) : w'.cell? a = some v := by
  have hb : a.block < w.heap.size := World.block_lt_of_cell? w _ c
  rw [World.cell?_of_block (h.block a.block hb (fun h => h))]
  exact c
theorem surv_pos {cs : List Int} {i : Nat} (h : cs.length ≠ 0) (q : Int) (hq : cs[i % cs.length]? = some q) : surv cs i = min (q % 66).toNat 64 := by
  unfold surv
  rw [if_neg h, List.getD_eq_getElem?_getD, hq]
  rfl
set_option maxRecDepth 100000 in
set_option maxHeartbeats 2000000 in
theorem surv_any (v : Value) (cs : List Int) (i : Nat) (w : World) (h : Zs w v cs) (hz : ∀ z ∈ cs, Z64 z) (hi : i ≤ 1000000) (hl : cs.length ≤ 1000000) :
    Calls Try.prog 40 #[v, .int .i64 (i : Int)] w fun e w' => e = .returned (.int .i64 (surv cs i : Nat)) ∧ w = w' := by
  obtain ⟨a, cap, rfl, h1, h2⟩ := h.slice
  unfold maxLen at h2
  by_cases h0 : cs.length = 0
  · have hs : surv cs i = 0 := by unfold surv; rw [if_pos h0]
    rw [hs]
    have hd : decide ((cs.length : Int) = 0) = true := decide_eq_true (by omega)
    have hd2 : ((cs.length : Int) == 0) = true := by rw [beq_iff_eq]; omega
    go_enter Try.func40, Try.ntmps40
    go_wp2_with fail
    go_ret
    exact ⟨rfl, rfl⟩
  · have hd2 : ((cs.length : Int) == 0) = false := by rw [beq_eq_false_iff_ne]; omega
    obtain ⟨j, hj⟩ : ∃ j, i % cs.length = j := ⟨_, rfl⟩
    have hjl : j < cs.length := by rw [← hj]; exact Nat.mod_lt _ (by omega)
    have t1 : (i : Int) % (cs.length : Int) = (j : Int) := by rw [← hj]; omega
    have t1' : (i : Int).tmod (cs.length : Int) = (j : Int) := by rw [Int.tmod_eq_emod_of_nonneg (by omega)]; exact t1
    have t3 : IntKind.i64.wrap (j : Int) = (j : Int) := by rw [IntKind.wrap_i64]; omega
    obtain ⟨q, hq⟩ : ∃ q, cs[j] = q := ⟨_, rfl⟩
    have hs := surv_pos h0 q (by rw [hj, List.getElem?_eq_getElem hjl, hq])
    rw [hs]
    obtain ⟨g, off, rfl, hg, c0⟩ := h.at j hjl
    rw [hq] at c0
    have hqz : Z64 q := hq ▸ hz _ (List.getElem_mem hjl)
    obtain ⟨hq1, hq2⟩ := hqz
    obtain ⟨r, hr⟩ : ∃ r, q.tmod 66 = r := ⟨_, rfl⟩
    have hb1 : r < 66 := by rw [← hr]; exact Int.tmod_lt_of_pos _ (by decide)
    have hb2 : -66 < r := by rw [← hr]; exact Int.lt_tmod_of_pos _ (by decide)
    have he : q % 66 = if r < 0 then r + 66 else r := by
      have := Int.tmod_eq_emod (a := q) (b := 66)
      rw [hr] at this
      have h66 : (66 : Int).natAbs = 66 := rfl
      have hm : 0 ≤ q % 66 := Int.emod_nonneg _ (by decide)
      have hm2 : q % 66 < 66 := Int.emod_lt_of_pos _ (by decide)
      split at this
      · rw [if_neg (by omega)]; omega
      · rename_i hnd
        have : q % 66 ≠ 0 := fun e => hnd (.inr (Int.dvd_of_emod_eq_zero e))
        rw [if_pos (by omega)]; omega
    have w1 : IntKind.i64.wrap r = r := by rw [IntKind.wrap_i64]; omega
    clear hj hq hs
    rw [he]
    clear he
    by_cases hn : r < 0
    · have w2 : IntKind.i64.wrap (r + 66) = r + 66 := by rw [IntKind.wrap_i64]; omega
      rw [if_pos hn]
      have hm : min (r + 66) 64 = ((min (r + 66).toNat 64 : Nat) : Int) := by omega
      go_enter Try.func40, Try.ntmps40
      go_wp2_with fail
      go_ret
      exact ⟨rfl, rfl⟩
    · rw [if_neg hn]
      have hm : min r 64 = ((min r.toNat 64 : Nat) : Int) := by omega
      go_enter Try.func40, Try.ntmps40
      go_wp2_with fail
      go_ret
      exact ⟨rfl, rfl⟩
end Go.Proofs.Ytdhngbfigklaoaa

