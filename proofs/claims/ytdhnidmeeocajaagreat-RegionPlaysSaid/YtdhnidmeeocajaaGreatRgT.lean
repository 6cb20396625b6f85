/- What Read of a region answers. No condition. -/
import Derived.Test.YtdhnidmeeocajaaGreatRgS
import Derived.Test.YtdhnidmeeocajaaGreatLnD
namespace Go.Proofs.YtdhnidmeeocajaaGreat
open Go.RowKit Go.Shelf

theorem run_makeStrs (W : World) (n : Nat) (h : n ≤ 1000000) : ∃ cs : Array Value, cs.size = n ∧ (Instr.makeSlice 60 (.int .i64 (n : Int)) (.int .i64 (n : Int))).run Tryz.prog W = .ok (.slice (some ⟨W.heap.size, 0, none⟩) n n) (W.alloc (.cells cs 9)) := by
  obtain ⟨i0, hi, h2⟩ := Option.map_eq_some_iff.1 (show (Tryz.prog.info? 9).map (fun i => (i.zero, i.size, i.bytes)) = some (some (.string ⟨#[]⟩), 1, 16) by kernel_rfl)
  simp only [Prod.mk.injEq] at h2
  obtain ⟨hz0, hz1, hz2⟩ := h2
  have hmk := run_make (P := Tryz.prog) W 60 9 i0 (.string ⟨#[]⟩) Tryz.underlying60 hi hz0 .i64 .i64 n n (by omega) (by omega) (by rw [hz2]; omega) (by omega)
  rw [Int.toNat_natCast, hz1, Nat.mul_one] at hmk
  exact ⟨_, size_madeCells _ _, hmk⟩
/-- All blocks of a stretch, as they are read. -/
def DV.alls (D : DV) (at_ n : Nat) : List (List UInt8) := (List.range n).map fun k => D.read (at_ + k)
theorem DV.alls_len (D : DV) (at_ n : Nat) : (D.alls at_ n).length = n := by unfold DV.alls; rw [List.length_map, List.length_range]
theorem DV.alls_at (D : DV) (at_ n k : Nat) (h : k < n) : (D.alls at_ n)[k]'(by rw [D.alls_len]; exact h) = D.read (at_ + k) := by simp [DV.alls]
theorem DV.alls_drop (D : DV) (at_ n : Nat) : (D.alls at_ n).drop 1 = D.logs at_ n := by
  apply List.ext_getElem
  · rw [List.length_drop, DV.alls_len]; simp [DV.logs]
  · intro k h1 h2
    have h3 : k < n - 1 := by simpa [DV.logs] using h2
    rw [List.getElem_drop, DV.alls_at _ _ _ _ (by omega)]
    simp [DV.logs, Nat.add_assoc]
/-- What load answers. -/
def ldR (L : LV) (q m : Int) : List (List UInt8) × Nat := if rgC L.D.n q m = 0 then (if L.down then ([], 8) else (L.D.alls q.toNat m.toNat, 0)) else ([], rgC L.D.n q m)
set_option maxRecDepth 100000 in
set_option maxHeartbeats 4000000 in
theorem load_any (l b f x : Nat) (L : LV) (q m : Int) (w : World) (h : LnM w l b f x L) (hq : Z64 q) (hm : Z64 m) :
    Calls Tryz.prog 68 #[.pointer (some ⟨l, 0, none⟩), .int .i64 q, .int .i64 m] w fun e w' => ∃ v, e = .returned (.tuple #[v, .int .i64 ((ldR L q m).2 : Nat)]) ∧ NewL w w' v (ldR L q m).1 := by
  have HC := rcheck_any l b f x L q m w h hq hm
  obtain ⟨ans, hans⟩ : ∃ ans, ldR L q m = ans := ⟨_, rfl⟩
  rw [hans]
  have HANS := Lib.hid hans
  clear hans
  by_cases hc : rgC L.D.n q m = 0
  · rw [hc] at HC
    obtain ⟨h1, h2, h3, h4⟩ := rgC_ok hc
    have hN := h.dev.ok.hi
    have HCC := Lib.hid hc
    obtain ⟨A, rfl⟩ := Int.eq_ofNat_of_zero_le h1
    obtain ⟨n, rfl⟩ := Int.eq_ofNat_of_zero_le (show 0 ≤ m by omega)
    have hn : 2 ≤ n ∧ A + n ≤ L.D.n := by omega
    have hB : A ≤ 2048 ∧ n ≤ 2048 := by omega
    have HC := Lib.hid HC
    obtain ⟨cs, hcs, hmk⟩ := run_makeStrs w n (by omega)
    have HR : Hid (∀ (k : Nat) W, k < n → Frm (fun _ => False) w W → Calls Tryz.prog 98 #[.pointer (some ⟨l, 0, none⟩), .int .i64 ((A : Int) + (k : Int))] W fun e w' => e = .returned (.tuple #[.string (bs (if L.down then [] else L.D.read (A + k))), .int .i64 (if L.down then 8 else 0)]) ∧ Frm (fun _ => False) W w') := Lib.hid fun k W hk gW => by
      have hr := lread_any l b f x L ((A : Int) + (k : Int)) W (h.keepF gW) (by unfold Z64; omega)
      have hbad : L.D.bad ((A : Int) + (k : Int)) = false := decide_eq_false (by rintro (h | h) <;> omega)
      rw [hbad, Bool.or_false, show ((A : Int) + (k : Int)).toNat = A + k by omega] at hr
      simpa using hr
    have HL := Lib.hid (And.intro hn hcs)
    clear h hc h1 h2 h3 h4 hN hq hm hn hcs
    cases hd : L.down with
    | true =>
      have hR0 := HR.out 0 _ (by have := HL.out.1.1; omega) ((Frm.refl _ w).alloc (.cells cs 9))
      rw [hd] at hR0
      have HR0 := Lib.hid hR0
      have HD := Lib.hid hd
      have h0n : (0 : Int) < (n : Int) := by have := HL.out.1.1; omega
      have hA : IntKind.i64.wrap ((A : Int) + 0) = (A : Int) + 0 := IntWalk.i64_in _ (by omega)
      clear hd HR hR0
      go_enter Tryz.func68, Tryz.ntmps68
      go_wp2_with fail
      refine HC.out.mono ?_
      rintro e w1 ⟨rfl, rfl⟩
      go_wp2_with fail
      refine wp_loop_rounds 1 ?_
      rw [rounds_succ]
      go_wp2_with fail
      refine HR0.out.mono ?_
      rintro e w1 ⟨rfl, g1⟩
      have G1 := Lib.hid (((Frm.refl _ w).alloc _).trans g1)
      clear g1 HR0
      go_wp2_with fail
      go_ret2
      rw [← HANS.out]
      unfold ldR
      rw [if_pos HCC.out, if_pos HD.out]
      exact ⟨_, rfl, OwnS.nil_ _, (fun g hg => by cases hg), G1.out⟩
    | false =>
      have HR2 : Hid (∀ (k : Nat) W, k < n → Frm (fun _ => False) w W → Calls Tryz.prog 98 #[.pointer (some ⟨l, 0, none⟩), .int .i64 ((A : Int) + (k : Int))] W fun e w' => e = .returned (.tuple #[.string (bs (L.D.read (A + k))), .int .i64 0]) ∧ Frm (fun _ => False) W w') := Lib.hid fun k W hk gW => by
        have := HR.out k W hk gW
        rw [hd] at this
        exact this
      have HD := Lib.hid hd
      have b0 := Blk.alloc w 9 cs
      have g0 : Frm (fun _ => False) w (w.alloc (.cells cs 9)) := (Frm.refl _ w).alloc _
      have r0 : Row (w.alloc (.cells cs 9)) 1 (.slice (some ⟨w.heap.size, 0, none⟩) n n) n cs.toList :=
        Row.made w 9 1 n n cs.toList cs (by simp [HL.out.2]) (Nat.le_refl _) (by unfold maxLen; omega) (by rw [HL.out.2, Nat.mul_one]) (by rw [List.take_of_length_le (by simp [HL.out.2])])
      have H0 := Lib.hid (And.intro r0 g0)
      clear hd HR b0 g0 r0
      go_enter Tryz.func68, Tryz.ntmps68
      go_wp2_with fail
      refine HC.out.mono ?_
      rintro e w1 ⟨rfl, rfl⟩
      go_wp2_with fail
      clear hmk
      go_loopw [24] (fun i wr => ∃ k : Nat, k ≤ n ∧ i = .int .i64 k ∧ ∃ xs, Row wr 1 (.slice (some ⟨w.heap.size, 0, none⟩) n n) n xs ∧ (∀ j, j < k → xs[j]? = some (.string (bs (L.D.read (A + j))))) ∧ Frm (fun _ => False) w wr) (fun i _ => n - (intOf i).toNat)
      case atStart => exact ⟨0, Nat.zero_le _, rfl, _, H0.out.1, (fun j hj => by omega), H0.out.2⟩
      case round =>
        obtain ⟨k, hk, rfl, xs, hrow, hxs, gr⟩ := hrel
        clear H0
        by_cases hlt : k < n
        · have hki : (k : Int) < (n : Int) := by omega
          have HRk := Lib.hid (HR2.out k wr hlt gr)
          have hA : IntKind.i64.wrap ((A : Int) + (k : Int)) = (A : Int) + (k : Int) := IntWalk.i64_in _ (by omega)
          have HX := Lib.hid (And.intro hrow (And.intro hxs gr))
          obtain ⟨s, hs⟩ : ∃ s, L.D.read (A + k) = s := ⟨_, rfl⟩
          rw [hs] at HRk
          have HS := Lib.hid hs
          clear hrow hxs gr hs
          go_wp2_with fail
          refine HRk.out.mono ?_
          rintro e w2 ⟨rfl, g2⟩
          have hrow := HX.out.1.keep g2 (fun _ _ h => h)
          have hfz := hrow.freeAt k hlt
          have hcl : (w2.cell? ⟨w.heap.size, 0 + k, none⟩).isSome = true := by
            rcases hrow.2 with ⟨e, h0⟩ | ⟨g', cap', e, h1, _, _, _, h5⟩
            · cases e
            · cases e
              have := (h5 k (by omega)).1
              rw [Nat.zero_add]
              exact this
          rw [Nat.zero_add] at hfz hcl
          obtain ⟨old, hold⟩ := Option.isSome_iff_exists.1 hcl
          have hset := hrow.set1 k hlt (.string (bs s))
          rw [Nat.zero_add] at hset
          have gs := (HX.out.2.2.trans g2).setCell (p := ⟨w.heap.size, k, none⟩) (fun h => absurd h (Nat.lt_irrefl _)) (.string (bs s))
          have hxl : k < xs.length := by have := HX.out.1.1; omega
          have hxs : ∀ j, j < k + 1 → (xs.set k (.string (bs s)))[j]? = some (.string (bs (L.D.read (A + j)))) := fun j hj => by
            by_cases e : j = k
            · subst e; rw [List.getElem?_set_self hxl, HS.out]
            · rw [List.getElem?_set_ne (by omega)]; exact HX.out.2.1 j (by omega)
          have HN := Lib.hid (And.intro hset (And.intro hxs gs))
          clear hcl hset gs hxs hrow g2 HRk
          go_wp2_with fail
          go_roundw
          case rel => exact ⟨k + 1, by omega, by go_num, _, HN.out.1, HN.out.2.1, HN.out.2.2⟩
          case measure => simp [intOf]; omega
        · obtain rfl : k = n := by omega
          have HX := Lib.hid (And.intro hrow (And.intro hxs gr))
          clear hrow hxs gr
          go_wp2_with fail
          go_ret2
          obtain ⟨hrow, hxs, gr⟩ := HX.out
          rw [← HANS.out]
          unfold ldR
          rw [if_pos HCC.out, if_neg (by rw [HD.out]; exact Bool.false_ne_true)]
          refine ⟨_, rfl, ?_, (fun g hg => by cases hg; exact Nat.le_refl _), gr⟩
          have e1 : xs = strs (L.D.alls A k) := by
            have hl := hrow.1
            apply List.ext_getElem?
            intro j
            by_cases hj : j < k
            · rw [hxs j hj, strs_get _ j (by rw [DV.alls_len]; exact hj), DV.alls_at _ _ _ _ hj]
            · rw [List.getElem?_eq_none (by omega), List.getElem?_eq_none (by rw [strs_length, DV.alls_len]; omega)]
          show Row wr 1 _ (L.D.alls A k).length (strs (L.D.alls A k))
          rw [DV.alls_len, ← e1]
          exact hrow
  · have h2 : rgC L.D.n q m = 2 := by
      unfold rgC at hc ⊢
      split
      · rfl
      · rename_i hn
        rw [if_neg hn] at hc
        exact absurd rfl hc
    rw [h2] at HC
    have HC := Lib.hid HC
    have H := Lib.hid (And.intro hc h2)
    clear h hc hq hm h2
    go_enter Tryz.func68, Tryz.ntmps68
    go_wp2_with fail
    refine HC.out.mono ?_
    rintro e w1 ⟨rfl, rfl⟩
    go_wp2_with fail
    go_ret2
    rw [← HANS.out]
    unfold ldR
    rw [if_neg H.out.1, H.out.2]
    exact ⟨_, rfl, OwnS.nil_ _, (fun g hg => by cases hg), Frm.refl _ _⟩
end Go.Proofs.YtdhnidmeeocajaaGreat

