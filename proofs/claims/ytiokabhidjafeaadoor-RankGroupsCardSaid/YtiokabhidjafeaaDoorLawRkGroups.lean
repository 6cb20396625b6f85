/- RankGroups: the groups of any register, by either way to tell what is the same, are as the document says. No condition beside strconv's tables. -/
import Derived.Test.YtiokabhidjafeaaDoorRkSe
namespace Go.Proofs.YtiokabhidjafeaaDoor
open Go.RowKit Go.Shelf

theorem few8_in {l : List SibI} (h : few8 l) : (∀ x ∈ l, x.s.length ≤ 200) ∧ l.length ≤ 1000 := by
  refine ⟨fun x hx => ?_, by have := h.1; omega⟩
  obtain ⟨i, hi, rfl⟩ := List.getElem_of_mem hx
  have := h.2 i hi
  omega
/-- A group at number i, in memory. -/
theorem GrO.elem {n1 : Nat} {W : World} {a : Option Addr} {n c : Nat} {P : List (GrpI × Value)} (h : GrO n1 W (.slice a n c) P) (hn : n = P.length) (i : Nat) (hi : i < P.length) :
    ∃ g off ad cd, a = some ⟨g, off, none⟩ ∧ g < W.heap.size ∧ W.cell? ⟨g, off + i * 2, none⟩ = some (.string (bs P[i].1.s)) ∧ W.cell? ⟨g, off + i * 2 + 1, none⟩ = some (.slice ad P[i].1.d.length cd) ∧ DL W (.slice ad P[i].1.d.length cd) P[i].1.d := by
  subst hn
  obtain ⟨g, off, e, h0, hc⟩ := Sl.elem grc grc_len h.row.sl2 i hi (by omega)
  have hd := (h.dots i hi).dl
  obtain ⟨ad, cd, hv, _, _⟩ := DL.slice hd
  rw [hv] at hd
  have h4 := hc 1 (by omega)
  have e4 : (grc P[i])[1]? = some P[i].2 := rfl
  rw [e4, hv] at h4
  refine ⟨g, off, ad, cd, e, h0, hc 0 (by omega), ?_, hd⟩
  rw [Nat.add_assoc]; exact h4
theorem map_at {α β γ : Type} {P : List (α × β)} {Q : List (α × γ)} {L : List α} (h1 : P.map Prod.fst = L) (h2 : Q.map Prod.fst = L) : P.length = Q.length ∧ ∀ i (hi : i < P.length) (hj : i < Q.length), P[i].1 = Q[i].1 := by
  refine ⟨by rw [← List.length_map (f := Prod.fst), h1, ← h2, List.length_map], fun i hi hj => ?_⟩
  have e1 : (P.map Prod.fst)[i]? = some P[i].1 := by simp [hi]
  have e2 : (Q.map Prod.fst)[i]? = some Q[i].1 := by simp [hj]
  rw [h1, ← h2, e2] at e1
  exact (Option.some.inj e1).symm
set_option maxRecDepth 100000 in
set_option maxHeartbeats 8000000 in
theorem rankGroups_any (f : Nat → Nat) (v : Value) (l : List SibI) (q : Bool) (w : World) (hV : VarT w) (h : SL w v l) :
    Calls Tryd.prog 3 #[rg f v, .bool q] w fun e w' => e = .returned (.bool true) ∧ Frm (fun _ => False) w w' := by
  obtain ⟨a0, c0, rfl, _, _⟩ := h.slice
  have a3 := Tryd.isAgg27
  have z3 := Tryd.sizeOf27
  have a4 := Tryd.isAgg39
  have z4 := Tryd.sizeOf39
  have a5 := Tryd.isAgg42
  have z5 := Tryd.sizeOf42
  obtain ⟨wb, hwb⟩ : ∃ wb, w.alloc (.cells (rgc f (.slice a0 l.length c0)) 27) = wb := ⟨_, rfl⟩
  have g0 : Frm (fun _ => False) w wb := by rw [← hwb]; exact (Frm.refl _ w).alloc _
  have hB : Blk wb w.heap.size 27 (rgc f (.slice a0 l.length c0)) := by rw [← hwb]; exact Blk.alloc _ _ _
  have lR := load_reg hB
  have hSb := h.keepF g0
  have HWK := Lib.hid (fun W (g : Frm (fun _ => False) w W) => works8_any W (hV.keep g))
  by_cases hfew : few8 l
  · have HF := Lib.hid (few8_yes f _ l wb hSb hfew)
    obtain ⟨hs, hb⟩ := few8_in hfew
    have HB := Lib.hid (And.intro hB (And.intro hSb (And.intro hs (And.intro hb g0))))
    clear h hB hSb hs hb hfew g0
    go_enter Tryd.func3, Tryd.ntmps3
    go_wp2_with (first | ((with_reducible refine wpl_load rfl _ rfl ?_ lR ?_); (focus rfl)) | fail)
    refine HF.out.mono ?_
    rintro e w1 ⟨rfl, g1⟩
    have lR1 := load_reg (HB.out.1.keep g1 (fun h => h))
    have HL := Lib.hid (listed_any f _ l q w1 (HB.out.2.1.keepF g1) HB.out.2.2.1 HB.out.2.2.2.1)
    have G1 := Lib.hid g1
    clear g1 HF lR
    go_wp2_with (first | ((with_reducible refine wpl_load rfl _ rfl ?_ lR1 ?_); (focus rfl)) | fail)
    refine HL.out.mono ?_
    rintro e w2 ⟨u, P, rfl, hG, hP, g2⟩
    obtain ⟨ap, cp, e1, hp1, hp2⟩ := Row.slice hG.row
    subst e1
    have G2 := Lib.hid (G1.out.trans g2)
    have lR2 := load_reg (HB.out.1.keep G2.out (fun h => h))
    have HT := Lib.hid (their_any f _ l w2 (HB.out.2.1.keepF G2.out) HB.out.2.2.2.1)
    have HG := Lib.hid (And.intro hG hP)
    obtain ⟨n, hn⟩ : ∃ n, P.length = n := ⟨_, rfl⟩
    rw [hn]
    have HN := Lib.hid hn
    clear hG hP g2 HL lR1 hp1 hp2 hn
    go_wp2_with (first | ((with_reducible refine wpl_load rfl _ rfl ?_ lR2 ?_); (focus rfl)) | fail)
    refine HT.out.mono ?_
    rintro e w3 ⟨v3, rfl, hO3, g3, _⟩
    have HR := Lib.hid (rgroups_any f v3 l q w3 hO3.sl HB.out.2.2.1 HB.out.2.2.2.1)
    have G3 := Lib.hid g3
    clear hO3 g3 HT lR2
    go_wp2_with fail
    refine HR.out.mono ?_
    rintro e w4 ⟨u4, Q, rfl, hGQ, hQ, g4⟩
    obtain ⟨aq, cq, e1, _, _⟩ := Row.slice hGQ.row
    subst e1
    have hPQ := map_at HG.out.2 hQ
    have hnq : Q.length = n := by rw [← hPQ.1, HN.out]
    rw [hnq]
    have HQ := Lib.hid (And.intro hGQ (And.intro hPQ hnq))
    have G4 := Lib.hid (G3.out.trans g4)
    have hnn : ((n : Int) == (n : Int)) = true := by rw [beq_iff_eq]
    clear hGQ hQ g4 hPQ hnq HR G3
    have hnl : n ≤ 1000 := by
      have hok := gok_grps (p := sameR q) l HB.out.2.2.1
      rw [← HG.out.2] at hok
      have := hok.len
      rw [List.length_map] at this
      have := HB.out.2.2.2.1
      have := HN.out
      omega
    go_wp2_with fail
    go_loopw [8] (fun i wr => ∃ k : Nat, k ≤ n ∧ i = .int .i64 (k : Nat) ∧ Frm (fun _ => False) w4 wr) (fun i _ => n - (intOf i).toNat)
    case atStart => exact ⟨0, Nat.zero_le _, rfl, Frm.refl _ _⟩
    case round =>
      obtain ⟨k, hk, rfl, gr⟩ := hrel
      by_cases hlt : k < n
      · have hkP : k < P.length := by rw [HN.out]; exact hlt
        have hkQ : k < Q.length := by rw [HQ.out.2.2]; exact hlt
        obtain ⟨g, off, ad, cd, ea, hg, c0, c1, hd⟩ := GrO.elem (show GrO _ w2 (.slice ap P.length cp) P from HG.out.1) rfl k hkP
        obtain ⟨g', off', ad', cd', ea', hg', y0, y1, hd'⟩ := GrO.elem (show GrO _ w4 (.slice aq Q.length cq) Q from HQ.out.1) rfl k hkQ
        subst ea ea'
        have heq := HQ.out.2.1.2 k hkP hkQ
        obtain ⟨⟨s, d⟩, hx⟩ : ∃ x, Q[k].1 = x := ⟨_, rfl⟩
        rw [hx] at heq y0 y1 hd'
        rw [heq] at c0 c1 hd
        dsimp only at c0 c1 y0 y1 hd hd'
        have c0 := (G4.out.trans gr).cellF c0
        have c1 := (G4.out.trans gr).cellF c1
        have y0 := gr.cellF y0
        have y1 := gr.cellF y1
        have hdw := hd.keepF (G4.out.trans gr)
        have hdw' := hd'.keepF gr
        have HD : ∀ w', (w'.cell? ⟨g, off + k * 2, none⟩ = some (.string (bs s)) ∧ w'.cell? ⟨g, off + k * 2 + 1, none⟩ = some (.slice ad d.length cd) ∧ w'.cell? ⟨g', off' + k * 2, none⟩ = some (.string (bs s)) ∧ w'.cell? ⟨g', off' + k * 2 + 1, none⟩ = some (.slice ad' d.length cd') ∧ Frm (fun _ => False) wr w') → Calls Tryd.prog 13 #[.slice ad d.length cd, .slice ad' d.length cd'] w' fun e w'' => e = .returned (.bool true) ∧ Frm (fun _ => False) w' w'' := fun w' hw => by
          have hD := dots8_any _ _ d d w' (hdw.keepF hw.2.2.2.2) (hdw'.keepF hw.2.2.2.2)
          rw [decide_eq_true rfl] at hD
          exact hD
        have GR := Lib.hid gr
        have hki : (k : Int) < (n : Int) := by omega
        have hss : ((bs s).toList == (bs s).toList) = true := by rw [beq_iff_eq]
        clear heq hx hd hd' gr hkP hkQ hdw hdw'
        go_upto_region 10 with fail
        refine wp_region_canon (fun w' => w'.cell? ⟨g, off + k * 2, none⟩ = some (.string (bs s)) ∧ w'.cell? ⟨g, off + k * 2 + 1, none⟩ = some (.slice ad d.length cd) ∧ w'.cell? ⟨g', off' + k * 2, none⟩ = some (.string (bs s)) ∧ w'.cell? ⟨g', off' + k * 2 + 1, none⟩ = some (.slice ad' d.length cd') ∧ Frm (fun _ => False) wr w') (by kernel_rfl) rfl (by kernel_rfl) (by kernel_rfl) (⟨c0, c1, y0, y1, (Frm.refl _ wr).drew⟩) ?_
        repeat' first
          | (refine CanonL.skip (by rfl) ?_; (try simp only [Act.put, List.setIfInBounds_toArray, List.set_cons_zero, List.set_cons_succ]))
          | (refine CanonL.callS (by rfl) (by rfl) ?_ HD ?_ ?_; (focus (intro w; go_simp; (try (with_reducible rfl)); done)); (focus (rintro w ww hs gg; exact ⟨gg.cellF hs.1, gg.cellF hs.2.1, gg.cellF hs.2.2.1, gg.cellF hs.2.2.2.1, hs.2.2.2.2.trans gg⟩)); (try simp only [Act.put, List.setIfInBounds_toArray, List.set_cons_zero, List.set_cons_succ]))
          | (refine CanonL.val (v := ?_) (by rfl) ?_ ?_; rotate_left 1; (focus (intro w hSw; (try dsimp only at hSw); go_simp; (try (with_reducible rfl)); done)); (try simp only [Act.put, List.setIfInBounds_toArray, List.set_cons_zero, List.set_cons_succ]))
        refine CanonL.done ?_
        intro w9 hS9
        have G5 := Lib.hid (GR.out.trans hS9.2.2.2.2)
        clear hS9 HD
        go_wp2_with fail
        go_roundw
        case rel => exact ⟨k + 1, by omega, by go_num, G5.out⟩
        case measure => simp [intOf]; omega
      · obtain rfl : k = n := by omega
        have G5 := Lib.hid (((HB.out.2.2.2.2.trans G2.out).trans G4.out).trans gr)
        clear gr
        go_wp2_with fail
        refine (HWK.out _ G5.out).mono ?_
        rintro e w6 ⟨rfl, g6⟩
        have G6 := Lib.hid (G5.out.trans g6)
        clear g6
        go_wp2_with fail
        go_ret
        exact ⟨rfl, G6.out⟩
  · have HF := Lib.hid (few8_no f _ l wb hSb hfew)
    have HB := Lib.hid g0
    clear h hB hSb hfew g0
    go_enter Tryd.func3, Tryd.ntmps3
    go_wp2_with (first | ((with_reducible refine wpl_load rfl _ rfl ?_ lR ?_); (focus rfl)) | fail)
    refine HF.out.mono ?_
    rintro e w1 ⟨rfl, g1⟩
    have G1 := Lib.hid (HB.out.trans g1)
    clear g1
    go_wp2_with fail
    refine (HWK.out _ G1.out).mono ?_
    rintro e w6 ⟨rfl, g6⟩
    have G6 := Lib.hid (G1.out.trans g6)
    clear g6
    go_wp2_with fail
    go_ret
    exact ⟨rfl, G6.out⟩
end Go.Proofs.YtiokabhidjafeaaDoor

