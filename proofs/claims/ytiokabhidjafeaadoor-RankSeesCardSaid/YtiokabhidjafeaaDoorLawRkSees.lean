/- RankSees: what is seen at any name, of any register, is as the document says. No condition beside strconv's tables. -/
import Derived.Test.YtiokabhidjafeaaDoorLawRkGroups
namespace Go.Proofs.YtiokabhidjafeaaDoor
open Go.RowKit Go.Shelf

/-- What the document sees at number i, in memory. -/
theorem rat_elem {W : World} {a : Option Addr} {n c : Nat} {P : List (SeenI × Value)} (h : Row W 5 (.slice a n c) P.length (flat sec P)) (hds : ∀ i (h : i < P.length), DL W P[i].2 P[i].1.g.d) (i : Nat) (hi : i < P.length) :
    ∃ g off ad cd, a = some ⟨g, off, none⟩ ∧ g < W.heap.size ∧ W.cell? ⟨g, off + i * 5, none⟩ = some (.string (bs P[i].1.n)) ∧ W.cell? ⟨g, off + i * 5 + 1, none⟩ = some (.bool P[i].1.dir) ∧ W.cell? ⟨g, off + i * 5 + 2, none⟩ = some (.bool P[i].1.con) ∧
      W.cell? ⟨g, off + i * 5 + 3, none⟩ = some (.string (bs P[i].1.g.s)) ∧ W.cell? ⟨g, off + i * 5 + 4, none⟩ = some (.slice ad P[i].1.g.d.length cd) ∧ DL W (.slice ad P[i].1.g.d.length cd) P[i].1.g.d := by
  obtain ⟨a', c', e0, _, _⟩ := Row.slice h
  cases e0
  obtain ⟨g, off, e, h0, hc⟩ := Sl.elem sec sec_len h.sl2 i hi (by omega)
  have hd := hds i hi
  obtain ⟨ad, cd, hv, _, _⟩ := DL.slice hd
  rw [hv] at hd
  have h4 := hc 4 (by omega)
  have e4 : (sec P[i])[4]? = some P[i].2 := rfl
  rw [e4, hv] at h4
  refine ⟨g, off, ad, cd, e, h0, hc 0 (by omega), ?_, ?_, ?_, ?_, hd⟩
  · rw [Nat.add_assoc]; exact hc 1 (by omega)
  · rw [Nat.add_assoc]; exact hc 2 (by omega)
  · rw [Nat.add_assoc]; exact hc 3 (by omega)
  · rw [Nat.add_assoc]; exact h4
theorem seenG_len (cf : List UInt8 → DotI → List UInt8) (nm : List UInt8) : ∀ (L : List GrpI) (k : Nat), (seenG cf nm k L).length = L.length
  | [], _ => rfl
  | g :: L, k => by rw [seenG, List.length_cons, List.length_cons, seenG_len cf nm L (k + 1)]
theorem seenA_len (cf : List UInt8 → DotI → List UInt8) (nm : List UInt8) (q : List UInt8 → List UInt8 → Bool) (p : List UInt8 → Bool) (l : List SibI) (hs : ∀ x ∈ l, x.s.length ≤ 200) (hb : l.length ≤ 1000) : (seenA cf nm q p l).length ≤ 2000 := by
  unfold seenA
  rw [List.length_append, List.length_map, seenG_len]
  have h1 := (gok_grps (p := fun _ _ => true) (l.filter (fun x => p x.s == true)) (fun x hx => hs x (List.mem_filter.1 hx).1)).len
  have h2 := (gok_grps (p := q) (l.filter (fun x => p x.s == false)) (fun x hx => hs x (List.mem_filter.1 hx).1)).len
  have h3 := List.length_filter_le (fun x : SibI => p x.s == true) l
  have h4 := List.length_filter_le (fun x : SibI => p x.s == false) l
  omega
set_option maxRecDepth 100000 in
set_option maxHeartbeats 8000000 in
theorem rankSees_any (f : Nat → Nat) (nm : List UInt8) (v : Value) (l : List SibI) (q : Bool) (w : World) (hV : VarT w) (h : SL w v l) (hnl : nm.length ≤ 9223372036854775807) :
    Calls Tryd.prog 4 #[rg f v, .string (bs nm), .bool q] w fun e w' => e = .returned (.bool true) ∧ Frm (fun _ => False) w w' := by
  obtain ⟨a0, c0, rfl, _, _⟩ := h.slice
  have a3 := Tryd.isAgg27
  have z3 := Tryd.sizeOf27
  have a4 := Tryd.isAgg39
  have z4 := Tryd.sizeOf39
  have a5 := Tryd.isAgg42
  have z5 := Tryd.sizeOf42
  obtain ⟨wb, hwb⟩ : ∃ wb, w.alloc (.cells (rgc f (.slice a0 l.length c0)) 27) = wb := ⟨_, rfl⟩
  have g0 : Frm (fun _ => False) w wb := by rw [← hwb]; exact (Frm.refl _ w).alloc _
  have hB : Blk wb w.heap.size 27 (rgc f (.slice a0 l.length c0)) := by rw [← hwb]; exact Blk.alloc _ _ _
  have lR := load_reg hB
  have hSb := h.keepF g0
  have HWK := Lib.hid (fun W (g : Frm (fun _ => False) w W) => works8_any W (hV.keep g))
  by_cases hfew : few8 l
  · have HF := Lib.hid (few8_yes f _ l wb hSb hfew)
    obtain ⟨hs, hb⟩ := few8_in hfew
    by_cases h100 : nm.length ≤ 100
    · have h1i : ¬ (100 : Int) < ((bs nm).size : Int) := by rw [bs_size]; omega
      have HB := Lib.hid (And.intro hB (And.intro hSb (And.intro hs (And.intro hb (And.intro g0 (And.intro hV h100))))))
      clear h hB hSb hs hb hfew g0 hV hnl h100
      go_enter Tryd.func4, Tryd.ntmps4
      go_wp2_with (first | ((with_reducible refine wpl_load rfl _ rfl ?_ lR ?_); (focus rfl)) | fail)
      refine HF.out.mono ?_
      rintro e w1 ⟨rfl, g1⟩
      have lR1 := load_reg (HB.out.1.keep g1 (fun h => h))
      have HL := Lib.hid (at14_laid f nm _ l q w1 (HB.out.2.2.2.2.2.1.keep (HB.out.2.2.2.2.1.trans g1)) (HB.out.2.1.keepF g1) HB.out.2.2.1 HB.out.2.2.2.1)
      have G1 := Lib.hid g1
      clear g1 HF lR
      go_wp2_with (first | ((with_reducible refine wpl_load rfl _ rfl ?_ lR1 ?_); (focus rfl)) | fail)
      refine HL.out.mono ?_
      rintro e w2 ⟨u, P, rfl, hG, hP, g2⟩
      obtain ⟨ap, cp, e1, hp1, hp2⟩ := Row.slice hG.row
      subst e1
      have G2 := Lib.hid (G1.out.trans g2)
      have lR2 := load_reg (HB.out.1.keep G2.out (fun h => h))
      have HT := Lib.hid (their_any f _ l w2 (HB.out.2.1.keepF G2.out) HB.out.2.2.2.1)
      have HG := Lib.hid (And.intro hG hP)
      obtain ⟨n, hn⟩ : ∃ n, P.length = n := ⟨_, rfl⟩
      rw [hn]
      have HN := Lib.hid hn
      clear hG hP g2 HL lR1 hp1 hp2 hn
      go_wp2_with (first | ((with_reducible refine wpl_load rfl _ rfl ?_ lR2 ?_); (focus rfl)) | fail)
      refine HT.out.mono ?_
      rintro e w3 ⟨v3, rfl, hO3, g3, _⟩
      have HR := Lib.hid (rat_any f nm v3 l q w3 hO3.sl HB.out.2.2.1 HB.out.2.2.2.1 (by have := HB.out.2.2.2.2.2.2; omega))
      have G3 := Lib.hid g3
      clear hO3 g3 HT lR2
      go_wp2_with fail
      refine HR.out.mono ?_
      rintro e w4 ⟨u4, Q, rfl, hRow, hDs, hQ, g4⟩
      obtain ⟨aq, cq, e1, _, _⟩ := Row.slice hRow
      subst e1
      rw [seenR_eq] at hQ
      have hPQ := map_at HG.out.2 hQ
      have hnq : Q.length = n := by rw [← hPQ.1, HN.out]
      have HQ := Lib.hid (And.intro hRow (And.intro hPQ (And.intro hnq hDs)))
      rw [hnq]
      have G4 := Lib.hid (G3.out.trans g4)
      have hnn : ((n : Int) == (n : Int)) = true := by rw [beq_iff_eq]
      clear hRow hDs hQ g4 hPQ hnq HR G3
      have hnl : n ≤ 2000 := by
        have h1 := seenA_len cfR nm (sameR q) isDir l HB.out.2.2.1 HB.out.2.2.2.1
        rw [← HG.out.2, List.length_map, HN.out] at h1
        exact h1
      go_wp2_with fail
      go_loopw [9] (fun i wr => ∃ k : Nat, k ≤ n ∧ i = .int .i64 (k : Nat) ∧ Frm (fun _ => False) w4 wr) (fun i _ => n - (intOf i).toNat)
      case atStart => exact ⟨0, Nat.zero_le _, rfl, Frm.refl _ _⟩
      case round =>
        obtain ⟨k, hk, rfl, gr⟩ := hrel
        by_cases hlt : k < n
        · have hkP : k < P.length := by rw [HN.out]; exact hlt
          have hkQ : k < Q.length := by rw [HQ.out.2.2.1]; exact hlt
          obtain ⟨g, off, ad, cd, ea, hg, c0, c1, c2, c3, c4, hd⟩ := SeO.elem (show SeO _ w2 (.slice ap P.length cp) P from HG.out.1) rfl k hkP
          obtain ⟨g', off', ad', cd', ea', hg', y0, y1, y2, y3, y4, hd'⟩ := rat_elem (show Row w4 5 (.slice aq Q.length cq) Q.length (flat sec Q) from HQ.out.1) HQ.out.2.2.2 k hkQ
          subst ea ea'
          have heq := HQ.out.2.1.2 k hkP hkQ
          obtain ⟨⟨sn, dr, cn, ⟨s, d⟩⟩, hx⟩ : ∃ x, Q[k].1 = x := ⟨_, rfl⟩
          rw [hx] at heq y0 y1 y2 y3 y4 hd'
          rw [heq] at c0 c1 c2 c3 c4 hd
          dsimp only at c0 c1 c2 c3 c4 y0 y1 y2 y3 y4 hd hd'
          have c0 := (G4.out.trans gr).cellF c0
          have c1 := (G4.out.trans gr).cellF c1
          have c2 := (G4.out.trans gr).cellF c2
          have c3 := (G4.out.trans gr).cellF c3
          have c4 := (G4.out.trans gr).cellF c4
          have y0 := gr.cellF y0
          have y1 := gr.cellF y1
          have y2 := gr.cellF y2
          have y3 := gr.cellF y3
          have y4 := gr.cellF y4
          have hdw := hd.keepF (G4.out.trans gr)
          have hdw' := hd'.keepF gr
          have HD : ∀ w', (w'.cell? ⟨g, off + k * 5, none⟩ = some (.string (bs sn)) ∧ w'.cell? ⟨g, off + k * 5 + 1, none⟩ = some (.bool dr) ∧ w'.cell? ⟨g, off + k * 5 + 2, none⟩ = some (.bool cn) ∧ w'.cell? ⟨g, off + k * 5 + 3, none⟩ = some (.string (bs s)) ∧ w'.cell? ⟨g, off + k * 5 + 4, none⟩ = some (.slice ad d.length cd) ∧ w'.cell? ⟨g', off' + k * 5, none⟩ = some (.string (bs sn)) ∧ w'.cell? ⟨g', off' + k * 5 + 1, none⟩ = some (.bool dr) ∧ w'.cell? ⟨g', off' + k * 5 + 2, none⟩ = some (.bool cn) ∧ w'.cell? ⟨g', off' + k * 5 + 3, none⟩ = some (.string (bs s)) ∧ w'.cell? ⟨g', off' + k * 5 + 4, none⟩ = some (.slice ad' d.length cd') ∧ Frm (fun _ => False) wr w') → Calls Tryd.prog 13 #[.slice ad d.length cd, .slice ad' d.length cd'] w' fun e w'' => e = .returned (.bool true) ∧ Frm (fun _ => False) w' w'' := fun w' hw => by
            have hD := dots8_any _ _ d d w' (hdw.keepF hw.2.2.2.2.2.2.2.2.2.2) (hdw'.keepF hw.2.2.2.2.2.2.2.2.2.2)
            rw [decide_eq_true rfl] at hD
            exact hD
          have GR := Lib.hid gr
          have hki : (k : Int) < (n : Int) := by omega
          have hss : ((bs s).toList == (bs s).toList) = true := by rw [beq_iff_eq]
          have hs2 : ((bs sn).toList == (bs sn).toList) = true := by rw [beq_iff_eq]
          have hs3 : (dr == dr) = true := by rw [beq_iff_eq]
          have hs4 : (cn == cn) = true := by rw [beq_iff_eq]
          clear heq hx hd hd' gr hkP hkQ hdw hdw'
          go_upto_region 10 with fail
          refine wp_region_canon (fun w' => w'.cell? ⟨g, off + k * 5, none⟩ = some (.string (bs sn)) ∧ w'.cell? ⟨g, off + k * 5 + 1, none⟩ = some (.bool dr) ∧ w'.cell? ⟨g, off + k * 5 + 2, none⟩ = some (.bool cn) ∧ w'.cell? ⟨g, off + k * 5 + 3, none⟩ = some (.string (bs s)) ∧ w'.cell? ⟨g, off + k * 5 + 4, none⟩ = some (.slice ad d.length cd) ∧ w'.cell? ⟨g', off' + k * 5, none⟩ = some (.string (bs sn)) ∧ w'.cell? ⟨g', off' + k * 5 + 1, none⟩ = some (.bool dr) ∧ w'.cell? ⟨g', off' + k * 5 + 2, none⟩ = some (.bool cn) ∧ w'.cell? ⟨g', off' + k * 5 + 3, none⟩ = some (.string (bs s)) ∧ w'.cell? ⟨g', off' + k * 5 + 4, none⟩ = some (.slice ad' d.length cd') ∧ Frm (fun _ => False) wr w') (by kernel_rfl) rfl (by kernel_rfl) (by kernel_rfl) (⟨c0, c1, c2, c3, c4, y0, y1, y2, y3, y4, (Frm.refl _ wr).drew⟩) ?_
          repeat' first
            | (refine CanonL.skip (by rfl) ?_; (try simp only [Act.put, List.setIfInBounds_toArray, List.set_cons_zero, List.set_cons_succ]))
            | (refine CanonL.callS (by rfl) (by rfl) ?_ HD ?_ ?_; (focus (intro w; go_simp; (try (with_reducible rfl)); done)); (focus (rintro w ww hs gg; exact ⟨gg.cellF hs.1, gg.cellF hs.2.1, gg.cellF hs.2.2.1, gg.cellF hs.2.2.2.1, gg.cellF hs.2.2.2.2.1, gg.cellF hs.2.2.2.2.2.1, gg.cellF hs.2.2.2.2.2.2.1, gg.cellF hs.2.2.2.2.2.2.2.1, gg.cellF hs.2.2.2.2.2.2.2.2.1, gg.cellF hs.2.2.2.2.2.2.2.2.2.1, hs.2.2.2.2.2.2.2.2.2.2.trans gg⟩)); (try simp only [Act.put, List.setIfInBounds_toArray, List.set_cons_zero, List.set_cons_succ]))
            | (refine CanonL.val (v := ?_) (by rfl) ?_ ?_; rotate_left 1; (focus (intro w hSw; (try dsimp only at hSw); go_simp; (try (with_reducible rfl)); done)); (try simp only [Act.put, List.setIfInBounds_toArray, List.set_cons_zero, List.set_cons_succ]))
          refine CanonL.done ?_
          intro w9 hS9
          have G5 := Lib.hid (GR.out.trans hS9.2.2.2.2.2.2.2.2.2.2)
          clear hS9 HD
          go_wp2_with fail
          go_roundw
          case rel => exact ⟨k + 1, by omega, by go_num, G5.out⟩
          case measure => simp [intOf]; omega
        · obtain rfl : k = n := by omega
          have G5 := Lib.hid (((HB.out.2.2.2.2.1.trans G2.out).trans G4.out).trans gr)
          clear gr
          go_wp2_with fail
          refine (HWK.out _ G5.out).mono ?_
          rintro e w6 ⟨rfl, g6⟩
          have G6 := Lib.hid (G5.out.trans g6)
          clear g6
          go_wp2_with fail
          go_ret
          exact ⟨rfl, G6.out⟩
    · have h1i : (100 : Int) < ((bs nm).size : Int) := by rw [bs_size]; omega
      have HB := Lib.hid g0
      clear h hB hSb hfew g0 hs hb h100 hV
      go_enter Tryd.func4, Tryd.ntmps4
      go_wp2_with (first | ((with_reducible refine wpl_load rfl _ rfl ?_ lR ?_); (focus rfl)) | fail)
      refine HF.out.mono ?_
      rintro e w1 ⟨rfl, g1⟩
      have G1 := Lib.hid (HB.out.trans g1)
      clear g1
      go_wp2_with fail
      refine (HWK.out _ G1.out).mono ?_
      rintro e w6 ⟨rfl, g6⟩
      have G6 := Lib.hid (G1.out.trans g6)
      clear g6
      go_wp2_with fail
      go_ret
      exact ⟨rfl, G6.out⟩
  · have HF := Lib.hid (few8_no f _ l wb hSb hfew)
    have HB := Lib.hid g0
    clear h hB hSb hfew g0 hV
    go_enter Tryd.func4, Tryd.ntmps4
    go_wp2_with (first | ((with_reducible refine wpl_load rfl _ rfl ?_ lR ?_); (focus rfl)) | fail)
    refine HF.out.mono ?_
    rintro e w1 ⟨rfl, g1⟩
    have G1 := Lib.hid (HB.out.trans g1)
    clear g1
    go_wp2_with fail
    refine (HWK.out _ G1.out).mono ?_
    rintro e w6 ⟨rfl, g6⟩
    have G6 := Lib.hid (G1.out.trans g6)
    clear g6
    go_wp2_with fail
    go_ret
    exact ⟨rfl, G6.out⟩
end Go.Proofs.YtiokabhidjafeaaDoor

