/- The document's answer on quotas: what Prune answers. Of at most a hundred items. -/
import Derived.Test.YtpabblkdepefcaaQJ
namespace Go.Proofs.Ytpabblkdepefcaa
open Go.RowKit Go.Shelf
/-- What goes of what is left, some of it gone. -/
def GoneQ (most : Int) (l : List QI) (I : List Nat) (R : List QG) (F : List QI) : Prop :=
  R.map (·.1) = F ∧ IncQ R ∧ F.length + I.length = l.length ∧
    goQ most (sumQ l) (sprQ (srtQ l.zipIdx)) = (I ++ (goQ most (sumQ F) (sprQ (srtQ R))).1, (goQ most (sumQ F) (sprQ (srtQ R))).2)
theorem GoneQ.start (most : Int) (l : List QI) : GoneQ most l [] l.zipIdx l := ⟨zip_fst l 0, zip_apt l 0, by simp, by simp⟩
theorem GoneQ.done {most : Int} {l : List QI} {I : List Nat} {R : List QG} {F : List QI} (h : GoneQ most l I R F) (hs : (sumQ F : Int) ≤ most) : pruneQ l most = (I, true) := by
  obtain ⟨h1, h2, h3, h4⟩ := h
  have hg : ∀ L, goQ most (sumQ F) L = ([], sumQ F) := fun L => by cases L <;> simp [goQ, hs]
  unfold pruneQ
  rw [h4, hg]
  simp only [List.append_nil]
  rw [if_neg (by omega)]
theorem GoneQ.fail {most : Int} {l : List QI} {I : List Nat} {R : List QG} {F : List QI} (h : GoneQ most l I R F) (hs : most < (sumQ F : Int)) (he : sprQ (srtQ R) = []) : pruneQ l most = ([], false) := by
  obtain ⟨h1, h2, h3, h4⟩ := h
  unfold pruneQ
  rw [h4, he]
  simp [goQ, hs]
theorem sumQ_eraseIdx : ∀ (l : List QI) (b : Nat) (hb : b < l.length), sumQ (l.eraseIdx b) = sumQ l - szQ l[b] ∧ szQ l[b] ≤ sumQ l := by
  intro l
  induction l with
  | nil => intro b hb; simp at hb
  | cons x l ih =>
    intro b hb
    cases b with
    | zero => simp [sumQ]
    | succ b =>
      have hb' : b < l.length := by simpa using hb
      obtain ⟨h1, h2⟩ := ih b hb'
      rw [List.eraseIdx_cons_succ, List.getElem_cons_succ]
      simp only [sumQ, h1]
      omega
theorem map_erase (R : List QG) : ∀ b, (R.eraseIdx b).map (·.1) = (R.map (·.1)).eraseIdx b := by
  induction R with
  | nil => intro b; rfl
  | cons x R ih =>
    intro b
    cases b with
    | zero => rfl
    | succ b => simp only [List.eraseIdx_cons_succ, List.map_cons, ih b]
theorem GoneQ.step {most : Int} {l : List QI} {I : List Nat} {R : List QG} {F : List QI} (h : GoneQ most l I R F) (hs : most < (sumQ F : Int)) {b : Nat} (hb : b < F.length) (hn : newestB F b hb = false) (ho : ∀ q (hq : q < F.length), newestB F q hq = false → oldQ (F[q], q) (F[b], b) = false) :
    GoneQ most l (I ++ [F[b].id]) (R.eraseIdx b) (F.eraseIdx b) := by
  obtain ⟨h1, h2, h3, h4⟩ := h
  have hl : F.length = R.length := by rw [← h1, List.length_map]
  obtain ⟨t, ht⟩ := OldTo.some_ h1 h2 hb (by omega) hn ho
  obtain ⟨k1, k2⟩ := goQ_step h2 (by omega) ht
  obtain ⟨s1, s2⟩ := sumQ_eraseIdx F b hb
  have hRb : (R[b]'(by omega)).1 = F[b] := by subst h1; simp
  refine ⟨by rw [map_erase, h1], k2, by rw [List.length_eraseIdx, if_pos hb, List.length_append, List.length_singleton]; omega, ?_⟩
  rw [h4, k1, ht, s1]
  conv => lhs; rw [goQ]
  rw [if_neg (by omega), hRb]
  simp
set_option maxRecDepth 100000 in
set_option maxHeartbeats 8000000 in
theorem rprune_any (v : Value) (l : List QI) (most : Int) (w : World) (h : QL w v l) (hb : l.length ≤ 100) : Calls Try.prog 10 #[v, .int .i64 most] w (PruneTo l most w) := by
  obtain ⟨a, cap, rfl, hc1, hc2⟩ := h.slice
  unfold maxLen at hc2
  obtain ⟨u0, w0, hrun0, hown0, hgr0, hnew0⟩ := append_rqis w (.slice none 0 0) (.slice a l.length cap) [] l (Row.nil_ _ _) h (by simp; omega)
  rw [List.nil_append] at hown0
  have HR0 := Lib.hid hrun0
  have H0 := Lib.hid (And.intro hown0 (And.intro ((Frm.refl (fun _ => False) w).grown hgr0 (fun q hq e => by cases e)) (fun g e => (hnew0 g e).elim (fun e => by cases e) id)))
  clear hrun0 hown0 hgr0 hnew0 h
  obtain ⟨PQ, hPQ⟩ : ∃ PQ, PruneTo l most w = PQ := ⟨_, rfl⟩
  rw [hPQ]
  have HPQ := Lib.hid hPQ
  clear hPQ
  go_enter Try.func10, Try.ntmps10
  go_wp2_with (at_builtin; refine Lib.wpList_append_run _ rfl _ _ _ _ rfl _ _ rfl rfl _ _ HR0.out ?_)
  go_loopg [6, 7] l.length (fun kx u6 u7 wr => ∃ (R : List QG) (I : List Nat) (F : List QI), F.length ≤ kx ∧ Hid (GoneQ most l I R F) ∧ QOwn wr u6 F ∧ Own wr u7 I ∧ Frm (fun _ => False) w wr ∧ (∀ g, u6.ownBlock = some g → w.heap.size ≤ g) ∧ ∀ g, u7.ownBlock = some g → w.heap.size ≤ g ∧ u6.ownBlock ≠ some g)
  case atStart => exact ⟨l.zipIdx, [], l, Nat.le_refl _, GoneQ.start most l, H0.out.1, Row.nil_ _ _, H0.out.2.1, H0.out.2.2, fun g e => by cases e⟩
  case round =>
    obtain ⟨R, I, F, hkx, HG, o6, o7, g1, n6, n7⟩ := hrel
    have hFl : F.length ≤ 100 ∧ I.length ≤ 100 := by have := HG.out.2.2.1; omega
    obtain ⟨a6, c6, rfl, hc61, hc62⟩ := o6.slice
    obtain ⟨a7, c7, rfl, hc71, hc72⟩ := Own.sliceQ o7
    unfold maxLen at hc62 hc72
    have HS := Lib.hid (rsum_any (.slice a6 F.length c6) F wr o6.read (by omega))
    obtain ⟨sm, hsm⟩ : ∃ sm, sumQ F = sm := ⟨_, rfl⟩
    rw [hsm] at HS
    have HSM := Lib.hid hsm
    have K := Lib.hid (And.intro o6 (And.intro o7 (And.intro g1 (And.intro n6 n7))))
    clear hsm o6 o7 g1 n6 n7
    by_cases hle : (sm : Int) ≤ most
    · have hle2 : ¬ most < (sm : Int) := by omega
      have hp := GoneQ.done HG.out (by rw [HSM.out]; exact hle)
      have HP := Lib.hid hp
      clear hp
      go_wp2_with fail
      refine HS.out.mono ?_
      rintro e w2 ⟨rfl, g2⟩
      have G2 := Lib.hid g2
      clear g2
      go_wp2_with fail
      refine (show PQ (.returned (.tuple #[.slice a7 I.length c7, .bool true])) _ from ?_)
      rw [← HPQ.out]
      exact ⟨_, by rw [HP.out], by rw [HP.out]; exact Own.keepQ K.out.2.1 G2.out, K.out.2.2.1.trans G2.out, fun g e => (K.out.2.2.2.2 g e).1⟩
    · have hle2 : most < (sm : Int) := by omega
      go_wp2_with fail
      refine HS.out.mono ?_
      rintro e w2 ⟨rfl, g2⟩
      have o6 := K.out.1.keep g2 (fun _ _ h => h)
      have HO := Lib.hid (roldest_any (.slice a6 F.length c6) F w2 o6.read)
      have G2 := Lib.hid (And.intro g2 o6)
      clear g2 o6
      go_wp2_with fail
      refine HO.out.mono ?_
      rintro e w3 ⟨r, rfl, hr, g3⟩
      have o6 := G2.out.2.keep g3 (fun _ _ h => h)
      have o7 := Own.keepQ K.out.2.1 (G2.out.1.trans g3)
      have G3 := Lib.hid (G2.out.1.trans g3)
      clear g3
      rcases hr with ⟨rfl, hr⟩ | ⟨b, hb2, rfl, hbn, hbo⟩
      · have hp := GoneQ.fail HG.out (by rw [HSM.out]; exact hle2) (OldTo.none_ HG.out.1 HG.out.2.1 hr)
        have HP := Lib.hid hp
        clear hp hr o6 o7
        go_wp2_with fail
        refine (show PQ (.returned (.tuple #[.slice none 0 0, .bool false])) _ from ?_)
        rw [← HPQ.out]
        exact ⟨_, by rw [HP.out], by rw [HP.out]; exact Row.nil_ _ _, K.out.2.2.1.trans G3.out, fun g e => by cases e⟩
      · have hst := GoneQ.step HG.out (by rw [HSM.out]; exact hle2) hb2 hbn hbo
        have HST := Lib.hid hst
        clear hst hbn hbo
        have hbz : (b : Int) < (F.length : Int) := by omega
        have hb0 : (0 : Int) ≤ (b : Int) := by omega
        have hb1 : ¬ (b : Int) < 0 := by omega
        obtain ⟨g, off, rfl, hg, _, e1, _, _⟩ := (show QL w3 (.slice a6 F.length c6) F from o6.read).elem b hb2
        obtain ⟨x, hx⟩ : ∃ x, F[b].id = x := ⟨_, rfl⟩
        rw [hx] at e1
        have HX := Lib.hid hx
        clear hx
        have ga := (Frm.refl (fun _ => False) w3).alloc (.cells #[.int .u32 (x : Int)] 34)
        obtain ⟨u7', w4, hrun7, hown7, hgr7, hnew7, _⟩ := append_us _ _ _ _ [x] (Own.keepQ o7 ga) (us_one w3 x) (by simp only [List.length_singleton]; omega)
        have HR7 := Lib.hid hrun7
        have g4 : Frm (fun k => Value.ownBlock (.slice a7 I.length c7) = some k) w3 w4 := (ga.mono (fun _ _ h => h.elim)).grown hgr7 (fun k _ e => e)
        have q4 : QOwn w4 (.slice (some ⟨g, off, none⟩) F.length c6) F := o6.keep g4 (fun q e e2 => (K.out.2.2.2.2 q e2).2 e)
        obtain ⟨u9, w5, hrun9, hown9, hgr9, hnew9⟩ := append_rqis w4 (.slice none 0 0) (.slice (some ⟨g, off, none⟩) b c6) [] (F.take b) (Row.nil_ _ _) (q4.read.takeQ rfl b (by omega)) (by simp; omega)
        rw [List.nil_append] at hown9
        have HR9 := Lib.hid hrun9
        have g5 : Frm (fun _ => False) w4 w5 := (Frm.refl _ w4).grown hgr9 (fun k _ e => by cases e)
        have q5 := q4.keep g5 (fun _ _ h => h)
        have hFi : F.take b ++ F.drop (b + 1) = F.eraseIdx b := (List.eraseIdx_eq_take_drop_succ F b).symm
        have hFl2 : (F.eraseIdx b).length = F.length - 1 := by rw [List.length_eraseIdx, if_pos hb2]
        have HFL := Lib.hid hFl2
        clear hFl2
        have hbd : decide ((b : Int) < 0) = false := decide_eq_false (by omega)
        have hbc : (b : Int) ≤ (c6 : Int) := by omega
        have hbc2 : (b : Int) + 1 ≤ (F.length : Int) := by omega
        have hbc3 : (b : Int) + 1 ≤ (c6 : Int) := by omega
        have hbp : (0 : Int) ≤ (b : Int) + 1 := by omega
        have hbn : ((b : Int) + 1).toNat = b + 1 := by omega
        have hbt : ((b : Int)).toNat = b := by omega
        clear hrun7 hrun9
        have EX : ∀ (v5 : Value), QL w5 v5 (F.drop (b + 1)) → ∃ u6' w6, (Builtin.append_ #[29, 29] 29 #[u9, v5]).run Try.prog w5 = .ok u6' w6 ∧
            QOwn w6 u6' (F.eraseIdx b) ∧ Own w6 u7' (I ++ [x]) ∧ Frm (fun _ => False) w w6 ∧ (∀ g, u6'.ownBlock = some g → w.heap.size ≤ g) ∧ ∀ g, u7'.ownBlock = some g → w.heap.size ≤ g ∧ u6'.ownBlock ≠ some g := fun v5 h5 => by
          obtain ⟨u6', w6, hrun6, hown6, hgr6, hnew6⟩ := append_rqis w5 u9 v5 (F.take b) (F.drop (b + 1)) hown9 h5 (by simp; omega)
          rw [hFi] at hown6
          have g6 : Frm (fun k => u9.ownBlock = some k) w5 w6 := (Frm.refl _ w5).grown hgr6 (fun k _ e => e)
          have hww : w.heap.size ≤ w3.heap.size := Nat.le_trans K.out.2.2.1.size G3.out.size
          have n9 : ∀ q, u9.ownBlock = some q → w4.heap.size ≤ q := fun q e => (hnew9 q e).elim (fun e => by cases e) id
          have n7' : ∀ q, u7'.ownBlock = some q → Value.ownBlock (.slice a7 I.length c7) = some q ∨ w3.heap.size ≤ q := fun q e => (hnew7 q e).imp id (fun h => by have := h.1; simp at this; omega)
          have l7 : ∀ q, u7'.ownBlock = some q → q < w4.heap.size := Row.blk hown7
          refine ⟨u6', w6, hrun6, hown6, Row.keep (Row.keep hown7 g5 (fun _ _ h => h)) g6 (fun q e e2 => by have := n9 q e2; have := l7 q e; omega), ?_, fun q e => ?_, fun q e => ⟨?_, fun e2 => ?_⟩⟩
          · have f1 : Frm (fun k => Value.ownBlock (.slice a7 I.length c7) = some k ∨ u9.ownBlock = some k) w3 w6 := ((g4.mono (fun _ _ h => .inl h)).trans (g5.mono (fun _ _ h => h.elim))).next g6 (fun k _ h => .inr h)
            exact (K.out.2.2.1.trans G3.out).next f1 (fun k hk h => by
              rcases h with h | h
              · have := (K.out.2.2.2.2 k h).1; omega
              · have := n9 k h; have := g4.size; omega)
          · rcases hnew6 q e with e | e
            · have := n9 q e; have := g4.size; omega
            · have := g5.size; have := g4.size; omega
          · rcases n7' q e with e | e
            · exact (K.out.2.2.2.2 q e).1
            · omega
          · have h1 := l7 q e
            rcases hnew6 q e2 with e3 | e3
            · have := n9 q e3; omega
            · have := g5.size; omega
        have HEX := Lib.hid EX
        clear EX hown9 hgr9 hnew9 hown7 hgr7 hnew7
        by_cases hcb : c6 = b + 1
        · subst hcb
          have hFb : F.length - (b + 1) = 0 := by omega
          have h5 : QL w5 (.slice (some ⟨g, off, none⟩) 0 0) (F.drop (b + 1)) := by
            have := q5.read.dropQ rfl (b + 1) (by omega)
            rw [if_pos rfl, hFb, Nat.sub_self] at this
            exact this
          obtain ⟨u6', w6, hrun6, E6⟩ := HEX.out _ h5
          have HR6 := Lib.hid hrun6
          have HE6 := Lib.hid E6
          clear hrun6 E6 h5 q5
          go_wp2_with (first | (at_builtin; refine Lib.wpList_append_run _ rfl _ _ _ _ rfl _ _ rfl rfl _ _ HR7.out ?_) | (at_builtin; refine Lib.wpList_append_run _ rfl _ _ _ _ rfl _ _ rfl rfl _ _ HR9.out ?_) | (at_builtin; refine Lib.wpList_append_run _ rfl _ _ _ _ rfl _ _ rfl rfl _ _ HR6.out ?_))
          go_roundg (F.length - 1)
          case measure => omega
          case rel => exact ⟨R.eraseIdx b, I ++ [x], F.eraseIdx b, by rw [HFL.out]; exact Nat.le_refl _, by rw [← HX.out]; exact HST.out, HE6.out.1, HE6.out.2.1, HE6.out.2.2.1, HE6.out.2.2.2⟩
        · have h5 : QL w5 (.slice (some ⟨g, off + (b + 1) * 4, none⟩) (F.length - (b + 1)) (c6 - (b + 1))) (F.drop (b + 1)) := by
            have := q5.read.dropQ rfl (b + 1) (by omega)
            rw [if_neg hcb, show Option.map (fun x : Addr => x.add ((b + 1) * 4)) (some ⟨g, off, none⟩) = some ⟨g, off + (b + 1) * 4, none⟩ from by simp [Addr.add]] at this
            exact this
          obtain ⟨u6', w6, hrun6, E6⟩ := HEX.out _ h5
          have HR6 := Lib.hid hrun6
          have HE6 := Lib.hid E6
          have hcz : ¬ (c6 : Int) = (b : Int) + 1 := by omega
          clear hrun6 E6 h5 q5
          go_wp2_with (first | (at_builtin; refine Lib.wpList_append_run _ rfl _ _ _ _ rfl _ _ rfl rfl _ _ HR7.out ?_) | (at_builtin; refine Lib.wpList_append_run _ rfl _ _ _ _ rfl _ _ rfl rfl _ _ HR9.out ?_) | (at_builtin; refine Lib.wpList_append_run _ rfl _ _ _ _ rfl _ _ rfl rfl _ _ HR6.out ?_))
          go_roundg (F.length - 1)
          case measure => omega
          case rel => exact ⟨R.eraseIdx b, I ++ [x], F.eraseIdx b, by rw [HFL.out]; exact Nat.le_refl _, by rw [← HX.out]; exact HST.out, HE6.out.1, HE6.out.2.1, HE6.out.2.2.1, HE6.out.2.2.2⟩
end Go.Proofs.Ytpabblkdepefcaa
