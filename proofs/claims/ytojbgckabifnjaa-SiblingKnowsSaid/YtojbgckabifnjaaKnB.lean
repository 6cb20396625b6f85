/- What is known here or there. No condition. -/
import Derived.Test.YtojbgckabifnjaaKnA
import Derived.Test.YtojbgckabifnjaaLate
import Derived.Test.YtojbgckabifnjaaSibY
namespace Go.Proofs.Ytojbgckabifnjaa
open Go.RowKit

theorem load_known {W : World} {b : Nat} {u : Value} (h : Blk W b 82 #[u]) : (Instr.loadAt 82 (.pointer (some ⟨b, 0, none⟩))).run Try.prog W = .ok (.agg #[u]) W :=
  run_loadAt_mid W b 0 82 [u] _ (fun j v hu => by rw [Nat.zero_add]; exact h.cell j (by rw [← Array.getElem?_toList]; exact hu)) Try.underlying82 rfl (by show _ = some 1; kernel_rfl)
/-- An event out of what is known. -/
theorem KL.load {W : World} {g off cap : Nat} {P : List (EvI × Value)} (h : KL W (.slice (some ⟨g, off, none⟩) P.length cap) P) (k : Nat) (hk : k < P.length) :
    (Instr.loadAt 91 (.pointer (some ⟨g, off + k * 5, none⟩))).run Try.prog W = .ok (.agg #[.int .u8 P[k].1.x.r, .int .u32 P[k].1.x.n, .bool P[k].1.is, .string (bs P[k].1.x.s), P[k].2]) W :=
  run_loadAt_mid W g (off + k * 5) 91 (evc P[k]) _ (fun j v hu => by
    obtain ⟨g', off', e, _, hc⟩ := Sl.elem evc evc_len h.sl k hk (by omega)
    cases e
    have hj : j < 5 := by
      rcases Nat.lt_or_ge j 5 with h | h
      · exact h
      · rw [List.getElem?_eq_none (by rw [evc_len]; omega)] at hu; cases hu
    rw [Nat.add_assoc, hc j hj]
    exact hu) Try.underlying91 rfl (by show _ = some 5; kernel_rfl)
/-- What is known here or there. -/
def bothP (P Q : List (EvI × Value)) : List (EvI × Value) := P ++ Q.filter (fun q => !decide (q.1.x.d ∈ dotsK P))
theorem bothP_fst (P Q : List (EvI × Value)) : (bothP P Q).map Prod.fst = bothK (P.map Prod.fst) (Q.map Prod.fst) := by
  unfold bothP bothK dotsK
  rw [List.map_append, List.filter_map, List.map_map]
  rfl
theorem bothP_take {P : List (EvI × Value)} (Q : List (EvI × Value)) (k : Nat) (h : k < Q.length) : bothP P (Q.take (k + 1)) = if Q[k].1.x.d ∈ dotsK P then bothP P (Q.take k) else bothP P (Q.take k) ++ [Q[k]] := by
  unfold bothP
  rw [List.take_succ_eq_append_getElem h, List.filter_append]
  by_cases c : Q[k].1.x.d ∈ dotsK P
  · simp [c]
  · simp [c]
theorem bothP_len (P Q : List (EvI × Value)) : (bothP P Q).length ≤ P.length + Q.length := by
  unfold bothP
  have := List.length_filter_le (fun q : EvI × Value => !decide (q.1.x.d ∈ dotsK P)) Q
  simp only [List.length_append]
  omega
theorem bothP_mem {P Q : List (EvI × Value)} {p : EvI × Value} (h : p ∈ bothP P Q) : p ∈ P ∨ p ∈ Q := by
  unfold bothP at h
  rcases List.mem_append.1 h with h | h
  · exact .inl h
  · exact .inr (List.mem_filter.1 h).1
def kb6tM : List Nat := [1, 2, 6, 8, 30, 62, 126, 255, 511]
def kb6tR (A g off k cap capb : Nat) (a : Option Addr) (P Q : List (EvI × Value)) (x : EvI × Value) : List ((Nat → Value) → World → Prop) := [
  fun val _ => val 0 = .agg #[.slice a P.length cap],
  fun val _ => val 1 = .pointer (some ⟨A + 1, 0, none⟩),
  fun val _ => val 2 = .slice (some ⟨g, off, none⟩) Q.length capb,
  fun val _ => val 3 = .int .i64 (k : Int),
  fun val _ => val 4 = .pointer (some ⟨g, off + k * 5, none⟩),
  fun val _ => val 5 = .pointer (some ⟨g, off + k * 5, none⟩),
  fun val _ => val 6 = .agg (dv x.1.x.r x.1.x.n),
  fun val _ => val 7 = .bool true,
  fun val _ => val 8 = .bool false]
def kb6fM : List Nat := [1, 2, 6, 8, 30, 62, 126, 255, 511]
def kb6fR (A g off k cap capb : Nat) (a : Option Addr) (P Q : List (EvI × Value)) (x : EvI × Value) : List ((Nat → Value) → World → Prop) := [
  fun val _ => val 0 = .agg #[.slice a P.length cap],
  fun val _ => val 1 = .pointer (some ⟨A + 1, 0, none⟩),
  fun val _ => val 2 = .slice (some ⟨g, off, none⟩) Q.length capb,
  fun val _ => val 3 = .int .i64 (k : Int),
  fun val _ => val 4 = .pointer (some ⟨g, off + k * 5, none⟩),
  fun val _ => val 5 = .pointer (some ⟨g, off + k * 5, none⟩),
  fun val _ => val 6 = .agg (dv x.1.x.r x.1.x.n),
  fun val _ => val 7 = .bool false,
  fun val _ => val 8 = .bool true]

set_option maxRecDepth 100000 in
set_option maxHeartbeats 8000000 in
theorem both_any (u0 u1 : Value) (P Q : List (EvI × Value)) (w : World) (h : KL w u0 P) (hq : KL w u1 Q) (hb : P.length ≤ 1000) (hbq : Q.length ≤ 1000) :
    Calls Try.prog 40 #[.agg #[u0], .agg #[u1]] w (KnTo (bothP P Q) w) := by
  obtain ⟨a, cap, rfl, hc1, hc2⟩ := h.slice
  obtain ⟨b, capb, rfl, hd1, hd2⟩ := hq.slice
  unfold maxLen at hd2
  have g0 : Frm (fun _ => False) w (((w.alloc (.cells #[.slice a P.length cap] 82)).alloc (.cells #[.slice b Q.length capb] 82)).alloc (.cells #[.slice none 0 0] 82)) := (((Frm.refl _ w).alloc _).alloc _).alloc _
  have b0 : Blk (((w.alloc (.cells #[.slice a P.length cap] 82)).alloc (.cells #[.slice b Q.length capb] 82)).alloc (.cells #[.slice none 0 0] 82)) w.heap.size 82 #[.slice a P.length cap] := ((Blk.alloc w _ _).old _).old _
  have b1 : Blk (((w.alloc (.cells #[.slice a P.length cap] 82)).alloc (.cells #[.slice b Q.length capb] 82)).alloc (.cells #[.slice none 0 0] 82)) (w.heap.size + 1) 82 #[.slice b Q.length capb] := (Blk.at1 w _ _ _).old _
  have b2 : Blk (((w.alloc (.cells #[.slice a P.length cap] 82)).alloc (.cells #[.slice b Q.length capb] 82)).alloc (.cells #[.slice none 0 0] 82)) (w.heap.size + 1 + 1) 82 #[.slice none 0 0] := Blk.at2 w _ _ _ _
  go_enter Try.func40, Try.ntmps40
  go_upto_region 2 with fail
  generalize (((w.alloc (.cells #[.slice a P.length cap] 82)).alloc (.cells #[.slice b Q.length capb] 82)).alloc (.cells #[.slice none 0 0] 82)) = w1 at *
  obtain ⟨A, hA⟩ : ∃ A, w.heap.size = A := ⟨_, rfl⟩
  have HA := Lib.hid hA
  rw [hA] at b0 b1 b2 ⊢
  have H0 := Lib.hid h
  have HQ0 := Lib.hid hq
  have hA3 : A + 3 ≤ w1.heap.size := b2.lt
  have HB0 : Hid (∀ W, Frm (fun _ => False) w1 W → Blk W A 82 #[.slice a P.length cap]) := Lib.hid fun W g => b0.keep g (fun h => h)
  have HB1 : Hid (∀ W, Frm (fun _ => False) w1 W → Blk W (A + 1) 82 #[.slice b Q.length capb]) := Lib.hid fun W g => b1.keep g (fun h => h)
  have HB2 : Hid (∀ W, Frm (fun _ => False) w1 W → Blk W (A + 1 + 1) 82 #[.slice none 0 0]) := Lib.hid fun W g => b2.keep g (fun h => h)
  have HKL : Hid (∀ W, Frm (fun _ => False) w1 W → KL W (.slice a P.length cap) P) := Lib.hid fun W g => h.keepF (g0.trans g)
  have HQL : Hid (∀ W, Frm (fun _ => False) w1 W → KL W (.slice b Q.length capb) Q) := Lib.hid fun W g => hq.keepF (g0.trans g)
  have HG0 := Lib.hid g0
  obtain ⟨v2, w2, hrun, hrow, hgr, hnew⟩ := append_evs w1 (.slice none 0 0) _ [] P (Row.nil_ _ 5) (h.keepF g0) (by simp; omega)
  rw [List.nil_append] at hrow
  obtain ⟨a2, c2, rfl, _, _⟩ := Row.slice hrow
  have g2 : Frm (fun _ => False) w1 w2 := (Frm.refl _ w1).grown hgr (fun k _ e => by cases e)
  have c0 := b0.cell 0 rfl
  have hn2 : ∀ g, Value.ownBlock (.slice a2 P.length c2) = some g → w1.heap.size ≤ g := fun g e => (hnew g e).elim (fun e => by cases e) (fun e => e)
  have Hrun := Lib.hid hrun
  clear hrun hgr hnew h hq hA g0 b1 b2
  go_upto_region 4 with (at_builtin; refine Lib.wpList_append_run _ rfl _ _ _ _ rfl _ _ rfl rfl _ _ Hrun.out ?_)
  clear b0 c0 Hrun
  go_loopw [5, 6] (fun u i wr => ∃ k : Nat, k ≤ Q.length ∧ i = .int .i64 k ∧ Row wr 5 u (bothP P (Q.take k)).length (flat evc (bothP P (Q.take k))) ∧ (∀ g, u.ownBlock = some g → w1.heap.size ≤ g) ∧ Frm (fun _ => False) w1 wr) (fun _ i _ => Q.length - (intOf i).toNat)
  case atStart => exact ⟨0, Nat.zero_le _, rfl, by rw [List.take_zero, show bothP P [] = P by simp [bothP]]; exact hrow, hn2, g2⟩
  case round =>
    obtain ⟨k, hk, rfl, hR, hN, hF⟩ := hrel
    clear hrow hn2 g2
    have c1 := (HB1.out wr hF).cell 0 rfl
    obtain ⟨a4, c4, rfl, _, _⟩ := Row.slice hR
    by_cases hlt : k < Q.length
    · have hki : (k : Int) < (Q.length : Int) := by omega
      have hk0 : (0 : Int) ≤ (k : Int) := by omega
      obtain ⟨g, off, rfl, _, _, _, _, _⟩ := (HQL.out wr hF).cells k hlt
      obtain ⟨x, hx⟩ : ∃ x, Q[k] = x := ⟨_, rfl⟩
      have HXQ := Lib.hid hx
      have HT := Lib.hid (bothP_take (P := P) Q k hlt)
      rw [hx] at HT
      replace HB0 := Hid.grow HB0 hF
      replace HB1 := Hid.grow HB1 hF
      replace HB2 := Hid.grow HB2 hF
      replace HKL := Hid.grow HKL hF
      have HQW := Hid.grow HQL hF
      have HX : Hid (∀ W, Frm (fun _ => False) wr W → W.cell? ⟨g, off + k * 5, none⟩ = some (.int .u8 x.1.x.r) ∧ W.cell? ⟨g, off + k * 5 + 1, none⟩ = some (.int .u32 x.1.x.n)) := Lib.hid fun W hW => by
        obtain ⟨g', off', e, y0, y1, _, _, _⟩ := (HQW.out W hW).cells k hlt
        cases e
        rw [hx] at y0 y1
        exact ⟨y0, y1⟩
      have HE : Hid (∀ W, Frm (fun _ => False) wr W → (Instr.loadAt 91 (.pointer (some ⟨g, off + k * 5, none⟩))).run Try.prog W = .ok (.agg #[.int .u8 x.1.x.r, .int .u32 x.1.x.n, .bool x.1.is, .string (bs x.1.x.s), x.2]) W) := Lib.hid fun W hW => by
        have := (HQW.out W hW).load k hlt
        rw [hx] at this
        exact this
      have HOV : Hid (∀ W, Frm (fun _ => False) wr W → DL W x.2 x.1.o) := Lib.hid fun W hW => (HQW.out W hW).ov x (by rw [← hx]; exact List.getElem_mem hlt)
      have HR := Lib.hid hR
      have HN := Lib.hid hN
      have HF := Lib.hid hF
      clear hx hR hN
      go_upto_region 6 with fail
      clear c1
      rename_i hK
      have D : Frm (fun _ => False) wr wr.drew := (Frm.refl _ _).drew
      cases hm : decide (x.1.x.d ∈ dotsK P)
      case true =>
        have HD := Lib.hid hm
        clear hm
        refine wp_region_late 9 0 [] [[], [], [1], [], [2, 3], [4], [5], [0, 6], [7]] kb6tM (kb6tR A g off k cap capb a P Q x) (by kernel_rfl) rfl rfl rfl (by kernel_rfl) (by kernel_rfl) (by kernel_rfl) (by kernel_rfl) rfl (by kernel_rfl) (by kernel_rfl) (by kernel_rfl) (by kernel_rfl) (fun val => ?_) ?_
        · try dsimp only
          refine RelO.next (k' := 1) rfl (fun W gW hF => ?_) ?_
          focus
            exact OpOK.load (by rfl) _ rfl (by rfl) (load_known (HB0.out W (D.trans gW))) (fun W' _ => rfl)
          try simp only [Act.put, List.setIfInBounds_toArray, List.set_cons_zero, List.set_cons_succ]
          refine RelO.next (k' := 2) rfl (fun W gW hF => ?_) ?_
          focus
            refine OpOK.val (u := .pointer (some ⟨A + 1, 0, none⟩)) (by rfl) ?_ (fun W' _ => rfl)
            try simp only [tupAt]
            first | (go_simp; done) | (go_simp; with_reducible rfl) | (go_simp; rfl)
          try simp only [Act.put, List.setIfInBounds_toArray, List.set_cons_zero, List.set_cons_succ]
          refine RelO.next (k' := 3) rfl (fun W gW hF => ?_) ?_
          focus
            obtain ⟨h1, _⟩ := hF
            have e1 : val 1 = .pointer (some ⟨A + 1, 0, none⟩) := h1 _ (Frm.refl _ W)
            try simp only [e1]
            try simp only [tupAt]
            have c8 := (HB1.out W (D.trans gW)).cell 0 rfl
            have a3 := Try.isAgg80
            have z3 := Try.sizeOf80
            exact OpOK.val (u := .slice (some ⟨g, off, none⟩) Q.length capb) (by rfl) (by first | (go_simp; done) | (go_simp; with_reducible rfl) | (go_simp; rfl)) (fun W' _ => rfl)
          try simp only [Act.put, List.setIfInBounds_toArray, List.set_cons_zero, List.set_cons_succ]
          refine RelO.next (k' := 4) rfl (fun W gW hF => ?_) ?_
          focus
            refine OpOK.val (u := .int .i64 (k : Int)) (by rfl) ?_ (fun W' _ => rfl)
            try simp only [tupAt]
            first | (go_simp; done) | (go_simp; with_reducible rfl) | (go_simp; rfl)
          try simp only [Act.put, List.setIfInBounds_toArray, List.set_cons_zero, List.set_cons_succ]
          refine RelO.next (k' := 5) rfl (fun W gW hF => ?_) ?_
          focus
            obtain ⟨h2, h3, _⟩ := hF
            have e2 : val 2 = .slice (some ⟨g, off, none⟩) Q.length capb := h2 _ (Frm.refl _ W)
            have e3 : val 3 = .int .i64 (k : Int) := h3 _ (Frm.refl _ W)
            try simp only [e3]
            try simp only [e2]
            try simp only [tupAt]
            refine OpOK.val (u := .pointer (some ⟨g, off + k * 5, none⟩)) (by rfl) ?_ (fun W' _ => rfl)
            try simp only [e3]
            try simp only [e2]
            try simp only [tupAt]
            first | (go_simp; done) | (go_simp; with_reducible rfl) | (go_simp; rfl)
          try simp only [Act.put, List.setIfInBounds_toArray, List.set_cons_zero, List.set_cons_succ]
          refine RelO.next (k' := 6) rfl (fun W gW hF => ?_) ?_
          focus
            obtain ⟨h4, _⟩ := hF
            have e4 : val 4 = .pointer (some ⟨g, off + k * 5, none⟩) := h4 _ (Frm.refl _ W)
            try simp only [e4]
            try simp only [tupAt]
            refine OpOK.val (u := .pointer (some ⟨g, off + k * 5, none⟩)) (by rfl) ?_ (fun W' _ => rfl)
            try simp only [e4]
            try simp only [tupAt]
            first | (go_simp; done) | (go_simp; with_reducible rfl) | (go_simp; rfl)
          try simp only [Act.put, List.setIfInBounds_toArray, List.set_cons_zero, List.set_cons_succ]
          refine RelO.next (k' := 7) rfl (fun W gW hF => ?_) ?_
          focus
            obtain ⟨h5, _⟩ := hF
            have e5 : val 5 = .pointer (some ⟨g, off + k * 5, none⟩) := h5 _ (Frm.refl _ W)
            try simp only [e5]
            try simp only [tupAt]
            obtain ⟨x0, x1⟩ := HX.out W (D.trans gW)
            exact OpOK.val (u := .agg (dv x.1.x.r x.1.x.n)) (by rfl) (by first | (go_simp; done) | (go_simp; with_reducible rfl) | (go_simp; rfl)) (fun W' _ => rfl)
          try simp only [Act.put, List.setIfInBounds_toArray, List.set_cons_zero, List.set_cons_succ]
          refine RelO.next (k' := 8) rfl (fun W gW hF => ?_) ?_
          focus
            obtain ⟨h0, h6, _⟩ := hF
            have e0 : val 0 = .agg #[.slice a P.length cap] := h0 _ (Frm.refl _ W)
            have e6 : val 6 = .agg (dv x.1.x.r x.1.x.n) := h6 _ (Frm.refl _ W)
            try simp only [e6]
            try simp only [e0]
            try simp only [tupAt]
            refine OpOK.call (by rfl) ?_ ((knhas_ev _ P x.1 W (HKL.out W (D.trans gW))).mono ?_)
            · first | (go_simp; done) | (go_simp; with_reducible rfl) | (go_simp; rfl)
            · rintro e W1 ⟨he, g1⟩
              rw [HD.out] at he
              subst he
              exact ⟨_, rfl, g1, fun W2 _ => rfl⟩
          try simp only [Act.put, List.setIfInBounds_toArray, List.set_cons_zero, List.set_cons_succ]
          refine RelO.next (k' := 9) rfl (fun W gW hF => ?_) ?_
          focus
            obtain ⟨h7, _⟩ := hF
            have e7 : val 7 = .bool true := h7 _ (Frm.refl _ W)
            try simp only [e7]
            try simp only [tupAt]
            refine OpOK.val (u := .bool false) (by rfl) ?_ (fun W' _ => rfl)
            try simp only [e7]
            try simp only [tupAt]
            first | (go_simp; done) | (go_simp; with_reducible rfl) | (go_simp; rfl)
          try simp only [Act.put, List.setIfInBounds_toArray, List.set_cons_zero, List.set_cons_succ]
          exact RelO.nil
        intro val w3 gW hF
        obtain ⟨h0, h1, h2, h3, h4, h5, h6, h7, h8, hT⟩ := hF
        have e0 : val 0 = .agg #[.slice a P.length cap] := h0 _ (Frm.refl _ w3)
        have e1 : val 1 = .pointer (some ⟨A + 1, 0, none⟩) := h1 _ (Frm.refl _ w3)
        have e2 : val 2 = .slice (some ⟨g, off, none⟩) Q.length capb := h2 _ (Frm.refl _ w3)
        have e3 : val 3 = .int .i64 (k : Int) := h3 _ (Frm.refl _ w3)
        have e4 : val 4 = .pointer (some ⟨g, off + k * 5, none⟩) := h4 _ (Frm.refl _ w3)
        have e5 : val 5 = .pointer (some ⟨g, off + k * 5, none⟩) := h5 _ (Frm.refl _ w3)
        have e6 : val 6 = .agg (dv x.1.x.r x.1.x.n) := h6 _ (Frm.refl _ w3)
        have e7 : val 7 = .bool true := h7 _ (Frm.refl _ w3)
        have e8 : val 8 = .bool false := h8 _ (Frm.refl _ w3)
        clear hT h0 h1 h2 h3 h4 h5 h6 h7 h8
        simp only [aO, Act.put, List.setIfInBounds_toArray, List.set_cons_zero, List.set_cons_succ, Nat.reduceAdd]
        try simp only [e8]
        try simp only [e7]
        try simp only [e6]
        try simp only [e5]
        try simp only [e4]
        try simp only [e3]
        try simp only [e2]
        try simp only [e1]
        try simp only [e0]
        try simp only [tupAt]
        refine wpTail.doneN ?_
        refine hK _ _ ?_
        have g3 := D.trans gW
        have HR3 := Lib.hid (Row.keep HR.out g3 (fun _ _ h => h))
        have HF3 := Lib.hid (HF.out.trans g3)
        clear gW D hK g3 e0 e1 e2 e3 e4 e5 e6 e7 e8
        go_wp2_with fail
        go_roundw
        case rel => exact ⟨k + 1, by omega, by go_num, by rw [HT.out, if_pos (of_decide_eq_true HD.out)]; exact HR3.out, HN.out, HF3.out⟩
        case measure => simp [intOf]; omega
      case false =>
        have HD := Lib.hid hm
        clear hm
        refine wp_region_late 9 0 [] [[], [], [1], [], [2, 3], [4], [5], [0, 6], [7]] kb6fM (kb6fR A g off k cap capb a P Q x) (by kernel_rfl) rfl rfl rfl (by kernel_rfl) (by kernel_rfl) (by kernel_rfl) (by kernel_rfl) rfl (by kernel_rfl) (by kernel_rfl) (by kernel_rfl) (by kernel_rfl) (fun val => ?_) ?_
        · try dsimp only
          refine RelO.next (k' := 1) rfl (fun W gW hF => ?_) ?_
          focus
            exact OpOK.load (by rfl) _ rfl (by rfl) (load_known (HB0.out W (D.trans gW))) (fun W' _ => rfl)
          try simp only [Act.put, List.setIfInBounds_toArray, List.set_cons_zero, List.set_cons_succ]
          refine RelO.next (k' := 2) rfl (fun W gW hF => ?_) ?_
          focus
            refine OpOK.val (u := .pointer (some ⟨A + 1, 0, none⟩)) (by rfl) ?_ (fun W' _ => rfl)
            try simp only [tupAt]
            first | (go_simp; done) | (go_simp; with_reducible rfl) | (go_simp; rfl)
          try simp only [Act.put, List.setIfInBounds_toArray, List.set_cons_zero, List.set_cons_succ]
          refine RelO.next (k' := 3) rfl (fun W gW hF => ?_) ?_
          focus
            obtain ⟨h1, _⟩ := hF
            have e1 : val 1 = .pointer (some ⟨A + 1, 0, none⟩) := h1 _ (Frm.refl _ W)
            try simp only [e1]
            try simp only [tupAt]
            have c8 := (HB1.out W (D.trans gW)).cell 0 rfl
            have a3 := Try.isAgg80
            have z3 := Try.sizeOf80
            exact OpOK.val (u := .slice (some ⟨g, off, none⟩) Q.length capb) (by rfl) (by first | (go_simp; done) | (go_simp; with_reducible rfl) | (go_simp; rfl)) (fun W' _ => rfl)
          try simp only [Act.put, List.setIfInBounds_toArray, List.set_cons_zero, List.set_cons_succ]
          refine RelO.next (k' := 4) rfl (fun W gW hF => ?_) ?_
          focus
            refine OpOK.val (u := .int .i64 (k : Int)) (by rfl) ?_ (fun W' _ => rfl)
            try simp only [tupAt]
            first | (go_simp; done) | (go_simp; with_reducible rfl) | (go_simp; rfl)
          try simp only [Act.put, List.setIfInBounds_toArray, List.set_cons_zero, List.set_cons_succ]
          refine RelO.next (k' := 5) rfl (fun W gW hF => ?_) ?_
          focus
            obtain ⟨h2, h3, _⟩ := hF
            have e2 : val 2 = .slice (some ⟨g, off, none⟩) Q.length capb := h2 _ (Frm.refl _ W)
            have e3 : val 3 = .int .i64 (k : Int) := h3 _ (Frm.refl _ W)
            try simp only [e3]
            try simp only [e2]
            try simp only [tupAt]
            refine OpOK.val (u := .pointer (some ⟨g, off + k * 5, none⟩)) (by rfl) ?_ (fun W' _ => rfl)
            try simp only [e3]
            try simp only [e2]
            try simp only [tupAt]
            first | (go_simp; done) | (go_simp; with_reducible rfl) | (go_simp; rfl)
          try simp only [Act.put, List.setIfInBounds_toArray, List.set_cons_zero, List.set_cons_succ]
          refine RelO.next (k' := 6) rfl (fun W gW hF => ?_) ?_
          focus
            obtain ⟨h4, _⟩ := hF
            have e4 : val 4 = .pointer (some ⟨g, off + k * 5, none⟩) := h4 _ (Frm.refl _ W)
            try simp only [e4]
            try simp only [tupAt]
            refine OpOK.val (u := .pointer (some ⟨g, off + k * 5, none⟩)) (by rfl) ?_ (fun W' _ => rfl)
            try simp only [e4]
            try simp only [tupAt]
            first | (go_simp; done) | (go_simp; with_reducible rfl) | (go_simp; rfl)
          try simp only [Act.put, List.setIfInBounds_toArray, List.set_cons_zero, List.set_cons_succ]
          refine RelO.next (k' := 7) rfl (fun W gW hF => ?_) ?_
          focus
            obtain ⟨h5, _⟩ := hF
            have e5 : val 5 = .pointer (some ⟨g, off + k * 5, none⟩) := h5 _ (Frm.refl _ W)
            try simp only [e5]
            try simp only [tupAt]
            obtain ⟨x0, x1⟩ := HX.out W (D.trans gW)
            exact OpOK.val (u := .agg (dv x.1.x.r x.1.x.n)) (by rfl) (by first | (go_simp; done) | (go_simp; with_reducible rfl) | (go_simp; rfl)) (fun W' _ => rfl)
          try simp only [Act.put, List.setIfInBounds_toArray, List.set_cons_zero, List.set_cons_succ]
          refine RelO.next (k' := 8) rfl (fun W gW hF => ?_) ?_
          focus
            obtain ⟨h0, h6, _⟩ := hF
            have e0 : val 0 = .agg #[.slice a P.length cap] := h0 _ (Frm.refl _ W)
            have e6 : val 6 = .agg (dv x.1.x.r x.1.x.n) := h6 _ (Frm.refl _ W)
            try simp only [e6]
            try simp only [e0]
            try simp only [tupAt]
            refine OpOK.call (by rfl) ?_ ((knhas_ev _ P x.1 W (HKL.out W (D.trans gW))).mono ?_)
            · first | (go_simp; done) | (go_simp; with_reducible rfl) | (go_simp; rfl)
            · rintro e W1 ⟨he, g1⟩
              rw [HD.out] at he
              subst he
              exact ⟨_, rfl, g1, fun W2 _ => rfl⟩
          try simp only [Act.put, List.setIfInBounds_toArray, List.set_cons_zero, List.set_cons_succ]
          refine RelO.next (k' := 9) rfl (fun W gW hF => ?_) ?_
          focus
            obtain ⟨h7, _⟩ := hF
            have e7 : val 7 = .bool false := h7 _ (Frm.refl _ W)
            try simp only [e7]
            try simp only [tupAt]
            refine OpOK.val (u := .bool true) (by rfl) ?_ (fun W' _ => rfl)
            try simp only [e7]
            try simp only [tupAt]
            first | (go_simp; done) | (go_simp; with_reducible rfl) | (go_simp; rfl)
          try simp only [Act.put, List.setIfInBounds_toArray, List.set_cons_zero, List.set_cons_succ]
          exact RelO.nil
        intro val w3 gW hF
        obtain ⟨h0, h1, h2, h3, h4, h5, h6, h7, h8, hT⟩ := hF
        have e0 : val 0 = .agg #[.slice a P.length cap] := h0 _ (Frm.refl _ w3)
        have e1 : val 1 = .pointer (some ⟨A + 1, 0, none⟩) := h1 _ (Frm.refl _ w3)
        have e2 : val 2 = .slice (some ⟨g, off, none⟩) Q.length capb := h2 _ (Frm.refl _ w3)
        have e3 : val 3 = .int .i64 (k : Int) := h3 _ (Frm.refl _ w3)
        have e4 : val 4 = .pointer (some ⟨g, off + k * 5, none⟩) := h4 _ (Frm.refl _ w3)
        have e5 : val 5 = .pointer (some ⟨g, off + k * 5, none⟩) := h5 _ (Frm.refl _ w3)
        have e6 : val 6 = .agg (dv x.1.x.r x.1.x.n) := h6 _ (Frm.refl _ w3)
        have e7 : val 7 = .bool false := h7 _ (Frm.refl _ w3)
        have e8 : val 8 = .bool true := h8 _ (Frm.refl _ w3)
        clear hT h0 h1 h2 h3 h4 h5 h6 h7 h8
        simp only [aO, Act.put, List.setIfInBounds_toArray, List.set_cons_zero, List.set_cons_succ, Nat.reduceAdd]
        try simp only [e8]
        try simp only [e7]
        try simp only [e6]
        try simp only [e5]
        try simp only [e4]
        try simp only [e3]
        try simp only [e2]
        try simp only [e1]
        try simp only [e0]
        try simp only [tupAt]
        refine wpTail.doneN ?_
        refine hK _ _ ?_
        have g3 := D.trans gW
        have c1 := (HB1.out w3 g3).cell 0 rfl
        have lE := HE.out w3 g3
        have f3 : Frm (fun _ => False) w3 (w3.alloc (.cells #[.int .u8 x.1.x.r, .int .u32 x.1.x.n, .bool x.1.is, .string (bs x.1.x.s), x.2] 91)) := (Frm.refl _ w3).alloc _
        have hone : KL (w3.alloc (.cells #[.int .u8 x.1.x.r, .int .u32 x.1.x.n, .bool x.1.is, .string (bs x.1.x.s), x.2] 91)) (.slice (some ⟨w3.heap.size, 0, none⟩) 1 1) [x] := ⟨Sl.built evc evc_len w3 91 x #[.int .u8 x.1.x.r, .int .u32 x.1.x.n, .bool x.1.is, .string (bs x.1.x.s), x.2] rfl, fun p hp => by
          obtain rfl := List.mem_singleton.1 hp
          exact (HOV.out w3 g3).keepF f3⟩
        obtain ⟨v6, w6, hrun, hrow, hgr, hnew⟩ := append_evs _ _ _ (bothP P (Q.take k)) [x] (Row.keep (Row.keep HR.out g3 (fun _ _ h => h)) f3 (fun _ _ h => h)) hone (by
          have h1 := bothP_len P (Q.take k)
          have h2 := List.length_take_le k Q
          simp only [List.length_singleton]
          omega)
        have HT6 := Lib.hid (show ∀ g, v6.ownBlock = some g → w1.heap.size ≤ g from fun g e => (hnew g e).elim (fun e => HN.out g e) (fun e => by have := f3.size; have := g3.size; have := HF.out.size; omega))
        have HF6 := Lib.hid (show Frm (fun _ => False) w1 w6 from ((HF.out.trans g3).trans f3).grown hgr (fun k hk e => by have := HN.out k e; omega))
        have HO6 := Lib.hid hrow
        have Hrun := Lib.hid hrun
        clear gW D hK g3 hrun hrow hgr hnew hone f3 e0 e1 e2 e3 e4 e5 e6 e7 e8
        go_wp2_with (first
          | ((with_reducible refine wpl_load rfl _ rfl ?_ lE ?_); (focus rfl))
          | (at_builtin; refine Lib.wpList_append_run _ rfl _ _ _ _ rfl _ _ rfl rfl _ _ Hrun.out ?_))
        go_roundw
        case rel => exact ⟨k + 1, by omega, by go_num, by rw [HT.out, if_neg (of_decide_eq_false HD.out)]; exact HO6.out, HT6.out, HF6.out⟩
        case measure => simp [intOf]; omega
    · obtain rfl : k = Q.length := by omega
      simp only [List.take_length] at hR hN ⊢
      obtain ⟨m, hm⟩ : ∃ m, (bothP P Q).length = m := ⟨_, rfl⟩
      have HM := Lib.hid hm
      rw [hm] at hR hN ⊢
      have b2 := HB2.out wr hF
      have HR := Lib.hid hR
      have HN := Lib.hid hN
      have HF := Lib.hid hF
      clear hR hN hF hm
      go_wp2_with ((with_reducible refine wpl_store_blk rfl 82 _ _ rfl (A + 1 + 1) #[.slice a4 m c4] #[.slice none 0 0] ?_ ?_ b2 rfl ?_ ?_ ?_); (focus rfl); (focus rfl); (focus (show _ = some 1; kernel_rfl)); (focus (simp [Value.oneCell'])); intro w5 e5 g5 z5; have r0 := e5.cell 0 rfl)
      refine bodyPost_ret (v := .agg #[.slice a4 m c4]) (by simp [results, Try.results40, go_sem, r0]) rfl ?_
      have g6 : Frm (fun _ => False) w w5 := (HG0.out.trans HF.out).next g5 (fun k hk e => by have e : k = A + 1 + 1 := e; have := HA.out; omega)
      refine ⟨_, rfl, ⟨by rw [HM.out]; exact Sl.ofRow (Row.keep HR.out g5 (fun g e h => by have h : g = A + 1 + 1 := h; have := HN.out g e; omega)), fun p hp => ?_⟩, fun g e => by have := HN.out g (HR.out.blkOf g e); have := HA.out; omega, g6⟩
      rcases bothP_mem hp with hp | hp
      · exact (H0.out.ov p hp).keepF g6
      · exact (HQ0.out.ov p hp).keepF g6
end Go.Proofs.Ytojbgckabifnjaa

