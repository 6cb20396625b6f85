/- The statement ValueBack, walked. -/
import Derived.Test.YtlajfmpgodcbmaaValZ
import Derived.Deep.Cut
namespace Go.Proofs.Ytlajfmpgodcbmaa
open Go.RowKit

theorem takeV_fit (l : List UInt8) (e : Nat) : (takeV l e).1.2.1 ≤ 256 ∧ ∀ x ∈ (takeV l e).1.2.2.1, x < 4294967296 := by
  have h1 : (headS l e).1.2.1 ≤ 256 := by
    unfold headS
    dsimp only
    split <;> split <;> (try split) <;> simp <;> omega
  unfold takeV
  dsimp only
  split
  · exact ⟨Nat.zero_le _, by simp⟩
  · split
    · exact ⟨Nat.zero_le _, by simp⟩
    · split
      · exact ⟨h1, idsS_fit _ _ _⟩
      · exact ⟨Nat.zero_le _, by simp⟩
theorem takeC_len (l : List UInt8) (e : Nat) : (takeC l e).1.2.1.length ≤ 256 := by
  have h1 : (headS l e).1.2.1 ≤ 256 := by
    unfold headS
    dsimp only
    split <;> split <;> (try split) <;> simp <;> omega
  unfold takeC
  dsimp only
  split
  · simp
  · split
    · simp
    · exact Nat.le_trans (nextS_len _ _ _) h1
theorem putV_len (d : Bool) (s : Int) (l : List Nat) : (putV d s l).1.length ≤ 30 := by
  unfold putV
  cases hok : okV d s l with
  | false => simp
  | true =>
    obtain ⟨h1, h2, h3, h4⟩ := okV_iff hok
    have := headB_len d s.toNat
    have h5 : l.length ≤ 4 := by rw [h3]; exact count_le (by cases d <;> simp [most] at h2 <;> omega)
    simp [idsB_len]
    omega
theorem putC_len (d : Bool) (t : List UInt8) (h : t.length ≤ 3000) : (putC d t).1.length ≤ 3010 := by
  unfold putC
  have := headB_len d t.length
  split
  · simp; omega
  · simp

set_option maxRecDepth 100000 in
set_option maxHeartbeats 8000000 in
theorem valueBack_any (d : Bool) (s : Int) (c : Value) (l : List Nat) (d2 : Bool) (t u : List UInt8) (w : World) (hs : I64 s) (h : Ids w c l) (hfit : ∀ x ∈ l, x < 4294967296) (ht : t.length ≤ 9223372036854775807) (hu : u.length ≤ 9223372036854775807) :
    Calls Try.prog 7 #[.agg (av d s c), .agg #[.bool d2, .string (bs t)], .string (bs u)] w fun e w' => e = .returned (.bool true) ∧ Frm (fun _ => False) w w' := by
  have g0 : Frm (fun _ => False) w ((w.alloc (.cells (av d s c) 24)).alloc (.cells #[.bool d2, .string (bs t)] 38)) := ((Frm.refl _ w).alloc _).alloc _
  have b0 : Blk ((w.alloc (.cells (av d s c) 24)).alloc (.cells #[.bool d2, .string (bs t)] 38)) w.heap.size 24 (av d s c) := (Blk.alloc w _ _).old _
  have b1 : Blk ((w.alloc (.cells (av d s c) 24)).alloc (.cells #[.bool d2, .string (bs t)] 38)) (w.heap.size + 1) 38 #[.bool d2, .string (bs t)] := by
    have h := Blk.alloc (w.alloc (.cells (av d s c) 24)) 38 #[.bool d2, .string (bs t)]
    simpa using h
  have FW := few_any d s c l _ (h.keepF g0)
  by_cases h1 : l.length ≤ 60
  case neg =>
    rw [decide_eq_false h1] at FW
    have HF := Lib.hid FW
    clear FW
    go_enter Try.func7, Try.ntmps7
    go_wp2_with fail
    refine HF.out.mono ?_
    rintro e w1 ⟨rfl, g1⟩
    go_wp2_with fail
    refine (wawake_any _).mono ?_
    rintro e w9 ⟨rfl, g9⟩
    go_wp2_with fail
    go_ret
    exact ⟨rfl, (g0.trans g1).trans g9⟩
  rw [decide_eq_true h1] at FW
  have HF := Lib.hid FW
  clear FW
  by_cases h2 : t.length ≤ 3000
  case neg =>
    have h2' : (3000 : Int) < ((bs t).size : Int) := by rw [bs_size]; omega
    go_enter Try.func7, Try.ntmps7
    go_wp2_with fail
    refine HF.out.mono ?_
    rintro e w1 ⟨rfl, g1⟩
    have y1 := (b1.keep g1 (fun h => h)).cell 1 rfl
    go_wp2_with fail
    refine (wawake_any _).mono ?_
    rintro e w9 ⟨rfl, g9⟩
    go_wp2_with fail
    go_ret
    exact ⟨rfl, (g0.trans g1).trans g9⟩
  have h2' : ((bs t).size : Int) ≤ 3000 := by rw [bs_size]; omega
  by_cases h3 : u.length ≤ 3000
  case neg =>
    have h3' : (3000 : Int) < ((bs u).size : Int) := by rw [bs_size]; omega
    go_enter Try.func7, Try.ntmps7
    go_wp2_with fail
    refine HF.out.mono ?_
    rintro e w1 ⟨rfl, g1⟩
    have y1 := (b1.keep g1 (fun h => h)).cell 1 rfl
    go_wp2_with fail
    refine (wawake_any _).mono ?_
    rintro e w9 ⟨rfl, g9⟩
    go_wp2_with fail
    go_ret
    exact ⟨rfl, (g0.trans g1).trans g9⟩
  have h3' : ((bs u).size : Int) ≤ 3000 := by rw [bs_size]; omega
  go_enter Try.func7, Try.ntmps7
  go_wp2_with fail
  refine HF.out.mono ?_
  rintro e w1 ⟨rfl, g1⟩
  have b0 := b0.keep g1 (fun h => h)
  have b1 := b1.keep g1 (fun h => h)
  have k1 := g0.trans g1
  have y0 := b0.cell 0 rfl
  have y1 := b0.cell 1 rfl
  have y2 := b0.cell 2 rfl
  have z0 := b1.cell 0 rfl
  have z1 := b1.cell 1 rfl
  clear g0 g1 HF
  go_wp2_with fail
  refine (put_any7 d s c l w1 hs (h.keepF k1) hfit).mono ?_
  rintro e w2 ⟨rfl, g2⟩
  have b0 := b0.keep g2 (fun h => h)
  have b1 := b1.keep g2 (fun h => h)
  have k2 := k1.trans g2
  have z0 := b1.cell 0 rfl
  have z1 := b1.cell 1 rfl
  clear g2 y0 y1 y2
  go_wp2_with fail
  refine (putc_any d2 t w2 h2).mono ?_
  rintro e w3 ⟨rfl, g3⟩
  have b0 := b0.keep g3 (fun h => h)
  have b1 := b1.keep g3 (fun h => h)
  have k3 := k2.trans g3
  clear g3 z0 z1
  have lA := putV_len d s l
  have lB := putC_len d2 t h2
  have hc0 := b1.lt
  obtain ⟨A, hA⟩ : ∃ A, (putV d s l).1 = A := ⟨_, rfl⟩
  obtain ⟨B, hB⟩ : ∃ B, (putC d2 t).1 = B := ⟨_, rfl⟩
  obtain ⟨ea, hea⟩ : ∃ ea, (putV d s l).2 = ea := ⟨_, rfl⟩
  obtain ⟨eb, heb⟩ : ∃ eb, (putC d2 t).2 = eb := ⟨_, rfl⟩
  rw [hA] at lA
  rw [hB] at lB
  rw [hA, hB, hea, heb]
  have HA := Lib.hid hA
  have HB := Lib.hid hB
  have Hea := Lib.hid hea
  have Heb := Lib.hid heb
  have e1 : bs A ++ bs B = bs (A ++ B) := bs_append _ _
  have e2 : bs (A ++ B) ++ bs u = bs (A ++ (B ++ u)) := by rw [bs_append, List.append_assoc]
  have e3 : (bs A).size ≤ 30 := by rw [bs_size]; omega
  have e4 : (bs B).size ≤ 3010 := by rw [bs_size]; omega
  have e5 : (bs (A ++ B)).size ≤ 3040 := by rw [bs_size, List.length_append]; omega
  have hl3 : (A ++ (B ++ u)).length ≤ 140737488355328 := by rw [List.length_append, List.length_append]; omega
  clear hA hB hea heb
  go_wp2_with fail
  refine (read_any (A ++ (B ++ u)) w3 hl3).mono ?_
  rintro e w4 ⟨rfl, r4, g4⟩
  have k4 := k3.trans g4
  have b0 := b0.keep g4 (fun h => h)
  have b1 := b1.keep g4 (fun h => h)
  have hw3 := k3.size
  have hr4 := r4.lt
  have hc1 := b1.lt
  clear e1 e2 e3 e4 e5 hl3 g4
  by_cases hea : ea = 0
  case neg =>
    have hea' : ((ea : Int) == 0) = false := by rw [beq_eq_false_iff_ne]; omega
    clear hea
    go_wp2_with fail
    refine (read_any u w4 (by omega)).mono ?_
    rintro e w6 ⟨rfl, r6, g6⟩
    have hw6 := r6.lt
    have hwW := k4.size
    have k6 := k4.trans g6
    go_wp2_with fail
    refine (read_any u w6 (by omega)).mono ?_
    rintro e w7 ⟨rfl, p7, g7⟩
    have r7 := r6.keep g7 (fun h => h)
    have k7 := k6.trans g7
    have hp7 := p7.lt
    obtain ⟨R, hR⟩ : ∃ R, w4.heap.size = R := ⟨_, rfl⟩
    obtain ⟨P, hP⟩ : ∃ P, w6.heap.size = P := ⟨_, rfl⟩
    rw [hR] at r7 hw6 hwW
    rw [hP] at p7 hw6 hp7
    rw [hP]
    clear r6 g6 g7 k6
    go_upto_region 14 with fail
    clear hR hP
    go_wp2_with fail
    refine (take_any7 R u 0 w7 r7).mono ?_
    rintro e w8 ⟨v1, rfl, o1, m1, r1, g1⟩
    have hfit2 := takeV_fit u 0
    obtain ⟨dd, nn, II, xx, l1', e1', hx⟩ : ∃ dd nn II xx l1' e1', takeV u 0 = ((dd, nn, II, xx), l1', e1') := ⟨_, _, _, _, _, _, rfl⟩
    simp only [hx] at o1 r1 hfit2 ⊢
    have HX := Lib.hid hx
    clear hx
    obtain ⟨hnn, hII⟩ := hfit2
    obtain ⟨a1, c1, rfl, _, _⟩ := Row.slice o1
    have p8 := p7.keep g1 (by omega)
    have k8 := k7.new g1 (fun j hj => by rw [hj]; exact hwW)
    have sV := g1.size
    have B1 := Blk.alloc w8 24 (av dd nn (.slice a1 II.length c1))
    have fa : Frm (fun _ => False) w8 (w8.alloc (.cells (av dd nn (.slice a1 II.length c1)) 24)) := (Frm.refl _ w8).alloc _
    have o1 := o1.keep fa (fun _ _ h => h)
    have r1 := r1.keep fa (fun h => h)
    have p8 := p8.keep fa (fun h => h)
    have k8 := k8.trans fa
    obtain ⟨V, hV⟩ : ∃ V, w8.heap.size = V := ⟨_, rfl⟩
    rw [hV] at B1 sV
    clear g1 r7 p7 k7 fa
    go_upto_region 15 with fail
    clear hV
    generalize w8.alloc (.cells (av dd nn (.slice a1 II.length c1)) 24) = w9 at *
    have hV9 := B1.lt
    go_wp2_with fail
    refine (takec_any P u 0 w9 p8).mono ?_
    rintro e w10 ⟨rfl, p1, g2⟩
    have htb := takeC_len u 0
    obtain ⟨db, tb, xb, l2', e2', hy⟩ : ∃ db tb xb l2' e2', takeC u 0 = ((db, tb, xb), l2', e2') := ⟨_, _, _, _, _, rfl⟩
    simp only [hy] at p1 htb ⊢
    have HY := Lib.hid hy
    clear hy
    have r1 := r1.keep g2 (by omega)
    have B1 := B1.keep g2 (by omega)
    have o1 := o1.keep g2 (fun g hg => by have := m1 g hg; omega)
    have k9 := k8.new g2 (fun j hj => by rw [hj]; omega)
    have B2 := Blk.alloc w10 38 #[.bool db, .string (bs tb)]
    have fa : Frm (fun _ => False) w10 (w10.alloc (.cells #[.bool db, .string (bs tb)] 38)) := (Frm.refl _ w10).alloc _
    have o1 := o1.keep fa (fun _ _ h => h)
    have r1 := r1.keep fa (fun h => h)
    have p1 := p1.keep fa (fun h => h)
    have B1 := B1.keep fa (fun h => h)
    have k9 := k9.trans fa
    obtain ⟨C, hC⟩ : ∃ C, w10.heap.size = C := ⟨_, rfl⟩
    rw [hC] at B2
    clear g2 p8 k8 fa m1
    go_upto_region 16 with fail
    clear hC
    generalize w10.alloc (.cells #[.bool db, .string (bs tb)] 38) = w11 at *
    have i0 := B1.cell 0 rfl
    have i1 := B1.cell 1 rfl
    have i2 := B1.cell 2 rfl
    go_wp2_with fail
    refine (put_any7 dd nn _ II w11 (by unfold I64; omega) o1.ids hII).mono ?_
    rintro e w12 ⟨rfl, g3⟩
    have r2 := r1.keep g3 (fun h => h)
    have p2 := p1.keep g3 (fun h => h)
    have B2 := B2.keep g3 (fun h => h)
    have k10 := k9.trans g3
    have j0 := B2.cell 0 rfl
    have j1 := B2.cell 1 rfl
    clear i0 i1 i2 B1 o1 r1 p1 g3 k9
    go_wp2_with fail
    refine (putc_any db tb w12 (by omega)).mono ?_
    rintro e w13 ⟨rfl, g4⟩
    have r3 := r2.keep g4 (fun h => h)
    have p3 := p2.keep g4 (fun h => h)
    have k11 := k10.trans g4
    clear j0 j1 B2 r2 p2 g4 k10
    by_cases hx0 : xx = 0
    · subst hx0
      obtain ⟨q1, q2⟩ := takeV_back HX.out
      have ep : putV dd nn II = (headB dd nn ++ idsB II, 0) := by unfold putV; rw [q1, Int.toNat_natCast]; rfl
      rw [ep]
      have ex : bs (headB dd nn ++ idsB II) ++ bs l1' = bs u := by rw [bs_append, ← q2]
      have ez : (bs (headB dd nn ++ idsB II)).size + (bs l1').size ≤ 3000 := by rw [bs_size, bs_size, ← List.length_append, ← q2]; omega
      have eu : ((bs u).toList == (bs u).toList) = true := beq_self_eq_true _
      generalize bs (headB dd nn ++ idsB II) = X1 at *
      clear ep q1 q2
      by_cases hy0 : xb = 0
      · subst hy0
        obtain ⟨q1, q2⟩ := takeC_back HY.out
        have ep2 : putC db tb = (headB db tb.length ++ tb, 0) := by unfold putC; rw [if_pos q1]
        rw [ep2]
        have ex2 : bs (headB db tb.length ++ tb) ++ bs l2' = bs u := by rw [bs_append, ← q2]
        have ez2 : (bs (headB db tb.length ++ tb)).size + (bs l2').size ≤ 3000 := by rw [bs_size, bs_size, ← List.length_append, ← q2]; omega
        generalize bs (headB db tb.length ++ tb) = X2 at *
        clear ep2 q1 q2
        go_wp2_with fail
        refine (rest_any R l1' e1' w13 r3).mono ?_
        rintro e w14 ⟨rfl, rfl⟩
        go_wp2_with fail
        refine (rest_any P l2' e2' w13 p3).mono ?_
        rintro e w14 ⟨rfl, rfl⟩
        go_wp2_with fail
        refine (wawake_any w13).mono ?_
        rintro e w15 ⟨rfl, g5⟩
        go_wp2_with fail
        go_ret
        exact ⟨rfl, k11.trans g5⟩
      · have hy1 : ((xb : Int) != 0) = true := by rw [bne_iff_ne]; omega
        generalize (putC db tb).1 = Y1
        generalize (putC db tb).2 = Y2
        clear hy0
        go_wp2_with fail
        refine (rest_any R l1' e1' w13 r3).mono ?_
        rintro e w14 ⟨rfl, rfl⟩
        go_wp2_with fail
        refine (wawake_any w13).mono ?_
        rintro e w15 ⟨rfl, g5⟩
        go_wp2_with fail
        go_ret
        exact ⟨rfl, k11.trans g5⟩
    · have hx1 : ((xx : Int) != 0) = true := by rw [bne_iff_ne]; omega
      have eu : ((bs u).toList == (bs u).toList) = true := beq_self_eq_true _
      generalize (putV dd nn II).1 = Z1
      generalize (putV dd nn II).2 = Z2
      clear hx0
      by_cases hy0 : xb = 0
      · subst hy0
        obtain ⟨q1, q2⟩ := takeC_back HY.out
        have ep2 : putC db tb = (headB db tb.length ++ tb, 0) := by unfold putC; rw [if_pos q1]
        rw [ep2]
        have ex2 : bs (headB db tb.length ++ tb) ++ bs l2' = bs u := by rw [bs_append, ← q2]
        have ez2 : (bs (headB db tb.length ++ tb)).size + (bs l2').size ≤ 3000 := by rw [bs_size, bs_size, ← List.length_append, ← q2]; omega
        generalize bs (headB db tb.length ++ tb) = X2 at *
        clear ep2 q1 q2
        go_wp2_with fail
        refine (rest_any P l2' e2' w13 p3).mono ?_
        rintro e w14 ⟨rfl, rfl⟩
        go_wp2_with fail
        refine (wawake_any w13).mono ?_
        rintro e w15 ⟨rfl, g5⟩
        go_wp2_with fail
        go_ret
        exact ⟨rfl, k11.trans g5⟩
      · have hy1 : ((xb : Int) != 0) = true := by rw [bne_iff_ne]; omega
        generalize (putC db tb).1 = Y1
        generalize (putC db tb).2 = Y2
        clear hy0
        go_wp2_with fail
        refine (wawake_any w13).mono ?_
        rintro e w15 ⟨rfl, g5⟩
        go_wp2_with fail
        go_ret
        exact ⟨rfl, k11.trans g5⟩
  subst hea
  by_cases heb : eb = 0
  case neg =>
    have heb' : ((eb : Int) == 0) = false := by rw [beq_eq_false_iff_ne]; omega
    clear heb
    go_wp2_with fail
    refine (read_any u w4 (by omega)).mono ?_
    rintro e w6 ⟨rfl, r6, g6⟩
    have hw6 := r6.lt
    have hwW := k4.size
    have k6 := k4.trans g6
    go_wp2_with fail
    refine (read_any u w6 (by omega)).mono ?_
    rintro e w7 ⟨rfl, p7, g7⟩
    have r7 := r6.keep g7 (fun h => h)
    have k7 := k6.trans g7
    have hp7 := p7.lt
    obtain ⟨R, hR⟩ : ∃ R, w4.heap.size = R := ⟨_, rfl⟩
    obtain ⟨P, hP⟩ : ∃ P, w6.heap.size = P := ⟨_, rfl⟩
    rw [hR] at r7 hw6 hwW
    rw [hP] at p7 hw6 hp7
    rw [hP]
    clear r6 g6 g7 k6
    go_upto_region 14 with fail
    clear hR hP
    go_wp2_with fail
    refine (take_any7 R u 0 w7 r7).mono ?_
    rintro e w8 ⟨v1, rfl, o1, m1, r1, g1⟩
    have hfit2 := takeV_fit u 0
    obtain ⟨dd, nn, II, xx, l1', e1', hx⟩ : ∃ dd nn II xx l1' e1', takeV u 0 = ((dd, nn, II, xx), l1', e1') := ⟨_, _, _, _, _, _, rfl⟩
    simp only [hx] at o1 r1 hfit2 ⊢
    have HX := Lib.hid hx
    clear hx
    obtain ⟨hnn, hII⟩ := hfit2
    obtain ⟨a1, c1, rfl, _, _⟩ := Row.slice o1
    have p8 := p7.keep g1 (by omega)
    have k8 := k7.new g1 (fun j hj => by rw [hj]; exact hwW)
    have sV := g1.size
    have B1 := Blk.alloc w8 24 (av dd nn (.slice a1 II.length c1))
    have fa : Frm (fun _ => False) w8 (w8.alloc (.cells (av dd nn (.slice a1 II.length c1)) 24)) := (Frm.refl _ w8).alloc _
    have o1 := o1.keep fa (fun _ _ h => h)
    have r1 := r1.keep fa (fun h => h)
    have p8 := p8.keep fa (fun h => h)
    have k8 := k8.trans fa
    obtain ⟨V, hV⟩ : ∃ V, w8.heap.size = V := ⟨_, rfl⟩
    rw [hV] at B1 sV
    clear g1 r7 p7 k7 fa
    go_upto_region 15 with fail
    clear hV
    generalize w8.alloc (.cells (av dd nn (.slice a1 II.length c1)) 24) = w9 at *
    have hV9 := B1.lt
    go_wp2_with fail
    refine (takec_any P u 0 w9 p8).mono ?_
    rintro e w10 ⟨rfl, p1, g2⟩
    have htb := takeC_len u 0
    obtain ⟨db, tb, xb, l2', e2', hy⟩ : ∃ db tb xb l2' e2', takeC u 0 = ((db, tb, xb), l2', e2') := ⟨_, _, _, _, _, rfl⟩
    simp only [hy] at p1 htb ⊢
    have HY := Lib.hid hy
    clear hy
    have r1 := r1.keep g2 (by omega)
    have B1 := B1.keep g2 (by omega)
    have o1 := o1.keep g2 (fun g hg => by have := m1 g hg; omega)
    have k9 := k8.new g2 (fun j hj => by rw [hj]; omega)
    have B2 := Blk.alloc w10 38 #[.bool db, .string (bs tb)]
    have fa : Frm (fun _ => False) w10 (w10.alloc (.cells #[.bool db, .string (bs tb)] 38)) := (Frm.refl _ w10).alloc _
    have o1 := o1.keep fa (fun _ _ h => h)
    have r1 := r1.keep fa (fun h => h)
    have p1 := p1.keep fa (fun h => h)
    have B1 := B1.keep fa (fun h => h)
    have k9 := k9.trans fa
    obtain ⟨C, hC⟩ : ∃ C, w10.heap.size = C := ⟨_, rfl⟩
    rw [hC] at B2
    clear g2 p8 k8 fa m1
    go_upto_region 16 with fail
    clear hC
    generalize w10.alloc (.cells #[.bool db, .string (bs tb)] 38) = w11 at *
    have i0 := B1.cell 0 rfl
    have i1 := B1.cell 1 rfl
    have i2 := B1.cell 2 rfl
    go_wp2_with fail
    refine (put_any7 dd nn _ II w11 (by unfold I64; omega) o1.ids hII).mono ?_
    rintro e w12 ⟨rfl, g3⟩
    have r2 := r1.keep g3 (fun h => h)
    have p2 := p1.keep g3 (fun h => h)
    have B2 := B2.keep g3 (fun h => h)
    have k10 := k9.trans g3
    have j0 := B2.cell 0 rfl
    have j1 := B2.cell 1 rfl
    clear i0 i1 i2 B1 o1 r1 p1 g3 k9
    go_wp2_with fail
    refine (putc_any db tb w12 (by omega)).mono ?_
    rintro e w13 ⟨rfl, g4⟩
    have r3 := r2.keep g4 (fun h => h)
    have p3 := p2.keep g4 (fun h => h)
    have k11 := k10.trans g4
    clear j0 j1 B2 r2 p2 g4 k10
    by_cases hx0 : xx = 0
    · subst hx0
      obtain ⟨q1, q2⟩ := takeV_back HX.out
      have ep : putV dd nn II = (headB dd nn ++ idsB II, 0) := by unfold putV; rw [q1, Int.toNat_natCast]; rfl
      rw [ep]
      have ex : bs (headB dd nn ++ idsB II) ++ bs l1' = bs u := by rw [bs_append, ← q2]
      have ez : (bs (headB dd nn ++ idsB II)).size + (bs l1').size ≤ 3000 := by rw [bs_size, bs_size, ← List.length_append, ← q2]; omega
      have eu : ((bs u).toList == (bs u).toList) = true := beq_self_eq_true _
      generalize bs (headB dd nn ++ idsB II) = X1 at *
      clear ep q1 q2
      by_cases hy0 : xb = 0
      · subst hy0
        obtain ⟨q1, q2⟩ := takeC_back HY.out
        have ep2 : putC db tb = (headB db tb.length ++ tb, 0) := by unfold putC; rw [if_pos q1]
        rw [ep2]
        have ex2 : bs (headB db tb.length ++ tb) ++ bs l2' = bs u := by rw [bs_append, ← q2]
        have ez2 : (bs (headB db tb.length ++ tb)).size + (bs l2').size ≤ 3000 := by rw [bs_size, bs_size, ← List.length_append, ← q2]; omega
        generalize bs (headB db tb.length ++ tb) = X2 at *
        clear ep2 q1 q2
        go_wp2_with fail
        refine (rest_any R l1' e1' w13 r3).mono ?_
        rintro e w14 ⟨rfl, rfl⟩
        go_wp2_with fail
        refine (rest_any P l2' e2' w13 p3).mono ?_
        rintro e w14 ⟨rfl, rfl⟩
        go_wp2_with fail
        refine (wawake_any w13).mono ?_
        rintro e w15 ⟨rfl, g5⟩
        go_wp2_with fail
        go_ret
        exact ⟨rfl, k11.trans g5⟩
      · have hy1 : ((xb : Int) != 0) = true := by rw [bne_iff_ne]; omega
        generalize (putC db tb).1 = Y1
        generalize (putC db tb).2 = Y2
        clear hy0
        go_wp2_with fail
        refine (rest_any R l1' e1' w13 r3).mono ?_
        rintro e w14 ⟨rfl, rfl⟩
        go_wp2_with fail
        refine (wawake_any w13).mono ?_
        rintro e w15 ⟨rfl, g5⟩
        go_wp2_with fail
        go_ret
        exact ⟨rfl, k11.trans g5⟩
    · have hx1 : ((xx : Int) != 0) = true := by rw [bne_iff_ne]; omega
      have eu : ((bs u).toList == (bs u).toList) = true := beq_self_eq_true _
      generalize (putV dd nn II).1 = Z1
      generalize (putV dd nn II).2 = Z2
      clear hx0
      by_cases hy0 : xb = 0
      · subst hy0
        obtain ⟨q1, q2⟩ := takeC_back HY.out
        have ep2 : putC db tb = (headB db tb.length ++ tb, 0) := by unfold putC; rw [if_pos q1]
        rw [ep2]
        have ex2 : bs (headB db tb.length ++ tb) ++ bs l2' = bs u := by rw [bs_append, ← q2]
        have ez2 : (bs (headB db tb.length ++ tb)).size + (bs l2').size ≤ 3000 := by rw [bs_size, bs_size, ← List.length_append, ← q2]; omega
        generalize bs (headB db tb.length ++ tb) = X2 at *
        clear ep2 q1 q2
        go_wp2_with fail
        refine (rest_any P l2' e2' w13 p3).mono ?_
        rintro e w14 ⟨rfl, rfl⟩
        go_wp2_with fail
        refine (wawake_any w13).mono ?_
        rintro e w15 ⟨rfl, g5⟩
        go_wp2_with fail
        go_ret
        exact ⟨rfl, k11.trans g5⟩
      · have hy1 : ((xb : Int) != 0) = true := by rw [bne_iff_ne]; omega
        generalize (putC db tb).1 = Y1
        generalize (putC db tb).2 = Y2
        clear hy0
        go_wp2_with fail
        refine (wawake_any w13).mono ?_
        rintro e w15 ⟨rfl, g5⟩
        go_wp2_with fail
        go_ret
        exact ⟨rfl, k11.trans g5⟩
  subst heb
  have hokV : okV d s l = true := by
    cases hok : okV d s l with
    | true => rfl
    | false => have := Hea.out; unfold putV at this; rw [hok] at this; simp at this
  have hokC : t.length ≤ most d2 := by
    have := Heb.out
    unfold putC at this
    by_cases hq : t.length ≤ most d2
    · exact hq
    · rw [if_neg hq] at this; simp at this
  have hAe : A = headB d s.toNat ++ idsB l := by rw [← HA.out]; unfold putV; rw [hokV]; rfl
  have hBe : B = headB d2 t.length ++ t := by rw [← HB.out]; unfold putC; rw [if_pos hokC]
  have hT1 : takeV (A ++ (B ++ u)) 0 = ((d, s.toNat, l, 0), B ++ u, 0) := by rw [hAe]; exact takeV_app d s l (B ++ u) hokV hfit
  have hT2 : takeC (B ++ u) 0 = ((d2, t, 0), u, 0) := by rw [hBe]; exact takeC_app d2 t u hokC
  have hs0 : ((s.toNat : Nat) : Int) = s := by have := (okV_iff hokV).1; omega
  clear hAe hBe
  have T1 := take_any7 _ _ _ _ r4
  rw [hT1] at T1
  simp only [hs0] at T1
  have HT1 := Lib.hid T1
  clear T1 hT1 hs0 r4
  obtain ⟨R0, hR0⟩ : ∃ R0, w3.heap.size = R0 := ⟨_, rfl⟩
  rw [hR0] at HT1 hw3 hr4 hc0
  rw [hR0]
  go_upto_region 9 with fail
  clear hR0
  go_wp2_with fail
  refine HT1.out.mono ?_
  rintro e w5 ⟨v5, rfl, o5, m5, r5, g5⟩
  obtain ⟨a5, c5, rfl, _, _⟩ := Row.slice o5
  have b0 := b0.keep g5 (by omega)
  have b1 := b1.keep g5 (by omega)
  have k5 := k4.new g5 (fun j hj => by rw [hj]; exact hw3)
  have s5 := g5.size
  have B5 := Blk.alloc w5 24 (av d s (.slice a5 l.length c5))
  have fa : Frm (fun _ => False) w5 (w5.alloc (.cells (av d s (.slice a5 l.length c5)) 24)) := (Frm.refl _ w5).alloc _
  have o5 := o5.keep fa (fun _ _ h => h)
  have r5 := r5.keep fa (fun h => h)
  have b0 := b0.keep fa (fun h => h)
  have b1 := b1.keep fa (fun h => h)
  have k5 := k5.trans fa
  obtain ⟨V5, hV5⟩ : ∃ V5, w5.heap.size = V5 := ⟨_, rfl⟩
  rw [hV5] at B5 s5
  clear g5 fa HT1
  go_upto_region 10 with fail
  clear hV5
  generalize w5.alloc (.cells (av d s (.slice a5 l.length c5)) 24) = w16 at *
  have T2 := takec_any _ _ _ _ r5
  rw [hT2] at T2
  have HT2 := Lib.hid T2
  have h16 := B5.lt
  clear T2 hT2 r5
  go_wp2_with fail
  refine HT2.out.mono ?_
  rintro e w17 ⟨rfl, r17, g17⟩
  have b0 := b0.keep g17 (by omega)
  have b1 := b1.keep g17 (by omega)
  have B5 := B5.keep g17 (by omega)
  have o5 := o5.keep g17 (fun g hg => by have := m5 g hg; omega)
  have k17 := k5.new g17 (fun j hj => by rw [hj]; exact hw3)
  have s17 := g17.size
  have B6 := Blk.alloc w17 38 #[.bool d2, .string (bs t)]
  have fa : Frm (fun _ => False) w17 (w17.alloc (.cells #[.bool d2, .string (bs t)] 38)) := (Frm.refl _ w17).alloc _
  have o5 := o5.keep fa (fun _ _ h => h)
  have r18 := r17.keep fa (fun h => h)
  have b0 := b0.keep fa (fun h => h)
  have b1 := b1.keep fa (fun h => h)
  have B5 := B5.keep fa (fun h => h)
  have k18 := k17.trans fa
  obtain ⟨V6, hV6⟩ : ∃ V6, w17.heap.size = V6 := ⟨_, rfl⟩
  rw [hV6] at B6
  clear g17 fa HT2 r17
  go_upto_region 11 with fail
  clear hV6
  generalize w17.alloc (.cells #[.bool d2, .string (bs t)] 38) = w18 at *
  have S := same_any d s _ l d s c l w18 o5.ids (h.keepF k18)
  have es : sameV d s l d s l = true := by simp [sameV]
  rw [es] at S
  have HS := Lib.hid S
  clear S es
  have i0 := B5.cell 0 rfl
  have i1 := B5.cell 1 rfl
  have i2 := B5.cell 2 rfl
  have j0 := b0.cell 0 rfl
  have j1 := b0.cell 1 rfl
  have j2 := b0.cell 2 rfl
  go_wp2_with fail
  refine HS.out.mono ?_
  rintro e w19 ⟨rfl, g19⟩
  clear i0 i1 i2 j0 j1 j2
  have f0 := (B6.keep g19 (fun h => h)).cell 0 rfl
  have f1 := (B6.keep g19 (fun h => h)).cell 1 rfl
  have f2 := (b1.keep g19 (fun h => h)).cell 0 rfl
  have f3 := (b1.keep g19 (fun h => h)).cell 1 rfl
  have r19 := r18.keep g19 (fun h => h)
  have k19 := k18.trans g19
  have hE : ∀ W, (Op.equalIn 10000 38 (.agg #[.bool d2, .string (bs t)]) (.agg #[.bool d2, .string (bs t)])).run Try.prog W = .ok true W := fun W => by rw [run_eq_con]; simp
  have hu0 : ((bs u).toList != (bs u).toList) = false := bne_self_eq_false _
  go_wp2_with fail
  refine (rest_any R0 u 0 w19 r19).mono ?_
  rintro e w20 ⟨rfl, rfl⟩
  clear f0 f1 f2 f3 hE
  go_wp2_with fail
  refine (read_any u w19 (by omega)).mono ?_
  rintro e w6 ⟨rfl, r6, g6⟩
  have hw6 := r6.lt
  have hwW := k19.size
  have k6 := k19.trans g6
  go_wp2_with fail
  refine (read_any u w6 (by omega)).mono ?_
  rintro e w7 ⟨rfl, p7, g7⟩
  have r7 := r6.keep g7 (fun h => h)
  have k7 := k6.trans g7
  have hp7 := p7.lt
  obtain ⟨R, hR⟩ : ∃ R, w19.heap.size = R := ⟨_, rfl⟩
  obtain ⟨P, hP⟩ : ∃ P, w6.heap.size = P := ⟨_, rfl⟩
  rw [hR] at r7 hw6 hwW
  rw [hP] at p7 hw6 hp7
  rw [hP]
  clear r6 g6 g7 k6
  go_upto_region 14 with fail
  clear hR hP
  go_wp2_with fail
  refine (take_any7 R u 0 w7 r7).mono ?_
  rintro e w8 ⟨v1, rfl, o1, m1, r1, g1⟩
  have hfit2 := takeV_fit u 0
  obtain ⟨dd, nn, II, xx, l1', e1', hx⟩ : ∃ dd nn II xx l1' e1', takeV u 0 = ((dd, nn, II, xx), l1', e1') := ⟨_, _, _, _, _, _, rfl⟩
  simp only [hx] at o1 r1 hfit2 ⊢
  have HX := Lib.hid hx
  clear hx
  obtain ⟨hnn, hII⟩ := hfit2
  obtain ⟨a1, c1, rfl, _, _⟩ := Row.slice o1
  have p8 := p7.keep g1 (by omega)
  have k8 := k7.new g1 (fun j hj => by rw [hj]; exact hwW)
  have sV := g1.size
  have B1 := Blk.alloc w8 24 (av dd nn (.slice a1 II.length c1))
  have fa : Frm (fun _ => False) w8 (w8.alloc (.cells (av dd nn (.slice a1 II.length c1)) 24)) := (Frm.refl _ w8).alloc _
  have o1 := o1.keep fa (fun _ _ h => h)
  have r1 := r1.keep fa (fun h => h)
  have p8 := p8.keep fa (fun h => h)
  have k8 := k8.trans fa
  obtain ⟨V, hV⟩ : ∃ V, w8.heap.size = V := ⟨_, rfl⟩
  rw [hV] at B1 sV
  clear g1 r7 p7 k7 fa
  go_upto_region 15 with fail
  clear hV
  generalize w8.alloc (.cells (av dd nn (.slice a1 II.length c1)) 24) = w9 at *
  have hV9 := B1.lt
  go_wp2_with fail
  refine (takec_any P u 0 w9 p8).mono ?_
  rintro e w10 ⟨rfl, p1, g2⟩
  have htb := takeC_len u 0
  obtain ⟨db, tb, xb, l2', e2', hy⟩ : ∃ db tb xb l2' e2', takeC u 0 = ((db, tb, xb), l2', e2') := ⟨_, _, _, _, _, rfl⟩
  simp only [hy] at p1 htb ⊢
  have HY := Lib.hid hy
  clear hy
  have r1 := r1.keep g2 (by omega)
  have B1 := B1.keep g2 (by omega)
  have o1 := o1.keep g2 (fun g hg => by have := m1 g hg; omega)
  have k9 := k8.new g2 (fun j hj => by rw [hj]; omega)
  have B2 := Blk.alloc w10 38 #[.bool db, .string (bs tb)]
  have fa : Frm (fun _ => False) w10 (w10.alloc (.cells #[.bool db, .string (bs tb)] 38)) := (Frm.refl _ w10).alloc _
  have o1 := o1.keep fa (fun _ _ h => h)
  have r1 := r1.keep fa (fun h => h)
  have p1 := p1.keep fa (fun h => h)
  have B1 := B1.keep fa (fun h => h)
  have k9 := k9.trans fa
  obtain ⟨C, hC⟩ : ∃ C, w10.heap.size = C := ⟨_, rfl⟩
  rw [hC] at B2
  clear g2 p8 k8 fa m1
  go_upto_region 16 with fail
  clear hC
  generalize w10.alloc (.cells #[.bool db, .string (bs tb)] 38) = w11 at *
  have i0 := B1.cell 0 rfl
  have i1 := B1.cell 1 rfl
  have i2 := B1.cell 2 rfl
  go_wp2_with fail
  refine (put_any7 dd nn _ II w11 (by unfold I64; omega) o1.ids hII).mono ?_
  rintro e w12 ⟨rfl, g3⟩
  have r2 := r1.keep g3 (fun h => h)
  have p2 := p1.keep g3 (fun h => h)
  have B2 := B2.keep g3 (fun h => h)
  have k10 := k9.trans g3
  have j0 := B2.cell 0 rfl
  have j1 := B2.cell 1 rfl
  clear i0 i1 i2 B1 o1 r1 p1 g3 k9
  go_wp2_with fail
  refine (putc_any db tb w12 (by omega)).mono ?_
  rintro e w13 ⟨rfl, g4⟩
  have r3 := r2.keep g4 (fun h => h)
  have p3 := p2.keep g4 (fun h => h)
  have k11 := k10.trans g4
  clear j0 j1 B2 r2 p2 g4 k10
  by_cases hx0 : xx = 0
  · subst hx0
    obtain ⟨q1, q2⟩ := takeV_back HX.out
    have ep : putV dd nn II = (headB dd nn ++ idsB II, 0) := by unfold putV; rw [q1, Int.toNat_natCast]; rfl
    rw [ep]
    have ex : bs (headB dd nn ++ idsB II) ++ bs l1' = bs u := by rw [bs_append, ← q2]
    have ez : (bs (headB dd nn ++ idsB II)).size + (bs l1').size ≤ 3000 := by rw [bs_size, bs_size, ← List.length_append, ← q2]; omega
    have eu : ((bs u).toList == (bs u).toList) = true := beq_self_eq_true _
    generalize bs (headB dd nn ++ idsB II) = X1 at *
    clear ep q1 q2
    by_cases hy0 : xb = 0
    · subst hy0
      obtain ⟨q1, q2⟩ := takeC_back HY.out
      have ep2 : putC db tb = (headB db tb.length ++ tb, 0) := by unfold putC; rw [if_pos q1]
      rw [ep2]
      have ex2 : bs (headB db tb.length ++ tb) ++ bs l2' = bs u := by rw [bs_append, ← q2]
      have ez2 : (bs (headB db tb.length ++ tb)).size + (bs l2').size ≤ 3000 := by rw [bs_size, bs_size, ← List.length_append, ← q2]; omega
      generalize bs (headB db tb.length ++ tb) = X2 at *
      clear ep2 q1 q2
      go_wp2_with fail
      refine (rest_any R l1' e1' w13 r3).mono ?_
      rintro e w14 ⟨rfl, rfl⟩
      go_wp2_with fail
      refine (rest_any P l2' e2' w13 p3).mono ?_
      rintro e w14 ⟨rfl, rfl⟩
      go_wp2_with fail
      refine (wawake_any w13).mono ?_
      rintro e w15 ⟨rfl, g5⟩
      go_wp2_with fail
      go_ret
      exact ⟨rfl, k11.trans g5⟩
    · have hy1 : ((xb : Int) != 0) = true := by rw [bne_iff_ne]; omega
      generalize (putC db tb).1 = Y1
      generalize (putC db tb).2 = Y2
      clear hy0
      go_wp2_with fail
      refine (rest_any R l1' e1' w13 r3).mono ?_
      rintro e w14 ⟨rfl, rfl⟩
      go_wp2_with fail
      refine (wawake_any w13).mono ?_
      rintro e w15 ⟨rfl, g5⟩
      go_wp2_with fail
      go_ret
      exact ⟨rfl, k11.trans g5⟩
  · have hx1 : ((xx : Int) != 0) = true := by rw [bne_iff_ne]; omega
    have eu : ((bs u).toList == (bs u).toList) = true := beq_self_eq_true _
    generalize (putV dd nn II).1 = Z1
    generalize (putV dd nn II).2 = Z2
    clear hx0
    by_cases hy0 : xb = 0
    · subst hy0
      obtain ⟨q1, q2⟩ := takeC_back HY.out
      have ep2 : putC db tb = (headB db tb.length ++ tb, 0) := by unfold putC; rw [if_pos q1]
      rw [ep2]
      have ex2 : bs (headB db tb.length ++ tb) ++ bs l2' = bs u := by rw [bs_append, ← q2]
      have ez2 : (bs (headB db tb.length ++ tb)).size + (bs l2').size ≤ 3000 := by rw [bs_size, bs_size, ← List.length_append, ← q2]; omega
      generalize bs (headB db tb.length ++ tb) = X2 at *
      clear ep2 q1 q2
      go_wp2_with fail
      refine (rest_any P l2' e2' w13 p3).mono ?_
      rintro e w14 ⟨rfl, rfl⟩
      go_wp2_with fail
      refine (wawake_any w13).mono ?_
      rintro e w15 ⟨rfl, g5⟩
      go_wp2_with fail
      go_ret
      exact ⟨rfl, k11.trans g5⟩
    · have hy1 : ((xb : Int) != 0) = true := by rw [bne_iff_ne]; omega
      generalize (putC db tb).1 = Y1
      generalize (putC db tb).2 = Y2
      clear hy0
      go_wp2_with fail
      refine (wawake_any w13).mono ?_
      rintro e w15 ⟨rfl, g5⟩
      go_wp2_with fail
      go_ret
      exact ⟨rfl, k11.trans g5⟩
end Go.Proofs.Ytlajfmpgodcbmaa
