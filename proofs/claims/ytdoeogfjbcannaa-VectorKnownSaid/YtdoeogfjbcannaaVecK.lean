/- What the document's own Take, TakeDot answer: the same. Of any reader. No condition but the reader's own. -/
import Derived.Test.YtdoeogfjbcannaaVecJ
import Derived.Test.YtdoeogfjbcannaaRefN
namespace Go.Proofs.Ytdoeogfjbcannaa
open Go.RowKit

/-- Is one of the first k numbers that m indicates 0? -/
def bdV (m : Nat) (l : List UInt8) (e : Nat) : Nat → Bool
  | 0 => false
  | k + 1 => if m / 2 ^ k % 2 = 1 then bdV m l e k || decide ((varS (rdV m l e k).2.1 (rdV m l e k).2.2).1 = 0) else bdV m l e k
theorem mk8_congr {f g : Nat → Nat} : ∀ k, (∀ j, j < k → f j = g j) → mk8 f k = mk8 g k := by
  intro k
  induction k with
  | zero => intro _; rfl
  | succ k ih =>
    intro h
    simp only [mk8]
    rw [ih fun j hj => h j (by omega), h k (by omega)]
theorem rdV_zero (m : Nat) (l : List UInt8) (e : Nat) : ∀ k j, k ≤ j → (rdV m l e k).1 j = 0 := by
  intro k
  induction k with
  | zero => intro j _; rfl
  | succ k ih =>
    intro j hj
    simp only [rdV]
    split
    · simp only [upd8]
      rw [if_neg (by omega)]
      exact ih j (by omega)
    · exact ih j (by omega)
theorem rdV_marks (m : Nat) (l : List UInt8) (e : Nat) : ∀ k, mk8 (rdV m l e k).1 k ≤ m % 2 ^ k ∧ (mk8 (rdV m l e k).1 k = m % 2 ^ k ↔ bdV m l e k = false) := by
  intro k
  induction k with
  | zero => simp [mk8, bdV, Nat.mod_one]
  | succ k ih =>
    have hm : m % 2 ^ (k + 1) = m % 2 ^ k + 2 ^ k * (m / 2 ^ k % 2) := Nat.mod_pow_succ
    have hp : 0 < 2 ^ k := Nat.pow_pos (by omega)
    obtain ⟨h1, h2⟩ := ih
    by_cases hb : m / 2 ^ k % 2 = 1
    · have hr : (rdV m l e (k + 1)).1 = upd8 (rdV m l e k).1 k (varS (rdV m l e k).2.1 (rdV m l e k).2.2).1 := by simp [rdV, hb]
      have hd : bdV m l e (k + 1) = (bdV m l e k || decide ((varS (rdV m l e k).2.1 (rdV m l e k).2.2).1 = 0)) := by simp [bdV, hb]
      have hc : mk8 (rdV m l e (k + 1)).1 k = mk8 (rdV m l e k).1 k := mk8_congr k fun j hj => by rw [hr]; simp only [upd8]; rw [if_neg (by omega)]
      have hv : (rdV m l e (k + 1)).1 k = (varS (rdV m l e k).2.1 (rdV m l e k).2.2).1 := by rw [hr]; simp [upd8]
      simp only [mk8]
      rw [hc, hv, hm, hb, hd]
      generalize (varS (rdV m l e k).2.1 (rdV m l e k).2.2).1 = n at *
      generalize mk8 (rdV m l e k).1 k = M at *
      generalize bdV m l e k = B at *
      by_cases hn : 0 < n
      · rw [if_pos hn, decide_eq_false (by omega), Bool.or_false, ← h2]
        omega
      · rw [if_neg hn, decide_eq_true (by omega), Bool.or_true]
        refine ⟨by omega, fun h => by omega, fun h => by cases h⟩
    · have h0 : m / 2 ^ k % 2 = 0 := by omega
      have hr : rdV m l e (k + 1) = rdV m l e k := by simp [rdV, hb]
      have hd : bdV m l e (k + 1) = bdV m l e k := by simp [bdV, hb]
      simp only [mk8]
      rw [hr, rdV_zero m l e k k (Nat.le_refl _), if_neg (by omega), hm, h0, hd, Nat.mul_zero, Nat.add_zero]
      exact ⟨h1, h2⟩
theorem rdV_good (m : Nat) (hm : m < 256) (l : List UInt8) (e : Nat) : mk8 (rdV m l e 8).1 8 = m ↔ bdV m l e 8 = false := by
  have h := (rdV_marks m l e 8).2
  rw [show m % 2 ^ 8 = m by omega] at h
  exact h

/-- A store of a whole vector, in a region that asks for its order, under an S that it keeps. -/
theorem CanonL.storeV {ops : Array Oper} {S : World → Prop} {F : Act → Prop} {os : List Oper} {a : Act} {o : Oper} (hw : Region.wanted o (yielded ops a.tmps) = true) (x y : Operand) (ho : o.op = .store 24 x y)
    (b : Nat) (f : Nat → Nat) (hx : a.eval x = .pointer (some ⟨b, 0, none⟩)) (hy : a.eval y = .agg (vv f)) (hS : ∀ w, S w → ∃ old, Blk w b 24 old ∧ old.size = 8)
    (hS2 : ∀ w w', S w → Blk w' b 24 (vv f) → Frm (· = b) w w' → S w') (hK : CanonL Try.prog ops S F os (a.put o.dst undef)) : CanonL Try.prog ops S F (o :: os) a := by
  refine ⟨undef, .inl ⟨hw, fun w hs => ?_⟩, hK⟩
  obtain ⟨old, h1, h2⟩ := hS w hs
  have hr := run_storeVar_row (P := Try.prog) w b 24 24 old (vv f) h1 (by rw [vv_size]; kernel_rfl) (by rw [h2, vv_size]) (by simp [Value.oneCell'])
  have hb : Blk (w.setRow b (vv f)) b 24 (vv f) := by
    simp only [Blk] at h1
    simp only [Blk, World.setRow, Array.getElem?_modify]
    simp [h1]
  have hfr : Frm (· = b) w (w.setRow b (vv f)) := by
    refine ⟨rfl, rfl, rfl, by simp [World.setRow], fun k _ hk => ?_⟩
    simp only [World.setRow, Array.getElem?_modify]
    rw [if_neg (fun e => hk e.symm)]
  have hs2 := hS2 w _ hs hb hfr
  unfold execOp
  simp only [ho, hx, hy, Instr.storeAt, Instr.sureAddr, Sem.run_bind, Sem.run_pure, Result.andThen_ok, hr]
  first | exact ⟨rfl, hs2⟩ | exact hs2

set_option maxRecDepth 100000 in
set_option maxHeartbeats 2000000 in
theorem rtake_any8 (b : Nat) (t l : List UInt8) (e : Nat) (w : World) (h : Rq w b t l e) : Calls Try.prog 24 #[.pointer (some ⟨b, 0, none⟩)] w (fun r w' =>
    r = .returned (.tuple #[.agg (vv (takeS l e).1), .int .i64 (takeS l e).2]) ∧ Rq w' b t (readV l e).2.1 (readV l e).2.2 ∧ Frm (· = b) w w') := by
  have hbl := h.lt
  have g0 : Frm (fun _ => False) w ((w.alloc (Obj.cells vz 24)).alloc (Obj.cells vz 24)) := ((Frm.refl _ w).alloc _).alloc _
  have b0 : Blk ((w.alloc (Obj.cells vz 24)).alloc (Obj.cells vz 24)) w.heap.size 24 vz := (Blk.alloc w _ _).old _
  have b1 : Blk ((w.alloc (Obj.cells vz 24)).alloc (Obj.cells vz 24)) (w.heap.size + 1) 24 vz := Blk.at1 w _ _ _
  have r0 := h.keep g0 (fun h => h)
  have hm : (numS 1 l e).1 < 256 := beN_lt 1 _ (nextS_len 1 l e)
  have HT := Lib.hid (show takeS l e = judgeV (numS 1 l e).1 (rdV (numS 1 l e).1 (numS 1 l e).2.1 (numS 1 l e).2.2 8) from rfl)
  have HR := Lib.hid (show readV l e = rdV (numS 1 l e).1 (numS 1 l e).2.1 (numS 1 l e).2.2 8 from rfl)
  generalize takeS l e = TS at *
  generalize readV l e = RS at *
  go_enter Try.func24, Try.ntmps24
  go_wp2_with ((with_reducible refine wpl_store_vec rfl _ _ rfl (w.heap.size + 1) (fun _ => 0) vz ?_ ?_ b1 rfl ?_); (focus rfl); (focus rfl); intro w5 e5 g5 z5)
  have r1 := r0.keep g5 (by omega)
  have d0 := b0.keep g5 (by omega)
  have k0 := (g0.mono (Y := (· = b)) (fun _ _ h => h.elim)).next g5 (fun j hj h => by omega)
  clear b0 b1 r0 g0 g5 z5 h
  refine (q_number 1 b t l e _ r1 (by omega)).mono ?_
  rintro e1 w1 ⟨rfl, r2, g1⟩
  have c0 := d0.keep g1 (by omega)
  have c1 := e5.keep g1 (by omega)
  have k1 := k0.trans g1
  clear d0 e5 r1 k0 g1
  generalize (numS 1 l e).1 = m at *
  generalize (numS 1 l e).2.1 = l1 at *
  generalize (numS 1 l e).2.2 = e1 at *
  go_wp2_with fail
  go_loopw [5, 6, 7] (fun x y i wr => ∃ k : Nat, k ≤ 8 ∧ i = .int .i64 k ∧ x = .int .u32 (m / 2 ^ k : Nat) ∧ y = .bool (bdV m l1 e1 k) ∧ Blk wr w.heap.size 24 vz ∧ Blk wr (w.heap.size + 1) 24 (vv (rdV m l1 e1 k).1) ∧ Rq wr b t (rdV m l1 e1 k).2.1 (rdV m l1 e1 k).2.2 ∧ Frm (· = b) w wr) (fun _ _ i _ => 8 - (intOf i).toNat)
  case atStart => exact ⟨0, by omega, rfl, by rw [Nat.pow_zero, Nat.div_one], rfl, c0, c1, r2, k1⟩
  case round =>
    clear c0 c1 r2 k1
    obtain ⟨k, hk, rfl, rfl, rfl, d0, d1, r1, k1⟩ := hrel
    by_cases hk8 : k < 8
    · have hki : (k : Int) < 8 := by omega
      have hk0 : (0 : Int) ≤ (k : Int) := by omega
      have HD := Lib.hid (show ((m / 2 ^ k : Nat) : Int) / 2 = ((m / 2 ^ (k + 1) : Nat) : Int) by rw [Nat.pow_succ, ← Nat.div_div_eq_div_mul]; omega)
      have hdm : m / 2 ^ k ≤ m := Nat.div_le_self _ _
      by_cases h0 : m / 2 ^ k % 2 = 1
      · have hq1 : (((m / 2 ^ k : Nat) : Int) % 2 == 1) = true := by rw [beq_iff_eq]; omega
        have HS := Lib.hid (show rdV m l1 e1 (k + 1) = (upd8 (rdV m l1 e1 k).1 k (varS (rdV m l1 e1 k).2.1 (rdV m l1 e1 k).2.2).1, (varS (rdV m l1 e1 k).2.1 (rdV m l1 e1 k).2.2).2) by simp [rdV, h0])
        have HB := Lib.hid (show bdV m l1 e1 (k + 1) = (bdV m l1 e1 k || decide ((varS (rdV m l1 e1 k).2.1 (rdV m l1 e1 k).2.2).1 = 0)) by simp [bdV, h0])
        have hvl := varS_lt (rdV m l1 e1 k).2.1 (rdV m l1 e1 k).2.2
        clear h0
        generalize rdV m l1 e1 k = p at *
        generalize bdV m l1 e1 k = B at *
        generalize m / 2 ^ k = D at *
        go_wp2_with fail
        refine (q_var b t p.2.1 p.2.2 _ r1).mono ?_
        rintro e2 w2 ⟨rfl, r2, g2⟩
        have c0 := d0.keep g2 (by omega)
        have c1 := d1.keep g2 (by omega)
        have k2 := k1.trans g2
        have c1c := vblk_cell c1 hk8
        have c1f := c1.free k
        clear d0 d1 r1 k1 g2
        generalize (varS p.2.1 p.2.2).1 = n at *
        generalize (varS p.2.1 p.2.2).2 = s at *
        cases B with
        | true =>
          go_wp2_with ((with_reducible refine wpl_store_at rfl _ _ rfl (w.heap.size + 1) k n p.1 hk8 ?_ ?_ c1 ?_); (focus rfl); (focus rfl); intro w4 e4 g4 z4)
          go_roundw
          case rel => exact ⟨k + 1, by omega, by go_num, by first | (rw [← HD.out]; done) | (rw [← HD.out]; go_num), by rw [HB.out]; rfl, c0.keep g4 (by omega), by rw [HS.out]; exact e4, by rw [HS.out]; exact r2.keep g4 (by omega), k2.next g4 (fun j hj h => by omega)⟩
          case measure => simp [intOf]; omega
        | false =>
          have hn0 : ((n : Int) == 0) = decide (n = 0) := by rw [Bool.eq_iff_iff, beq_iff_eq, decide_eq_true_eq]; omega
          go_wp2_with ((with_reducible refine wpl_store_at rfl _ _ rfl (w.heap.size + 1) k n p.1 hk8 ?_ ?_ c1 ?_); (focus rfl); (focus rfl); intro w4 e4 g4 z4)
          go_roundw
          case rel => exact ⟨k + 1, by omega, by go_num, by first | (rw [← HD.out]; done) | (rw [← HD.out]; go_num), by rw [HB.out]; first | rfl | simp, c0.keep g4 (by omega), by rw [HS.out]; exact e4, by rw [HS.out]; exact r2.keep g4 (by omega), k2.next g4 (fun j hj h => by omega)⟩
          case measure => simp [intOf]; omega
      · have hq1 : (((m / 2 ^ k : Nat) : Int) % 2 == 1) = false := by rw [beq_eq_false_iff_ne]; omega
        have HS := Lib.hid (show rdV m l1 e1 (k + 1) = rdV m l1 e1 k by simp [rdV, h0])
        have HB := Lib.hid (show bdV m l1 e1 (k + 1) = bdV m l1 e1 k by simp [bdV, h0])
        clear h0
        generalize rdV m l1 e1 k = p at *
        generalize bdV m l1 e1 k = B at *
        generalize m / 2 ^ k = D at *
        go_wp2_with fail
        go_roundw
        case rel => exact ⟨k + 1, by omega, by go_num, by first | (rw [← HD.out]; done) | (rw [← HD.out]; go_num), by rw [HB.out], d0, by rw [HS.out]; exact d1, by rw [HS.out]; exact r1, k1⟩
        case measure => simp [intOf]; omega
    · obtain rfl : k = 8 := by omega
      have hfit : Fit8 (rdV m l1 e1 8).1 := fun j _ => rdV_fit m l1 e1 8 j
      have hgood := rdV_good m hm l1 e1
      clear hk8 hk
      generalize rdV m l1 e1 8 = p at *
      generalize bdV m l1 e1 8 = B at *
      have x2 := r1.c2
      have dd := d0
      rw [vz_eq] at dd
      by_cases he : p.2.2 = 0
      · have hed : ((p.2.2 : Int) != 0) = false := by rw [he]; rfl
        have V := fun w => rmay_any p.1 w
        have hl1 := vcells d1
        cases B with
        | true =>
          have HJ := Lib.hid (show judgeV m p = (fun _ => 0, 4) by
            have : ¬ mk8 p.1 8 = m := fun h => by have := hgood.1 h; cases this
            simp [judgeV, he, this])
          clear he hgood V
          go_wp2_with ((with_reducible refine wpl_store_vec rfl _ _ rfl w.heap.size (fun _ => 0) vz ?_ ?_ d0 rfl ?_); (focus rfl); (focus rfl); intro w5 e5 g5 z5; have h5 := vcells e5)
          refine bodyPost_ret (v := .tuple #[.agg (vv fun _ => 0), .int .i64 4]) (by simp [results, Try.results24, go_sem, h5]) rfl ?_
          rw [HT.out, HR.out, HJ.out]
          exact ⟨rfl, r1.keep g5 (by omega), k1.next g5 (fun j hj h => by omega)⟩
        | false =>
          have hmm : mk8 p.1 8 = m := hgood.2 rfl
          by_cases hmx : mx p.1 8 ≤ 65535
          · have HJ := Lib.hid (show judgeV m p = (p.1, 0) by simp [judgeV, he, hmm, hmx])
            rw [decide_eq_true hmx] at V
            have HV := Lib.hid V
            clear V hmx hmm he hgood
            go_wp2_with fail
            refine (HV.out _).mono ?_
            rintro e4 w4 ⟨rfl, g4⟩
            have c0 := d0.keep g4 (fun h => h)
            have c1 := d1.keep g4 (fun h => h)
            have rr := r1.keep g4 (fun h => h)
            have kk := k1.trans (g4.mono (fun _ _ h => h.elim))
            clear hl1 d0 d1 g4 x2 dd
            have hl1 := vcells c1
            go_wp2_with ((with_reducible refine wpl_store_vec rfl _ _ rfl w.heap.size p.1 vz ?_ ?_ c0 rfl ?_); (focus rfl); (focus rfl); intro w5 e5 g5 z5; have h5 := vcells e5)
            refine bodyPost_ret (v := .tuple #[.agg (vv p.1), .int .i64 0]) (by simp [results, Try.results24, go_sem, h5]) rfl ?_
            rw [HT.out, HR.out, HJ.out]
            exact ⟨rfl, rr.keep g5 (by omega), kk.next g5 (fun j hj h => by omega)⟩
          · have HJ := Lib.hid (show judgeV m p = (fun _ => 0, 4) by simp [judgeV, he, hmx])
            rw [decide_eq_false hmx] at V
            have HV := Lib.hid V
            clear V hmx hmm he hgood
            go_wp2_with fail
            refine (HV.out _).mono ?_
            rintro e4 w4 ⟨rfl, g4⟩
            have c0 := d0.keep g4 (fun h => h)
            have rr := r1.keep g4 (fun h => h)
            have kk := k1.trans (g4.mono (fun _ _ h => h.elim))
            clear hl1 d0 d1 g4 x2 dd
            go_wp2_with ((with_reducible refine wpl_store_vec rfl _ _ rfl w.heap.size (fun _ => 0) vz ?_ ?_ c0 rfl ?_); (focus rfl); (focus rfl); intro w5 e5 g5 z5; have h5 := vcells e5)
            refine bodyPost_ret (v := .tuple #[.agg (vv fun _ => 0), .int .i64 4]) (by simp [results, Try.results24, go_sem, h5]) rfl ?_
            rw [HT.out, HR.out, HJ.out]
            exact ⟨rfl, rr.keep g5 (by omega), kk.next g5 (fun j hj h => by omega)⟩
      · have hed : ((p.2.2 : Int) != 0) = true := by simpa using he
        have hJ : judgeV m p = (fun _ => 0, p.2.2) := by simp [judgeV, he]
        have HJ := Lib.hid hJ
        clear hJ he hgood
        go_wp2_with fail
        refine wp_region_canon (fun w' => w'.cell? ⟨b, 2, none⟩ = some (.int .i64 p.2.2) ∧ Blk w' w.heap.size 24 (vv fun _ => 0) ∧ Rq w' b t p.2.1 p.2.2 ∧ Frm (· = b) w w') (by kernel_rfl) rfl (by kernel_rfl) (by kernel_rfl) ⟨x2, dd, r1, k1.drew⟩ ?_
        repeat' first
          | (refine CanonL.skip (by rfl) ?_; (try simp only [Act.put, List.setIfInBounds_toArray, List.set_cons_zero, List.set_cons_succ]))
          | (refine CanonL.storeV (by rfl) _ _ rfl w.heap.size (fun _ => 0) ?_ ?_ ?_ ?_ ?_; (focus rfl); (focus rfl); (focus (intro w4 h4; exact ⟨_, h4.2.1, rfl⟩)); (focus (intro w4 w6 h4 hb4 hg4; exact ⟨(h4.2.2.1.keep hg4 (by omega)).c2, hb4, h4.2.2.1.keep hg4 (by omega), h4.2.2.2.next hg4 (fun j hj h => by omega)⟩)); (try simp only [Act.put]))
          | (refine CanonL.val (v := ?_) (by rfl) ?_ ?_; rotate_left 1; (focus (intro w hSw; (try dsimp only at hSw); go_simp; (try (with_reducible rfl)); done)); (try simp only [Act.put, List.setIfInBounds_toArray, List.set_cons_zero, List.set_cons_succ]))
        refine CanonL.done ?_
        intro w9 hS9
        obtain ⟨_, e9, r9, k9⟩ := hS9
        have h5 := vcells e9
        go_wp2_with fail
        refine bodyPost_ret (v := .tuple #[.agg (vv fun _ => 0), .int .i64 p.2.2]) (by simp [results, Try.results24, go_sem, h5]) rfl ?_
        rw [HT.out, HR.out, HJ.out]
        exact ⟨rfl, r9, k9⟩
end Go.Proofs.Ytdoeogfjbcannaa
