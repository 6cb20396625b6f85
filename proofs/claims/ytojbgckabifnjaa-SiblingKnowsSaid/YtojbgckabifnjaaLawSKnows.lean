/- Of any acts the statement SiblingKnows answers true. No condition. -/
import Derived.Test.YtojbgckabifnjaaKnD
import Derived.Test.YtojbgckabifnjaaSibX
import Derived.Test.YtojbgckabifnjaaSwC
import Derived.Test.YtojbgckabifnjaaLate
namespace Go.Proofs.Ytojbgckabifnjaa
open Go.RowKit

theorem OneIs.dot {F : Nat → Nat → Nat} {L : Nat → List SibI} {x : SActI} {f : Nat → Nat} {l : List SibI} {p q : Nat} {Dv : List DotI} (ho : OneIs F L x f l p q Dv 0) (hm : x.k % 5 < 3) : p < 256 ∧ q < 4294967296 := by
  have hr : x.r % 4 < 4 := by omega
  unfold OneIs at ho
  generalize x.r % 4 = r at *
  rcases ho with ⟨_, hD, hw⟩ | ⟨_, hD, hw⟩ | ⟨h3, _⟩
  · have h0 : (dropS (F r) (L r) r Dv).2.2.2 = 0 := by
      by_cases c : (dropS (F r) (L r) r Dv).2.2.2 = 0
      · exact c
      · unfold writeS at hw
        rw [if_neg c] at hw
        exact (Prod.mk.inj (Prod.mk.inj (Prod.mk.inj hw).2).2).2
    obtain ⟨h1, h2, h3, h4⟩ := dropS_ok h0
    unfold writeS at hw
    rw [if_pos h0, h4] at hw
    simp only at hw
    by_cases c : 8 ≤ ((L r).filter (fun x => !decide (x.d ∈ Dv))).length
    · rw [if_pos c] at hw
      exact absurd (Prod.mk.inj (Prod.mk.inj (Prod.mk.inj hw).2).2).2 (by decide)
    · rw [if_neg c] at hw
      obtain ⟨e3, e4⟩ := Prod.mk.inj (Prod.mk.inj (Prod.mk.inj (Prod.mk.inj hw).2).2).1
      omega
  · have h0 : (dropS (F r) (L r) r Dv).2.2.2 = 0 := by rw [hw]
    obtain ⟨h1, h2, h3, h4⟩ := dropS_ok h0
    rw [h4] at hw
    obtain ⟨e3, e4⟩ := Prod.mk.inj (Prod.mk.inj (Prod.mk.inj (Prod.mk.inj hw).2).2).1
    omega
  · omega
theorem evOf_at {x : SActI} {p q : Nat} {Dv : List DotI} (h1 : p < 256) (h2 : q < 4294967296) : (evOf x p q Dv).x.r = p ∧ (evOf x p q Dv).x.n = q ∧ (evOf x p q Dv).is = decide (x.k % 5 < 2) ∧ (evOf x p q Dv).x.s = x.s := by
  unfold evOf
  simp only [mkSib_eq h1 h2 x.hs]
  exact ⟨trivial, trivial, trivial, trivial⟩
section
variable {ops : Array Oper} {Q : Exit → Act → World → Prop} {r m : Nat} {a : Act} {W : World}
theorem wpTail.store_kn {o : Oper} (hi : ops[r]? = some o) (hgd : o.guard = none) (hd : o.dst = none) (x y : Operand) (ho : o.op = .store 82 x y)
    (b i : Nat) (u : Nat → Value) (v : Value) (hv : ∃ al n c, v = .slice al n c) (hx : a.eval x = .pointer (some ⟨b, i, none⟩)) (hy : a.eval y = .agg #[v]) (h : Blk W b 83 (kc u)) (hlt : i < 4)
    (hK : ∀ w', Blk w' b 83 (kc (setF u i v)) → Frm (· = b) W w' → wpTail Try.prog ops Q (r + 1) m a w') : wpTail Try.prog ops Q r (m + 1) a W := by
  obtain ⟨al, n, c, rfl⟩ := hv
  have c0 := h.cell i (kc_at u i hlt)
  have f0 := h.free i
  have a3 := Try.isAgg82
  have z3 := Try.sizeOf82
  refine wpTail.cons hi hgd fun K hK' => ?_
  unfold Oper.wp execOp
  simp only [ho, hx, hy]
  go_simp
  refine hK' _ _ (hK _ ?_ ?_)
  · rw [← kc_set u i hlt]; exact h.set i _
  · exact (Frm.refl (· = b) W).setCell (p := ⟨b, i, none⟩) (fun _ => rfl) _
end
def sk16M : List Nat := [1, 2, 6, 14, 16, 32, 96, 224, 480, 512, 1536, 2048, 6144, 16368, 32766, 32769, 131071]
def sk16R (A : Nat) (S : Nat) (r : Nat) (m : Nat) (u : Nat → Value) (Q : Nat → List (EvI × Value)) (x : SActI) (p1 : Nat) (q1 : Nat) (vo : Value) (Dv : List DotI) (b2 : Bool) : List ((Nat → Value) → World → Prop) := [
  fun val _ => val 0 = .int .i64 (r : Int),
  fun val _ => val 1 = .int .i64 (r : Int),
  fun val _ => val 2 = .pointer (some ⟨A + 1, r, none⟩),
  fun val _ => val 3 = .agg #[u r],
  fun val _ => val 4 = .agg (dv p1 q1),
  fun val _ => val 5 = .pointer (some ⟨S, 0, none⟩),
  fun val _ => val 6 = .int .u8 (x.k : Int),
  fun val _ => val 7 = .int .u8 (m : Int),
  fun val _ => val 8 = .bool b2,
  fun val _ => val 9 = .pointer (some ⟨S, 4, none⟩),
  fun val _ => val 10 = .string (bs x.s),
  fun val _ => val 11 = vo,
  fun val W => ∃ z, (val 12) = z ∧ DL W z Dv ∧ (∀ g, blkOf z = some g → g ≠ A ∧ g ≠ A + 1) ∧ ∃ az cz, z = .slice az Dv.length cz,
  fun val _ => val 13 = .agg #[.int .u8 (p1 : Int), .int .u32 (q1 : Int), .bool b2, .string (bs x.s), (val 12)],
  fun val W => ∃ u' z, (val 14) = .agg #[u'] ∧ KL W u' (Q r ++ [(evOf x p1 q1 Dv, z)]) ∧ (∀ g, blkOf u' = some g → g ≠ A ∧ g ≠ A + 1) ∧ (∀ g, blkOf z = some g → g ≠ A ∧ g ≠ A + 1),
  fun val _ => val 15 = .pointer (some ⟨A + 1, r, none⟩)]
def sk17M : List Nat := [1, 2, 6, 14, 16, 48, 112, 240, 496, 1022, 1025, 4095]
def sk17R (A : Nat) (S : Nat) (r : Nat) (jj : Nat) (u : Nat → Value) (Q : Nat → List (EvI × Value)) (x : SActI) : List ((Nat → Value) → World → Prop) := [
  fun val _ => val 0 = .int .i64 (r : Int),
  fun val _ => val 1 = .int .i64 (r : Int),
  fun val _ => val 2 = .pointer (some ⟨A + 1, r, none⟩),
  fun val _ => val 3 = .agg #[u r],
  fun val _ => val 4 = .pointer (some ⟨S, 2, none⟩),
  fun val _ => val 5 = .int .u8 (x.m : Int),
  fun val _ => val 6 = .int .u8 (jj : Int),
  fun val _ => val 7 = .pointer (some ⟨A + 1, jj, none⟩),
  fun val _ => val 8 = .agg #[u jj],
  fun val W => ∃ u', (val 9) = .agg #[u'] ∧ KL W u' (bothP (Q r) (Q jj)) ∧ ∀ g, blkOf u' = some g → g ≠ A ∧ g ≠ A + 1,
  fun val _ => val 10 = .pointer (some ⟨A + 1, r, none⟩)]
def sk18M : List Nat := [1, 3, 7, 15, 16, 48, 112, 240, 511, 1023]
def sk18R (A : Nat) (r : Nat) (F : Nat → Nat → Nat) (V : Nat → Value) (L : Nat → List SibI) (u : Nat → Value) (Q : Nat → List (EvI × Value)) : List ((Nat → Value) → World → Prop) := [
  fun val _ => val 0 = .int .i64 (r : Int),
  fun val _ => val 1 = .pointer (some ⟨A, r * 9, none⟩),
  fun val _ => val 2 = rg (F r) (V r),
  fun val W => ∃ z, (val 3) = rg (F r) z ∧ SL W z (L r),
  fun val _ => val 4 = .int .i64 (r : Int),
  fun val _ => val 5 = .pointer (some ⟨A + 1, r, none⟩),
  fun val _ => val 6 = .agg #[u r],
  fun val W => ∃ z, (val 7) = rg (ctxK (fun _ => 0) ((Q r).map Prod.fst)) z ∧ SL W z (sibK ((Q r).map Prod.fst) [] ((Q r).map Prod.fst)),
  fun val _ => val 8 = .bool true,
  fun val _ => val 9 = .bool false]

set_option maxRecDepth 100000 in
set_option maxHeartbeats 8000000 in
theorem siblingKnows_any (v : Value) (l : List SActI) (w : World) (h : AcL w v l) :
    Calls Try.prog 6 #[v] w fun e w' => e = .returned (.bool true) ∧ Frm (fun _ => False) w w' := by
  obtain ⟨a, cap, rfl, h1, h2⟩ := h.slice
  unfold maxLen at h2
  have HWK := Lib.hid sworks_any
  go_enter Try.func6, Try.ntmps6
  go_upto_region 1 with fail
  by_cases hq : smallS l
  rotate_left
  · have HC := Lib.hid (small_no _ l w h hq)
    clear hq
    go_wp2_with fail
    refine HC.out.mono ?_
    rintro e w1 ⟨rfl, rfl⟩
    go_wp2_with fail
    refine (HWK.out w).mono ?_
    rintro e w2 ⟨rfl, g⟩
    go_wp2_with fail
    go_ret
    exact ⟨rfl, g⟩
  have HC := Lib.hid (small_yes _ l w h hq)
  have hl40 := hq.1
  clear hq
  go_wp2_with fail
  refine HC.out.mono ?_
  rintro e w1 ⟨rfl, rfl⟩
  go_upto_region 6 with fail
  clear HC
  have J0 : MK w ((w.alloc (.cells #[.int .u32 0, .int .u32 0, .int .u32 0, .int .u32 0, .int .u32 0, .int .u32 0, .int .u32 0, .int .u32 0, .slice none 0 0, .int .u32 0, .int .u32 0, .int .u32 0, .int .u32 0, .int .u32 0, .int .u32 0, .int .u32 0, .int .u32 0, .slice none 0 0, .int .u32 0, .int .u32 0, .int .u32 0, .int .u32 0, .int .u32 0, .int .u32 0, .int .u32 0, .int .u32 0, .slice none 0 0, .int .u32 0, .int .u32 0, .int .u32 0, .int .u32 0, .int .u32 0, .int .u32 0, .int .u32 0, .int .u32 0, .slice none 0 0] 79)).alloc (.cells #[.slice none 0 0, .slice none 0 0, .slice none 0 0, .slice none 0 0] 83)) w.heap.size (fun _ _ => 0) (fun _ => .slice none 0 0) (fun _ => []) (fun _ => .slice none 0 0) (fun _ => []) :=
    ⟨(AllB.start w 79).keep ((Frm.refl (fun _ => False) _).alloc _) (fun h => h), Blk.at1 w _ _ _, fun k _ => (OwnL.nil_ _).sl, fun k _ g e => (by cases e), fun k _ => KL.nil_ _, fun k _ g e => (by cases e), fun k _ p hp => (by cases hp), ((Frm.refl _ w).alloc _).alloc _⟩
  obtain ⟨A, hA⟩ : ∃ A, w.heap.size = A := ⟨_, rfl⟩
  have HAe : Hid (w.heap.size ≤ A) := Lib.hid (Nat.le_of_eq hA)
  rw [hA] at J0 ⊢
  have HAc : Hid (∀ W, Frm (fun _ => False) w W → AcL W (.slice a l.length cap) l) := Lib.hid fun W g => h.keepF g
  clear hA h
  go_loopw [5] (fun i wr => ∃ (k : Nat) (E : List EvI) (F : Nat → Nat → Nat) (V : Nat → Value) (L : Nat → List SibI) (u : Nat → Value) (Q : Nat → List (EvI × Value)), k ≤ l.length ∧ i = .int .i64 k ∧ MK w wr A F V L u Q ∧ HK E F L k (fun i => (Q i).map Prod.fst)) (fun i _ => l.length - (intOf i).toNat)
  case atStart => exact ⟨0, [], _, _, _, _, _, Nat.zero_le _, rfl, J0, HK.start⟩
  case round =>
    obtain ⟨k, E, F, V, L, u, Q, hk, rfl, hM0, hH0⟩ := hrel
    have HM0 := Lib.hid hM0
    have HH := Lib.hid hH0
    clear hM0 hH0 J0
    by_cases hlt : k < l.length
    · obtain ⟨g, off, rfl, x0, x1, x2, x3, x4⟩ := (HAc.out wr HM0.out.frm).cells k hlt
      obtain ⟨x, hx⟩ : ∃ x, l[k] = x := ⟨_, rfl⟩
      rw [hx] at x0 x1 x2 x3 x4
      have hki : (k : Int) < (l.length : Int) := by omega
      have hk0 : (0 : Int) ≤ (k : Int) := by omega
      have HK40 : Hid (k ≤ 40) := Lib.hid (by omega)
      obtain ⟨n, hn⟩ : ∃ n, l.length = n := ⟨_, rfl⟩
      have HLN := Lib.hid hn
      obtain ⟨r, hr0⟩ : ∃ r, x.r % 4 = r := ⟨_, rfl⟩
      have hr : r < 4 := by omega
      have hri : (r : Int) < 4 := by omega
      have hri0 : (0 : Int) ≤ (r : Int) := by omega
      have HR := Lib.hid hr0
      rw [hn] at hki hl40 h1 ⊢
      clear hx hn
      have gA : Frm (fun _ => False) wr (wr.alloc (.cells #[.int .u8 x.k, .int .u8 x.r, .int .u8 x.m, .int .u8 x.o, .string (bs x.s)] 85)) := (Frm.refl _ wr).alloc _
      have bA : Blk (wr.alloc (.cells #[.int .u8 x.k, .int .u8 x.r, .int .u8 x.m, .int .u8 x.o, .string (bs x.s)] 85)) wr.heap.size 85 #[.int .u8 x.k, .int .u8 x.r, .int .u8 x.m, .int .u8 x.o, .string (bs x.s)] := Blk.alloc wr _ _
      have y1 := bA.cell 1 rfl
      have hgo := (HAc.out wr HM0.out.frm)
      clear hgo
      go_upto_region 10 with fail
      rw [show ((x.r : Int) % 4) = (r : Int) by omega]
      clear x0 x1 x2 x3 x4 y1 hr0
      obtain ⟨w2, hw2⟩ : ∃ w2, wr.alloc (.cells #[.int .u8 x.k, .int .u8 x.r, .int .u8 x.m, .int .u8 x.o, .string (bs x.s)] 85) = w2 := ⟨_, rfl⟩
      rw [hw2] at gA bA ⊢
      clear hw2
      obtain ⟨S, hS⟩ : ∃ S, wr.heap.size = S := ⟨_, rfl⟩
      have HSA : Hid (A + 1 < S) := Lib.hid (by have := HM0.out.kn.lt; omega)
      rw [hS] at bA ⊢
      clear hS
      have hM2 := HM0.out.keep gA
      have HONE := Lib.hid (one_any A F V L x w2 hM2.all hM2.sl HH.out.hist.fit HH.out.hist.few)
      have HM2 := Lib.hid hM2
      have HBA := Lib.hid bA
      have HGA := Lib.hid gA
      have HS2 : Hid (S < w2.heap.size) := Lib.hid bA.lt
      have z0 := bA.cell 0 rfl
      have z1 := bA.cell 1 rfl
      have z2 := bA.cell 2 rfl
      have z3 := bA.cell 3 rfl
      have z4 := bA.cell 4 rfl
      clear gA bA hM2
      go_wp2_with fail
      refine HONE.out.mono ?_
      rintro e w3 ⟨f1, v1, l1, p1, q1, vo, Dv, er, rfl, o1, n1, oD, nD, g3, hOne⟩
      obtain ⟨a1, c1, rfl, hv1, hv2⟩ := o1.slice
      clear z0 z1 z2 z3 z4 HONE
      have b8 : Blk ((w3.alloc (.cells (rgc f1 (.slice a1 l1.length c1)) 39)).alloc (.cells (dv p1 q1) 27)) w3.heap.size 39 (rgc f1 (.slice a1 l1.length c1)) := (Blk.alloc w3 _ _).old _
      have b9 : Blk ((w3.alloc (.cells (rgc f1 (.slice a1 l1.length c1)) 39)).alloc (.cells (dv p1 q1) 27)) (w3.heap.size + 1) 27 (dv p1 q1) := Blk.at1 w3 _ _ _
      have g4 : Frm (fun _ => False) w3 ((w3.alloc (.cells (rgc f1 (.slice a1 l1.length c1)) 39)).alloc (.cells (dv p1 q1) 27)) := ((Frm.refl _ w3).alloc _).alloc _
      go_upto_region 11 with fail
      obtain ⟨w4, hw4⟩ : ∃ w4, (w3.alloc (.cells (rgc f1 (.slice a1 l1.length c1)) 39)).alloc (.cells (dv p1 q1) 27) = w4 := ⟨_, rfl⟩
      rw [hw4] at b8 b9 g4
      first | rw [hw4] | (rw [show (w3.alloc (.cells #[.int .u32 (f1 0 : Int), .int .u32 (f1 1 : Int), .int .u32 (f1 2 : Int), .int .u32 (f1 3 : Int), .int .u32 (f1 4 : Int), .int .u32 (f1 5 : Int), .int .u32 (f1 6 : Int), .int .u32 (f1 7 : Int), .slice a1 l1.length c1] 39)).alloc (.cells #[.int .u8 (p1 : Int), .int .u32 (q1 : Int)] 27) = w4 from hw4])
      clear hw4
      obtain ⟨B8, hB8⟩ : ∃ B8, w3.heap.size = B8 := ⟨_, rfl⟩
      have hsz3 := g3.size
      have HBB : Hid (S < B8) := Lib.hid (by have := HS2.out; omega)
      rw [hB8] at b8 b9 ⊢
      clear hB8
      have hn1 : ∀ g, blkOf (.slice a1 l1.length c1) = some g → g ≠ A ∧ g ≠ A + 1 := fun g e => by have := n1 g e; have := HSA.out; have := HS2.out; omega
      have hnD : ∀ g, blkOf vo = some g → g ≠ A ∧ g ≠ A + 1 := fun g e => by have := nD g e; have := HSA.out; have := HS2.out; omega
      have HM4 := Lib.hid (HM2.out.keep (g3.trans g4))
      have HS4 := Lib.hid (HBA.out.keep (g3.trans g4) (fun h => h))
      have HB8 := Lib.hid b8
      have HB9 := Lib.hid b9
      have HO4 := Lib.hid (o1.keepF g4)
      have HD4 := Lib.hid (oD.keepF g4)
      have HN1 := Lib.hid hn1
      have HND := Lib.hid hnD
      have HO := Lib.hid hOne
      clear b8 b9 g3 g4 o1 oD n1 nD hn1 hnD hOne HM2 HBA HGA HS2 hsz3
      rcases HH.out.hist.errs HH.out.hc HK40.out HO.out with h0 | h7
      rotate_left
      · subst h7
        go_wp2_with fail
        go_roundw
        case rel => exact ⟨k + 1, E, F, V, L, u, Q, by omega, by go_num, HM4.out, HH.out.up⟩
        case measure => simp [intOf]; have := HLN.out; omega
      subst h0
      obtain ⟨m, hm⟩ : ∃ m, x.k % 5 = m := ⟨_, rfl⟩
      have HMT : Hid (Int.tmod (x.k : Int) 5 = (m : Int)) := Lib.hid (by rw [show Int.tmod (x.k : Int) 5 = ((x.k % 5 : Nat) : Int) from rfl]; omega)
      have HMM := Lib.hid hm
      have hmi : ((x.k : Int) % 5) = (m : Int) := by omega
      have lR := load_reg HB8.out
      have HT := Lib.hid (HM4.out.all.there hr)
      have HON := Lib.hid (rg_oneS HO4.out f1)
      have M5 := HM4.out.reg (f := f1) hr HO4.out HN1.out HAe.out
      have g5 : Frm (fun q => q = A) w4 (w4.setCells A (r * 9) (rgc f1 (.slice a1 l1.length c1)).toList) := Frm.setCells (X := fun q => q = A) A (fun _ => rfl) _ _ _ (Frm.refl _ w4)
      have s5 := HS4.out.keep g5 (by have := HSA.out; omega)
      have d5 := HB9.out.keep g5 (by have := HSA.out; have := HBB.out; omega)
      have v5 := HD4.out.keep g5 (fun g e => (HND.out g e).1)
      go_upto_region 15 with (first
        | ((with_reducible refine wpl_load rfl _ rfl ?_ lR ?_); (focus rfl))
        | ((with_reducible refine Go.wpList_store_mid rfl 39 _ _ rfl A (r * 9) (rgc f1 (.slice a1 l1.length c1)) ?_ ?_ ?_ ?_ ?_ ?_); (focus rfl); (focus rfl); (focus (exact HT.out)); (focus (show _ = some 9; kernel_rfl)); (focus (exact HON.out))))
      obtain ⟨w5, hw5⟩ : ∃ w5, w4.setCells A (r * 9) (rgc f1 (.slice a1 l1.length c1)).toList = w5 := ⟨_, rfl⟩
      rw [hw5] at M5 g5 s5 d5 v5 ⊢
      clear hw5
      obtain ⟨B9, hB9⟩ : ∃ B9, B8 + 1 = B9 := ⟨_, rfl⟩
      rw [hB9] at d5 ⊢
      clear hB9
      have HM5 := Lib.hid M5
      have HS5 := Lib.hid s5
      have HD5 := Lib.hid d5
      have HV5 := Lib.hid v5
      have z0 := s5.cell 0 rfl
      clear lR HT HON M5 g5 s5 d5 v5 HM4 HS4 HB8 HB9 HO4 HD4 HN1 HND HBB
      by_cases hm3 : m < 3
      · have hk3 : (x.k : Int) % 5 < 3 := by omega
        have hk3n : x.k % 5 < 3 := by omega
        obtain ⟨b2, hb2⟩ : ∃ b2, decide (m < 2) = b2 := ⟨_, rfl⟩
        have HML : Hid (decide ((m : Int) < 2) = b2 ∧ decide (m < 2) = b2) := Lib.hid ⟨by rw [← hb2]; exact decide_eq_decide.2 (by omega), hb2⟩
        have hdot := OneIs.dot HO.out hk3n
        have HEV : Hid ((evOf x p1 q1 Dv).x.r = p1 ∧ (evOf x p1 q1 Dv).x.n = q1 ∧ (evOf x p1 q1 Dv).is = b2 ∧ (evOf x p1 q1 Dv).x.s = x.s) := Lib.hid (by
          have h := evOf_at (x := x) (Dv := Dv) hdot.1 hdot.2
          rw [hm, hb2] at h
          exact h)
        have HOF : Hid (Dv.length ≤ 8) := Lib.hid HO.out.few
        have HQ : Hid ((Q r).length ≤ 328) := Lib.hid (by have := HH.out.few HK40.out hr; simpa using this)
        have HM : Hid (∀ W, Frm (fun _ => False) w5 W → MK w W A (setF F r f1) (setF V r (.slice a1 l1.length c1)) (setF L r l1) u Q) := Lib.hid fun W gg => HM5.out.keep gg
        have HS : Hid (∀ W, Frm (fun _ => False) w5 W → Blk W S 85 #[.int .u8 x.k, .int .u8 x.r, .int .u8 x.m, .int .u8 x.o, .string (bs x.s)]) := Lib.hid fun W gg => HS5.out.keep gg (fun h => h)
        have H9 : Hid (∀ W, Frm (fun _ => False) w5 W → Blk W B9 27 (dv p1 q1)) := Lib.hid fun W gg => HD5.out.keep gg (fun h => h)
        have HD : Hid (∀ W, Frm (fun _ => False) w5 W → DL W vo Dv) := Lib.hid fun W gg => HV5.out.keepF gg
        clear hb2 hm hdot HM5 HS5 HD5 HV5
        go_upto_region 16 with fail
        rename_i hK hm3x
        clear hm3x
        clear z0 hk3 hk3n hmi
        have D : Frm (fun _ => False) w5 w5.drew := (Frm.refl _ _).drew
        refine wp_region_late 16 1 [] [[], [], [1], [2], [], [], [5], [6], [7], [], [9], [], [11], [4, 8, 10, 12], [3, 4, 8, 10, 12, 13], [0]] sk16M (sk16R A S r m u Q x p1 q1 vo Dv b2) (by kernel_rfl) rfl rfl rfl (by kernel_rfl) (by kernel_rfl) (by kernel_rfl) (by kernel_rfl) rfl (by kernel_rfl) (by kernel_rfl) (by kernel_rfl) (by kernel_rfl) (fun val => ?_) ?_
        · try simp only [Act.put, List.setIfInBounds_toArray, List.set_cons_zero, List.set_cons_succ]
          refine RelO.next (k' := 1) rfl (fun W gW hF => ?_) ?_
          focus
            refine OpOK.val (u := .int .i64 (r : Int)) (by rfl) ?_ (fun W' _ => rfl)
            try simp only [tupAt]
            first | (go_simp; done) | (go_simp; with_reducible rfl) | (go_simp; rfl)
          try simp only [Act.put, List.setIfInBounds_toArray, List.set_cons_zero, List.set_cons_succ]
          refine RelO.next (k' := 2) rfl (fun W gW hF => ?_) ?_
          focus
            refine OpOK.val (u := .int .i64 (r : Int)) (by rfl) ?_ (fun W' _ => rfl)
            try simp only [tupAt]
            first | (go_simp; done) | (go_simp; with_reducible rfl) | (go_simp; rfl)
          try simp only [Act.put, List.setIfInBounds_toArray, List.set_cons_zero, List.set_cons_succ]
          refine RelO.next (k' := 3) rfl (fun W gW hF => ?_) ?_
          focus
            obtain ⟨h1, _⟩ := hF
            have e1 : val 1 = .int .i64 (r : Int) := h1 _ (Frm.refl _ W)
            try simp only [e1]
            try simp only [tupAt]
            refine OpOK.val (u := .pointer (some ⟨A + 1, r, none⟩)) (by rfl) ?_ (fun W' _ => rfl)
            try simp only [e1]
            try simp only [tupAt]
            first | (go_simp; done) | (go_simp; with_reducible rfl) | (go_simp; rfl)
          try simp only [Act.put, List.setIfInBounds_toArray, List.set_cons_zero, List.set_cons_succ]
          refine RelO.next (k' := 4) rfl (fun W gW hF => ?_) ?_
          focus
            obtain ⟨h2, _⟩ := hF
            have e2 : val 2 = .pointer (some ⟨A + 1, r, none⟩) := h2 _ (Frm.refl _ W)
            try simp only [e2]
            try simp only [tupAt]
            exact OpOK.load (by rfl) _ rfl (by rfl) ((HM.out W (D.trans gW)).load hr) (fun W' _ => rfl)
          try simp only [Act.put, List.setIfInBounds_toArray, List.set_cons_zero, List.set_cons_succ]
          refine RelO.next (k' := 5) rfl (fun W gW hF => ?_) ?_
          focus
            exact OpOK.load (by rfl) _ rfl (by rfl) (load_dotB (H9.out W (D.trans gW))) (fun W' _ => rfl)
          try simp only [Act.put, List.setIfInBounds_toArray, List.set_cons_zero, List.set_cons_succ]
          refine RelO.next (k' := 6) rfl (fun W gW hF => ?_) ?_
          focus
            refine OpOK.val (u := .pointer (some ⟨S, 0, none⟩)) (by rfl) ?_ (fun W' _ => rfl)
            try simp only [tupAt]
            first | (go_simp; done) | (go_simp; with_reducible rfl) | (go_simp; rfl)
          try simp only [Act.put, List.setIfInBounds_toArray, List.set_cons_zero, List.set_cons_succ]
          refine RelO.next (k' := 7) rfl (fun W gW hF => ?_) ?_
          focus
            obtain ⟨h5, _⟩ := hF
            have e5 : val 5 = .pointer (some ⟨S, 0, none⟩) := h5 _ (Frm.refl _ W)
            try simp only [e5]
            try simp only [tupAt]
            have z0 := (HS.out W (D.trans gW)).cell 0 rfl
            exact OpOK.val (u := .int .u8 (x.k : Int)) (by rfl) (by first | (go_simp; done) | (go_simp; with_reducible rfl) | (go_simp; rfl)) (fun W' _ => rfl)
          try simp only [Act.put, List.setIfInBounds_toArray, List.set_cons_zero, List.set_cons_succ]
          refine RelO.next (k' := 8) rfl (fun W gW hF => ?_) ?_
          focus
            obtain ⟨h6, _⟩ := hF
            have e6 : val 6 = .int .u8 (x.k : Int) := h6 _ (Frm.refl _ W)
            try simp only [e6]
            try simp only [tupAt]
            have hm5 := HMT.out
            exact OpOK.val (u := .int .u8 (m : Int)) (by rfl) (by first | (go_simp; done) | (go_simp; with_reducible rfl) | (go_simp; rfl)) (fun W' _ => rfl)
          try simp only [Act.put, List.setIfInBounds_toArray, List.set_cons_zero, List.set_cons_succ]
          refine RelO.next (k' := 9) rfl (fun W gW hF => ?_) ?_
          focus
            obtain ⟨h7, _⟩ := hF
            have e7 : val 7 = .int .u8 (m : Int) := h7 _ (Frm.refl _ W)
            try simp only [e7]
            try simp only [tupAt]
            have hm5 := HML.out.1
            have hm6 := HML.out.2
            exact OpOK.val (u := .bool b2) (by rfl) (by first | (go_simp; done) | (go_simp; with_reducible rfl) | (go_simp; rfl)) (fun W' _ => rfl)
          try simp only [Act.put, List.setIfInBounds_toArray, List.set_cons_zero, List.set_cons_succ]
          refine RelO.next (k' := 10) rfl (fun W gW hF => ?_) ?_
          focus
            refine OpOK.val (u := .pointer (some ⟨S, 4, none⟩)) (by rfl) ?_ (fun W' _ => rfl)
            try simp only [tupAt]
            first | (go_simp; done) | (go_simp; with_reducible rfl) | (go_simp; rfl)
          try simp only [Act.put, List.setIfInBounds_toArray, List.set_cons_zero, List.set_cons_succ]
          refine RelO.next (k' := 11) rfl (fun W gW hF => ?_) ?_
          focus
            obtain ⟨h9, _⟩ := hF
            have e9 : val 9 = .pointer (some ⟨S, 4, none⟩) := h9 _ (Frm.refl _ W)
            try simp only [e9]
            try simp only [tupAt]
            have z0 := (HS.out W (D.trans gW)).cell 4 rfl
            exact OpOK.val (u := .string (bs x.s)) (by rfl) (by first | (go_simp; done) | (go_simp; with_reducible rfl) | (go_simp; rfl)) (fun W' _ => rfl)
          try simp only [Act.put, List.setIfInBounds_toArray, List.set_cons_zero, List.set_cons_succ]
          refine RelO.next (k' := 12) rfl (fun W gW hF => ?_) ?_
          focus
            refine OpOK.val (u := vo) (by rfl) ?_ (fun W' _ => rfl)
            try simp only [tupAt]
            first | (go_simp; done) | (go_simp; with_reducible rfl) | (go_simp; rfl)
          try simp only [Act.put, List.setIfInBounds_toArray, List.set_cons_zero, List.set_cons_succ]
          refine RelO.next (k' := 13) rfl (fun W gW hF => ?_) ?_
          focus
            obtain ⟨h11, _⟩ := hF
            have e11 : val 11 = vo := h11 _ (Frm.refl _ W)
            try simp only [e11]
            try simp only [tupAt]
            refine OpOK.call (by rfl) ?_ ((ldots_new vo Dv W (HD.out W (D.trans gW)) (by have := HOF.out; omega)).mono ?_)
            · first | (go_simp; done) | (go_simp; with_reducible rfl) | (go_simp; rfl)
            · rintro e W1 ⟨v', rfl, h1, h2, g1⟩
              have hlt2 := (HM.out W (D.trans gW)).kn.lt
              obtain ⟨az, cz, hz, _, _⟩ := Row.slice h1
              exact ⟨_, rfl, g1, fun W2 g2 => ⟨v', rfl, h1.sl.keepF g2, fun g e => (by have := h2 g (h1.blkOf g e); omega), az, cz, hz⟩⟩
          try simp only [Act.put, List.setIfInBounds_toArray, List.set_cons_zero, List.set_cons_succ]
          refine RelO.next (k' := 14) rfl (fun W gW hF => ?_) ?_
          focus
            obtain ⟨h4, h8, h10, h12, _⟩ := hF
            have e4 : val 4 = .agg (dv p1 q1) := h4 _ (Frm.refl _ W)
            have e8 : val 8 = .bool b2 := h8 _ (Frm.refl _ W)
            have e10 : val 10 = .string (bs x.s) := h10 _ (Frm.refl _ W)
            have q12 : ∃ z, (val 12) = z ∧ DL W z Dv ∧ (∀ g, blkOf z = some g → g ≠ A ∧ g ≠ A + 1) ∧ ∃ az cz, z = .slice az Dv.length cz := h12 _ (Frm.refl _ W)
            obtain ⟨z60, e12, o60, n60, hz60⟩ := q12
            try simp only [e12]
            try simp only [e10]
            try simp only [e8]
            try simp only [e4]
            try simp only [tupAt]
            obtain ⟨az, cz, rfl⟩ := hz60
            exact OpOK.val (u := .agg #[.int .u8 (p1 : Int), .int .u32 (q1 : Int), .bool b2, .string (bs x.s), .slice az Dv.length cz]) (by rfl) (by first | (go_simp; done) | (go_simp; with_reducible rfl) | (go_simp; rfl)) (fun W' _ => by (show Value.agg #[.int .u8 (p1 : Int), .int .u32 (q1 : Int), .bool b2, .string (bs x.s), .slice az Dv.length cz] = Value.agg #[.int .u8 (p1 : Int), .int .u32 (q1 : Int), .bool b2, .string (bs x.s), val 12]); rw [e12])
          try simp only [Act.put, List.setIfInBounds_toArray, List.set_cons_zero, List.set_cons_succ]
          refine RelO.next (k' := 15) rfl (fun W gW hF => ?_) ?_
          focus
            obtain ⟨h3, h4, h8, h10, h12, h13, _⟩ := hF
            have e3 : val 3 = .agg #[u r] := h3 _ (Frm.refl _ W)
            have e4 : val 4 = .agg (dv p1 q1) := h4 _ (Frm.refl _ W)
            have e8 : val 8 = .bool b2 := h8 _ (Frm.refl _ W)
            have e10 : val 10 = .string (bs x.s) := h10 _ (Frm.refl _ W)
            have q12 : ∃ z, (val 12) = z ∧ DL W z Dv ∧ (∀ g, blkOf z = some g → g ≠ A ∧ g ≠ A + 1) ∧ ∃ az cz, z = .slice az Dv.length cz := h12 _ (Frm.refl _ W)
            obtain ⟨z60, e12, o60, n60, hz60⟩ := q12
            have e13 : val 13 = .agg #[.int .u8 (p1 : Int), .int .u32 (q1 : Int), .bool b2, .string (bs x.s), (val 12)] := h13 _ (Frm.refl _ W)
            try simp only [e13]
            try simp only [e12]
            try simp only [e10]
            try simp only [e8]
            try simp only [e4]
            try simp only [e3]
            try simp only [tupAt]
            have hw := with_any (u r) (Q r) (evOf x p1 q1 Dv) z60 W ((HM.out W (D.trans gW)).kl r hr) o60 (by have := HQ.out; omega)
            rw [HEV.out.1, HEV.out.2.1, HEV.out.2.2.1, HEV.out.2.2.2] at hw
            refine OpOK.call (by rfl) ?_ ((hw).mono ?_)
            · first | (go_simp; done) | (go_simp; with_reducible rfl) | (go_simp; rfl)
            · rintro e W1 ⟨u', rfl, h1, h2, g1⟩
              have hlt2 := (HM.out W (D.trans gW)).kn.lt
              exact ⟨_, rfl, g1, fun W2 g2 => ⟨u', z60, rfl, h1.keepF g2, fun g e => (by have := h2 g e; omega), n60⟩⟩
          try simp only [Act.put, List.setIfInBounds_toArray, List.set_cons_zero, List.set_cons_succ]
          refine RelO.next (k' := 16) rfl (fun W gW hF => ?_) ?_
          focus
            obtain ⟨h0, _⟩ := hF
            have e0 : val 0 = .int .i64 (r : Int) := h0 _ (Frm.refl _ W)
            try simp only [e0]
            try simp only [tupAt]
            refine OpOK.val (u := .pointer (some ⟨A + 1, r, none⟩)) (by rfl) ?_ (fun W' _ => rfl)
            try simp only [e0]
            try simp only [tupAt]
            first | (go_simp; done) | (go_simp; with_reducible rfl) | (go_simp; rfl)
          try simp only [Act.put, List.setIfInBounds_toArray, List.set_cons_zero, List.set_cons_succ]
          exact RelO.nil
        intro val w7 gW hF
        obtain ⟨h0, h1, h2, h3, h4, h5, h6, h7, h8, h9, h10, h11, h12, h13, h14, h15, hT⟩ := hF
        have e0 : val 0 = .int .i64 (r : Int) := h0 _ (Frm.refl _ w7)
        have e1 : val 1 = .int .i64 (r : Int) := h1 _ (Frm.refl _ w7)
        have e2 : val 2 = .pointer (some ⟨A + 1, r, none⟩) := h2 _ (Frm.refl _ w7)
        have e3 : val 3 = .agg #[u r] := h3 _ (Frm.refl _ w7)
        have e4 : val 4 = .agg (dv p1 q1) := h4 _ (Frm.refl _ w7)
        have e5 : val 5 = .pointer (some ⟨S, 0, none⟩) := h5 _ (Frm.refl _ w7)
        have e6 : val 6 = .int .u8 (x.k : Int) := h6 _ (Frm.refl _ w7)
        have e7 : val 7 = .int .u8 (m : Int) := h7 _ (Frm.refl _ w7)
        have e8 : val 8 = .bool b2 := h8 _ (Frm.refl _ w7)
        have e9 : val 9 = .pointer (some ⟨S, 4, none⟩) := h9 _ (Frm.refl _ w7)
        have e10 : val 10 = .string (bs x.s) := h10 _ (Frm.refl _ w7)
        have e11 : val 11 = vo := h11 _ (Frm.refl _ w7)
        have q12 : ∃ z, (val 12) = z ∧ DL w7 z Dv ∧ (∀ g, blkOf z = some g → g ≠ A ∧ g ≠ A + 1) ∧ ∃ az cz, z = .slice az Dv.length cz := h12 _ (Frm.refl _ w7)
        obtain ⟨z60, e12, o60, n60, hz60⟩ := q12
        have e13 : val 13 = .agg #[.int .u8 (p1 : Int), .int .u32 (q1 : Int), .bool b2, .string (bs x.s), (val 12)] := h13 _ (Frm.refl _ w7)
        have q14 : ∃ u' z, (val 14) = .agg #[u'] ∧ KL w7 u' (Q r ++ [(evOf x p1 q1 Dv, z)]) ∧ (∀ g, blkOf u' = some g → g ≠ A ∧ g ≠ A + 1) ∧ (∀ g, blkOf z = some g → g ≠ A ∧ g ≠ A + 1) := h14 _ (Frm.refl _ w7)
        obtain ⟨u62, z62, e14, o62, n62, m62⟩ := q14
        have e15 : val 15 = .pointer (some ⟨A + 1, r, none⟩) := h15 _ (Frm.refl _ w7)
        clear hT h0 h1 h2 h3 h4 h5 h6 h7 h8 h9 h10 h11 h12 h13 h14 h15
        simp only [aO, Act.put, List.setIfInBounds_toArray, List.set_cons_zero, List.set_cons_succ, Nat.reduceAdd]
        try simp only [e15]
        try simp only [e14]
        try simp only [e13]
        try simp only [e12]
        try simp only [e11]
        try simp only [e10]
        try simp only [e9]
        try simp only [e8]
        try simp only [e7]
        try simp only [e6]
        try simp only [e5]
        try simp only [e4]
        try simp only [e3]
        try simp only [e2]
        try simp only [e1]
        try simp only [e0]
        try simp only [tupAt]
        obtain ⟨au, cu, hu, _, _⟩ := o62.slice
        refine wpTail.store_kn rfl rfl rfl _ _ rfl (A + 1) r u u62 ⟨_, _, _, hu⟩ rfl rfl (HM.out w7 (D.trans gW)).kn hr fun w8 b8 f8 => ?_
        refine wpTail.doneN ?_
        refine hK _ _ ?_
        have M8 := (HM.out w7 (D.trans gW)).know hr o62 n62 (fun p hp g e => by
          rcases List.mem_append.1 hp with hp | hp
          · exact (HM.out w7 (D.trans gW)).dne r hr p hp g e
          · rw [List.mem_singleton] at hp; subst hp; exact m62 g e) f8 b8 HAe.out
        obtain ⟨E', hE'⟩ := HH.out.next HO.out z62
        have hnq : nextQ Q x p1 q1 Dv z62 = setF Q r (Q r ++ [(evOf x p1 q1 Dv, z62)]) := by
          unfold nextQ
          rw [HMM.out, if_pos hm3, HR.out]
        rw [hnq, HR.out] at hE'
        have HM8 := Lib.hid M8
        have HH8 := Lib.hid hE'
        clear gW D hK M8 hE' hnq b8 f8 hu o60 n60 hz60 o62 n62 m62 HM HS H9 HD HOF HEV HML HMT HMM HQ HO HH e0 e1 e2 e3 e4 e5 e6 e7 e8 e9 e10 e11 e12 e13 e14 e15
        generalize setF F r f1 = F at HM8 HH8
        generalize setF V r (.slice a1 l1.length c1) = V at HM8
        generalize setF L r l1 = L at HM8 HH8
        generalize setF Q r (Q r ++ [(evOf x p1 q1 Dv, z62)]) = Q at HM8 HH8
        generalize setF u r u62 = u at HM8
        have HM : Hid (∀ W, Frm (fun _ => False) w8 W → MK w W A F V L u Q) := Lib.hid fun W gg => HM8.out.keep gg
        have HFW : Hid ((L r).length ≤ 8) := Lib.hid (HH8.out.hist.few r hr)
        have HQ : Hid ((Q r).length ≤ 328) := Lib.hid (by have := HH8.out.few (by omega) hr; simpa using this)
        have HOW : Hid (∀ p ∈ Q r, p.1.x.r < 8) := Lib.hid fun p hp => HH8.out.own hr p.1 (List.mem_map.2 ⟨p, hp, rfl⟩)
        have HRG := Lib.hid (HH8.out.reg hr)
        go_upto_region 18 with fail
        rename_i hK
        have D : Frm (fun _ => False) w8 w8.drew := (Frm.refl _ _).drew
        refine wp_region_late 10 0 [] [[], [0], [1], [2], [], [4], [5], [6], [3, 7], [8]] sk18M (sk18R A r F V L u Q) (by kernel_rfl) rfl rfl rfl (by kernel_rfl) (by kernel_rfl) (by kernel_rfl) (by kernel_rfl) rfl (by kernel_rfl) (by kernel_rfl) (by kernel_rfl) (by kernel_rfl) (fun val => ?_) ?_
        · try dsimp only
          refine RelO.next (k' := 1) rfl (fun W gW hF => ?_) ?_
          focus
            refine OpOK.val (u := .int .i64 (r : Int)) (by rfl) ?_ (fun W' _ => rfl)
            try simp only [tupAt]
            first | (go_simp; done) | (go_simp; with_reducible rfl) | (go_simp; rfl)
          try simp only [Act.put, List.setIfInBounds_toArray, List.set_cons_zero, List.set_cons_succ]
          refine RelO.next (k' := 2) rfl (fun W gW hF => ?_) ?_
          focus
            obtain ⟨h0, _⟩ := hF
            have e0 : val 0 = .int .i64 (r : Int) := h0 _ (Frm.refl _ W)
            try simp only [e0]
            try simp only [tupAt]
            refine OpOK.val (u := .pointer (some ⟨A, r * 9, none⟩)) (by rfl) ?_ (fun W' _ => rfl)
            try simp only [e0]
            try simp only [tupAt]
            first | (go_simp; done) | (go_simp; with_reducible rfl) | (go_simp; rfl)
          try simp only [Act.put, List.setIfInBounds_toArray, List.set_cons_zero, List.set_cons_succ]
          refine RelO.next (k' := 3) rfl (fun W gW hF => ?_) ?_
          focus
            obtain ⟨h1, _⟩ := hF
            have e1 : val 1 = .pointer (some ⟨A, r * 9, none⟩) := h1 _ (Frm.refl _ W)
            try simp only [e1]
            try simp only [tupAt]
            exact OpOK.load (by rfl) _ rfl (by rfl) ((HM.out W (D.trans gW)).all.load hr) (fun W' _ => rfl)
          try simp only [Act.put, List.setIfInBounds_toArray, List.set_cons_zero, List.set_cons_succ]
          refine RelO.next (k' := 4) rfl (fun W gW hF => ?_) ?_
          focus
            obtain ⟨h2, _⟩ := hF
            have e2 : val 2 = rg (F r) (V r) := h2 _ (Frm.refl _ W)
            try simp only [e2]
            try simp only [tupAt]
            refine OpOK.call (by rfl) ?_ ((their_any (F r) (V r) (L r) W ((HM.out W (D.trans gW)).sl r hr) (by have := HFW.out; omega)).mono ?_)
            · first | (go_simp; done) | (go_simp; with_reducible rfl) | (go_simp; rfl)
            · rintro e W1 ⟨v', rfl, o', g', _⟩
              exact ⟨_, rfl, g', fun W2 g2 => ⟨v', rfl, o'.sl.keepF g2⟩⟩
          try simp only [Act.put, List.setIfInBounds_toArray, List.set_cons_zero, List.set_cons_succ]
          refine RelO.next (k' := 5) rfl (fun W gW hF => ?_) ?_
          focus
            refine OpOK.val (u := .int .i64 (r : Int)) (by rfl) ?_ (fun W' _ => rfl)
            try simp only [tupAt]
            first | (go_simp; done) | (go_simp; with_reducible rfl) | (go_simp; rfl)
          try simp only [Act.put, List.setIfInBounds_toArray, List.set_cons_zero, List.set_cons_succ]
          refine RelO.next (k' := 6) rfl (fun W gW hF => ?_) ?_
          focus
            obtain ⟨h4, _⟩ := hF
            have e4 : val 4 = .int .i64 (r : Int) := h4 _ (Frm.refl _ W)
            try simp only [e4]
            try simp only [tupAt]
            refine OpOK.val (u := .pointer (some ⟨A + 1, r, none⟩)) (by rfl) ?_ (fun W' _ => rfl)
            try simp only [e4]
            try simp only [tupAt]
            first | (go_simp; done) | (go_simp; with_reducible rfl) | (go_simp; rfl)
          try simp only [Act.put, List.setIfInBounds_toArray, List.set_cons_zero, List.set_cons_succ]
          refine RelO.next (k' := 7) rfl (fun W gW hF => ?_) ?_
          focus
            obtain ⟨h5, _⟩ := hF
            have e5 : val 5 = .pointer (some ⟨A + 1, r, none⟩) := h5 _ (Frm.refl _ W)
            try simp only [e5]
            try simp only [tupAt]
            exact OpOK.load (by rfl) _ rfl (by rfl) ((HM.out W (D.trans gW)).load hr) (fun W' _ => rfl)
          try simp only [Act.put, List.setIfInBounds_toArray, List.set_cons_zero, List.set_cons_succ]
          refine RelO.next (k' := 8) rfl (fun W gW hF => ?_) ?_
          focus
            obtain ⟨h6, _⟩ := hF
            have e6 : val 6 = .agg #[u r] := h6 _ (Frm.refl _ W)
            try simp only [e6]
            try simp only [tupAt]
            refine OpOK.call (by rfl) ?_ ((knreg_any (u r) (Q r) W ((HM.out W (D.trans gW)).kl r hr) HOW.out (by have := HQ.out; omega)).mono ?_)
            · first | (go_simp; done) | (go_simp; with_reducible rfl) | (go_simp; rfl)
            · rintro e W1 ⟨v', rfl, h1, g1⟩
              exact ⟨_, rfl, g1, fun W2 g2 => ⟨v', rfl, h1.keepF g2⟩⟩
          try simp only [Act.put, List.setIfInBounds_toArray, List.set_cons_zero, List.set_cons_succ]
          refine RelO.next (k' := 9) rfl (fun W gW hF => ?_) ?_
          focus
            obtain ⟨h3, h7, _⟩ := hF
            have q3 : ∃ z, (val 3) = rg (F r) z ∧ SL W z (L r) := h3 _ (Frm.refl _ W)
            obtain ⟨z78, e3, o78⟩ := q3
            have q7 : ∃ z, (val 7) = rg (ctxK (fun _ => 0) ((Q r).map Prod.fst)) z ∧ SL W z (sibK ((Q r).map Prod.fst) [] ((Q r).map Prod.fst)) := h7 _ (Frm.refl _ W)
            obtain ⟨z82, e7, o82⟩ := q7
            try simp only [e7]
            try simp only [e3]
            try simp only [tupAt]
            refine OpOK.call (by rfl) ?_ ((requal_any (F r) (ctxK (fun _ => 0) ((Q r).map Prod.fst)) z78 z82 (L r) _ W o78 o82).mono ?_)
            · first | (go_simp; done) | (go_simp; with_reducible rfl) | (go_simp; rfl)
            · rintro e W1 ⟨he, g1⟩
              rw [HRG.out] at he
              subst he
              exact ⟨_, rfl, g1, fun W2 _ => rfl⟩
          try simp only [Act.put, List.setIfInBounds_toArray, List.set_cons_zero, List.set_cons_succ]
          refine RelO.next (k' := 10) rfl (fun W gW hF => ?_) ?_
          focus
            obtain ⟨h8, _⟩ := hF
            have e8 : val 8 = .bool true := h8 _ (Frm.refl _ W)
            try simp only [e8]
            try simp only [tupAt]
            refine OpOK.val (u := .bool false) (by rfl) ?_ (fun W' _ => rfl)
            try simp only [e8]
            try simp only [tupAt]
            first | (go_simp; done) | (go_simp; with_reducible rfl) | (go_simp; rfl)
          try simp only [Act.put, List.setIfInBounds_toArray, List.set_cons_zero, List.set_cons_succ]
          exact RelO.nil
        intro val w9 gW hF
        obtain ⟨h0, h1, h2, h3, h4, h5, h6, h7, h8, h9, hT⟩ := hF
        have e0 : val 0 = .int .i64 (r : Int) := h0 _ (Frm.refl _ w9)
        have e1 : val 1 = .pointer (some ⟨A, r * 9, none⟩) := h1 _ (Frm.refl _ w9)
        have e2 : val 2 = rg (F r) (V r) := h2 _ (Frm.refl _ w9)
        have q3 : ∃ z, (val 3) = rg (F r) z ∧ SL w9 z (L r) := h3 _ (Frm.refl _ w9)
        obtain ⟨z78, e3, o78⟩ := q3
        have e4 : val 4 = .int .i64 (r : Int) := h4 _ (Frm.refl _ w9)
        have e5 : val 5 = .pointer (some ⟨A + 1, r, none⟩) := h5 _ (Frm.refl _ w9)
        have e6 : val 6 = .agg #[u r] := h6 _ (Frm.refl _ w9)
        have q7 : ∃ z, (val 7) = rg (ctxK (fun _ => 0) ((Q r).map Prod.fst)) z ∧ SL w9 z (sibK ((Q r).map Prod.fst) [] ((Q r).map Prod.fst)) := h7 _ (Frm.refl _ w9)
        obtain ⟨z82, e7, o82⟩ := q7
        have e8 : val 8 = .bool true := h8 _ (Frm.refl _ w9)
        have e9 : val 9 = .bool false := h9 _ (Frm.refl _ w9)
        clear hT h0 h1 h2 h3 h4 h5 h6 h7 h8 h9
        simp only [aO, Act.put, List.setIfInBounds_toArray, List.set_cons_zero, List.set_cons_succ, Nat.reduceAdd]
        try simp only [e9]
        try simp only [e8]
        try simp only [e7]
        try simp only [e6]
        try simp only [e5]
        try simp only [e4]
        try simp only [e3]
        try simp only [e2]
        try simp only [e1]
        try simp only [e0]
        try simp only [tupAt]
        refine wpTail.doneN ?_
        refine hK _ _ ?_
        have HM9 := Lib.hid (HM.out w9 (D.trans gW))
        clear gW D hK o78 o82 HM HFW HQ HOW HRG HM8 e0 e1 e2 e3 e4 e5 e6 e7 e8 e9
        go_wp2_with fail
        go_roundw
        case rel => exact ⟨k + 1, E', F, V, L, u, Q, by omega, by go_num, HM9.out, HH8.out⟩
        case measure => simp [intOf]; have := HLN.out; omega
      · have hk3 : ¬ (x.k : Int) % 5 < 3 := by omega
        have hk3n : ¬ x.k % 5 < 3 := by omega
        obtain ⟨jj, hjj⟩ : ∃ jj, x.m % 4 = jj := ⟨_, rfl⟩
        have hj : jj < 4 := by omega
        have hji : (jj : Int) < 4 := by omega
        have hji0 : (0 : Int) ≤ (jj : Int) := by omega
        have HJT : Hid (Int.tmod (x.m : Int) 4 = (jj : Int)) := Lib.hid (by rw [show Int.tmod (x.m : Int) 4 = ((x.m % 4 : Nat) : Int) from rfl]; omega)
        have HJ := Lib.hid hjj
        have HQ : Hid ((Q r).length ≤ 328) := Lib.hid (by have := HH.out.few HK40.out hr; simpa using this)
        have HM : Hid (∀ W, Frm (fun _ => False) w5 W → MK w W A (setF F r f1) (setF V r (.slice a1 l1.length c1)) (setF L r l1) u Q) := Lib.hid fun W gg => HM5.out.keep gg
        have HS : Hid (∀ W, Frm (fun _ => False) w5 W → Blk W S 85 #[.int .u8 x.k, .int .u8 x.r, .int .u8 x.m, .int .u8 x.o, .string (bs x.s)]) := Lib.hid fun W gg => HS5.out.keep gg (fun h => h)
        have HQJ : Hid ((Q jj).length ≤ 328) := Lib.hid (by have := HH.out.few HK40.out hj; simpa using this)
        clear hm hjj HM5 HS5 HD5 HV5
        go_upto_region 17 with fail
        rename_i hK hm3x
        clear hm3x
        clear z0 hk3 hk3n hmi
        have D : Frm (fun _ => False) w5 w5.drew := (Frm.refl _ _).drew
        refine wp_region_late 11 1 [] [[], [], [1], [2], [], [4], [5], [6], [7], [3, 8], [0]] sk17M (sk17R A S r jj u Q x) (by kernel_rfl) rfl rfl rfl (by kernel_rfl) (by kernel_rfl) (by kernel_rfl) (by kernel_rfl) rfl (by kernel_rfl) (by kernel_rfl) (by kernel_rfl) (by kernel_rfl) (fun val => ?_) ?_
        · try simp only [Act.put, List.setIfInBounds_toArray, List.set_cons_zero, List.set_cons_succ]
          refine RelO.next (k' := 1) rfl (fun W gW hF => ?_) ?_
          focus
            refine OpOK.val (u := .int .i64 (r : Int)) (by rfl) ?_ (fun W' _ => rfl)
            try simp only [tupAt]
            first | (go_simp; done) | (go_simp; with_reducible rfl) | (go_simp; rfl)
          try simp only [Act.put, List.setIfInBounds_toArray, List.set_cons_zero, List.set_cons_succ]
          refine RelO.next (k' := 2) rfl (fun W gW hF => ?_) ?_
          focus
            refine OpOK.val (u := .int .i64 (r : Int)) (by rfl) ?_ (fun W' _ => rfl)
            try simp only [tupAt]
            first | (go_simp; done) | (go_simp; with_reducible rfl) | (go_simp; rfl)
          try simp only [Act.put, List.setIfInBounds_toArray, List.set_cons_zero, List.set_cons_succ]
          refine RelO.next (k' := 3) rfl (fun W gW hF => ?_) ?_
          focus
            obtain ⟨h1, _⟩ := hF
            have e1 : val 1 = .int .i64 (r : Int) := h1 _ (Frm.refl _ W)
            try simp only [e1]
            try simp only [tupAt]
            refine OpOK.val (u := .pointer (some ⟨A + 1, r, none⟩)) (by rfl) ?_ (fun W' _ => rfl)
            try simp only [e1]
            try simp only [tupAt]
            first | (go_simp; done) | (go_simp; with_reducible rfl) | (go_simp; rfl)
          try simp only [Act.put, List.setIfInBounds_toArray, List.set_cons_zero, List.set_cons_succ]
          refine RelO.next (k' := 4) rfl (fun W gW hF => ?_) ?_
          focus
            obtain ⟨h2, _⟩ := hF
            have e2 : val 2 = .pointer (some ⟨A + 1, r, none⟩) := h2 _ (Frm.refl _ W)
            try simp only [e2]
            try simp only [tupAt]
            exact OpOK.load (by rfl) _ rfl (by rfl) ((HM.out W (D.trans gW)).load hr) (fun W' _ => rfl)
          try simp only [Act.put, List.setIfInBounds_toArray, List.set_cons_zero, List.set_cons_succ]
          refine RelO.next (k' := 5) rfl (fun W gW hF => ?_) ?_
          focus
            refine OpOK.val (u := .pointer (some ⟨S, 2, none⟩)) (by rfl) ?_ (fun W' _ => rfl)
            try simp only [tupAt]
            first | (go_simp; done) | (go_simp; with_reducible rfl) | (go_simp; rfl)
          try simp only [Act.put, List.setIfInBounds_toArray, List.set_cons_zero, List.set_cons_succ]
          refine RelO.next (k' := 6) rfl (fun W gW hF => ?_) ?_
          focus
            obtain ⟨h4, _⟩ := hF
            have e4 : val 4 = .pointer (some ⟨S, 2, none⟩) := h4 _ (Frm.refl _ W)
            try simp only [e4]
            try simp only [tupAt]
            have z0 := (HS.out W (D.trans gW)).cell 2 rfl
            exact OpOK.val (u := .int .u8 (x.m : Int)) (by rfl) (by first | (go_simp; done) | (go_simp; with_reducible rfl) | (go_simp; rfl)) (fun W' _ => rfl)
          try simp only [Act.put, List.setIfInBounds_toArray, List.set_cons_zero, List.set_cons_succ]
          refine RelO.next (k' := 7) rfl (fun W gW hF => ?_) ?_
          focus
            obtain ⟨h5, _⟩ := hF
            have e5 : val 5 = .int .u8 (x.m : Int) := h5 _ (Frm.refl _ W)
            try simp only [e5]
            try simp only [tupAt]
            have hj4 := HJT.out
            exact OpOK.val (u := .int .u8 (jj : Int)) (by rfl) (by first | (go_simp; done) | (go_simp; with_reducible rfl) | (go_simp; rfl)) (fun W' _ => rfl)
          try simp only [Act.put, List.setIfInBounds_toArray, List.set_cons_zero, List.set_cons_succ]
          refine RelO.next (k' := 8) rfl (fun W gW hF => ?_) ?_
          focus
            obtain ⟨h6, _⟩ := hF
            have e6 : val 6 = .int .u8 (jj : Int) := h6 _ (Frm.refl _ W)
            try simp only [e6]
            try simp only [tupAt]
            refine OpOK.val (u := .pointer (some ⟨A + 1, jj, none⟩)) (by rfl) ?_ (fun W' _ => rfl)
            try simp only [e6]
            try simp only [tupAt]
            first | (go_simp; done) | (go_simp; with_reducible rfl) | (go_simp; rfl)
          try simp only [Act.put, List.setIfInBounds_toArray, List.set_cons_zero, List.set_cons_succ]
          refine RelO.next (k' := 9) rfl (fun W gW hF => ?_) ?_
          focus
            obtain ⟨h7, _⟩ := hF
            have e7 : val 7 = .pointer (some ⟨A + 1, jj, none⟩) := h7 _ (Frm.refl _ W)
            try simp only [e7]
            try simp only [tupAt]
            exact OpOK.load (by rfl) _ rfl (by rfl) ((HM.out W (D.trans gW)).load hj) (fun W' _ => rfl)
          try simp only [Act.put, List.setIfInBounds_toArray, List.set_cons_zero, List.set_cons_succ]
          refine RelO.next (k' := 10) rfl (fun W gW hF => ?_) ?_
          focus
            obtain ⟨h3, h8, _⟩ := hF
            have e3 : val 3 = .agg #[u r] := h3 _ (Frm.refl _ W)
            have e8 : val 8 = .agg #[u jj] := h8 _ (Frm.refl _ W)
            try simp only [e8]
            try simp only [e3]
            try simp only [tupAt]
            refine OpOK.call (by rfl) ?_ ((both_any (u r) (u jj) (Q r) (Q jj) W ((HM.out W (D.trans gW)).kl r hr) ((HM.out W (D.trans gW)).kl jj hj) (by have := HQ.out; omega) (by have := HQJ.out; omega)).mono ?_)
            · first | (go_simp; done) | (go_simp; with_reducible rfl) | (go_simp; rfl)
            · rintro e W1 ⟨u', rfl, h1, h2, g1⟩
              have hlt2 := (HM.out W (D.trans gW)).kn.lt
              exact ⟨_, rfl, g1, fun W2 g2 => ⟨u', rfl, h1.keepF g2, fun g e => (by have := h2 g e; omega)⟩⟩
          try simp only [Act.put, List.setIfInBounds_toArray, List.set_cons_zero, List.set_cons_succ]
          refine RelO.next (k' := 11) rfl (fun W gW hF => ?_) ?_
          focus
            obtain ⟨h0, _⟩ := hF
            have e0 : val 0 = .int .i64 (r : Int) := h0 _ (Frm.refl _ W)
            try simp only [e0]
            try simp only [tupAt]
            refine OpOK.val (u := .pointer (some ⟨A + 1, r, none⟩)) (by rfl) ?_ (fun W' _ => rfl)
            try simp only [e0]
            try simp only [tupAt]
            first | (go_simp; done) | (go_simp; with_reducible rfl) | (go_simp; rfl)
          try simp only [Act.put, List.setIfInBounds_toArray, List.set_cons_zero, List.set_cons_succ]
          exact RelO.nil
        intro val w7 gW hF
        obtain ⟨h0, h1, h2, h3, h4, h5, h6, h7, h8, h9, h10, hT⟩ := hF
        have e0 : val 0 = .int .i64 (r : Int) := h0 _ (Frm.refl _ w7)
        have e1 : val 1 = .int .i64 (r : Int) := h1 _ (Frm.refl _ w7)
        have e2 : val 2 = .pointer (some ⟨A + 1, r, none⟩) := h2 _ (Frm.refl _ w7)
        have e3 : val 3 = .agg #[u r] := h3 _ (Frm.refl _ w7)
        have e4 : val 4 = .pointer (some ⟨S, 2, none⟩) := h4 _ (Frm.refl _ w7)
        have e5 : val 5 = .int .u8 (x.m : Int) := h5 _ (Frm.refl _ w7)
        have e6 : val 6 = .int .u8 (jj : Int) := h6 _ (Frm.refl _ w7)
        have e7 : val 7 = .pointer (some ⟨A + 1, jj, none⟩) := h7 _ (Frm.refl _ w7)
        have e8 : val 8 = .agg #[u jj] := h8 _ (Frm.refl _ w7)
        have q9 : ∃ u', (val 9) = .agg #[u'] ∧ KL w7 u' (bothP (Q r) (Q jj)) ∧ ∀ g, blkOf u' = some g → g ≠ A ∧ g ≠ A + 1 := h9 _ (Frm.refl _ w7)
        obtain ⟨u73, e9, o73, n73⟩ := q9
        have e10 : val 10 = .pointer (some ⟨A + 1, r, none⟩) := h10 _ (Frm.refl _ w7)
        clear hT h0 h1 h2 h3 h4 h5 h6 h7 h8 h9 h10
        simp only [aO, Act.put, List.setIfInBounds_toArray, List.set_cons_zero, List.set_cons_succ, Nat.reduceAdd]
        try simp only [e10]
        try simp only [e9]
        try simp only [e8]
        try simp only [e7]
        try simp only [e6]
        try simp only [e5]
        try simp only [e4]
        try simp only [e3]
        try simp only [e2]
        try simp only [e1]
        try simp only [e0]
        try simp only [tupAt]
        obtain ⟨au, cu, hu, _, _⟩ := o73.slice
        refine wpTail.store_kn rfl rfl rfl _ _ rfl (A + 1) r u u73 ⟨_, _, _, hu⟩ rfl rfl (HM.out w7 (D.trans gW)).kn hr fun w8 b8 f8 => ?_
        refine wpTail.doneN ?_
        refine hK _ _ ?_
        have M8 := (HM.out w7 (D.trans gW)).know hr o73 n73 (fun p hp g e => by
          rcases bothP_mem hp with hp | hp
          · exact (HM.out w7 (D.trans gW)).dne r hr p hp g e
          · exact (HM.out w7 (D.trans gW)).dne jj hj p hp g e) f8 b8 HAe.out
        obtain ⟨E', hE'⟩ := HH.out.next HO.out (.slice none 0 0)
        have hnq : nextQ Q x p1 q1 Dv (.slice none 0 0) = setF Q r (bothP (Q r) (Q jj)) := by
          unfold nextQ
          rw [HMM.out, if_neg hm3, HR.out, HJ.out]
        rw [hnq, HR.out] at hE'
        have HM8 := Lib.hid M8
        have HH8 := Lib.hid hE'
        clear gW D hK M8 hE' hnq b8 f8 hu o73 n73 HM HS HJT HJ HMT HMM HQ HQJ HO HH e0 e1 e2 e3 e4 e5 e6 e7 e8 e9 e10
        generalize setF F r f1 = F at HM8 HH8
        generalize setF V r (.slice a1 l1.length c1) = V at HM8
        generalize setF L r l1 = L at HM8 HH8
        generalize setF Q r (bothP (Q r) (Q jj)) = Q at HM8 HH8
        generalize setF u r u73 = u at HM8
        have HM : Hid (∀ W, Frm (fun _ => False) w8 W → MK w W A F V L u Q) := Lib.hid fun W gg => HM8.out.keep gg
        have HFW : Hid ((L r).length ≤ 8) := Lib.hid (HH8.out.hist.few r hr)
        have HQ : Hid ((Q r).length ≤ 328) := Lib.hid (by have := HH8.out.few (by omega) hr; simpa using this)
        have HOW : Hid (∀ p ∈ Q r, p.1.x.r < 8) := Lib.hid fun p hp => HH8.out.own hr p.1 (List.mem_map.2 ⟨p, hp, rfl⟩)
        have HRG := Lib.hid (HH8.out.reg hr)
        go_upto_region 18 with fail
        rename_i hK
        have D : Frm (fun _ => False) w8 w8.drew := (Frm.refl _ _).drew
        refine wp_region_late 10 0 [] [[], [0], [1], [2], [], [4], [5], [6], [3, 7], [8]] sk18M (sk18R A r F V L u Q) (by kernel_rfl) rfl rfl rfl (by kernel_rfl) (by kernel_rfl) (by kernel_rfl) (by kernel_rfl) rfl (by kernel_rfl) (by kernel_rfl) (by kernel_rfl) (by kernel_rfl) (fun val => ?_) ?_
        · try dsimp only
          refine RelO.next (k' := 1) rfl (fun W gW hF => ?_) ?_
          focus
            refine OpOK.val (u := .int .i64 (r : Int)) (by rfl) ?_ (fun W' _ => rfl)
            try simp only [tupAt]
            first | (go_simp; done) | (go_simp; with_reducible rfl) | (go_simp; rfl)
          try simp only [Act.put, List.setIfInBounds_toArray, List.set_cons_zero, List.set_cons_succ]
          refine RelO.next (k' := 2) rfl (fun W gW hF => ?_) ?_
          focus
            obtain ⟨h0, _⟩ := hF
            have e0 : val 0 = .int .i64 (r : Int) := h0 _ (Frm.refl _ W)
            try simp only [e0]
            try simp only [tupAt]
            refine OpOK.val (u := .pointer (some ⟨A, r * 9, none⟩)) (by rfl) ?_ (fun W' _ => rfl)
            try simp only [e0]
            try simp only [tupAt]
            first | (go_simp; done) | (go_simp; with_reducible rfl) | (go_simp; rfl)
          try simp only [Act.put, List.setIfInBounds_toArray, List.set_cons_zero, List.set_cons_succ]
          refine RelO.next (k' := 3) rfl (fun W gW hF => ?_) ?_
          focus
            obtain ⟨h1, _⟩ := hF
            have e1 : val 1 = .pointer (some ⟨A, r * 9, none⟩) := h1 _ (Frm.refl _ W)
            try simp only [e1]
            try simp only [tupAt]
            exact OpOK.load (by rfl) _ rfl (by rfl) ((HM.out W (D.trans gW)).all.load hr) (fun W' _ => rfl)
          try simp only [Act.put, List.setIfInBounds_toArray, List.set_cons_zero, List.set_cons_succ]
          refine RelO.next (k' := 4) rfl (fun W gW hF => ?_) ?_
          focus
            obtain ⟨h2, _⟩ := hF
            have e2 : val 2 = rg (F r) (V r) := h2 _ (Frm.refl _ W)
            try simp only [e2]
            try simp only [tupAt]
            refine OpOK.call (by rfl) ?_ ((their_any (F r) (V r) (L r) W ((HM.out W (D.trans gW)).sl r hr) (by have := HFW.out; omega)).mono ?_)
            · first | (go_simp; done) | (go_simp; with_reducible rfl) | (go_simp; rfl)
            · rintro e W1 ⟨v', rfl, o', g', _⟩
              exact ⟨_, rfl, g', fun W2 g2 => ⟨v', rfl, o'.sl.keepF g2⟩⟩
          try simp only [Act.put, List.setIfInBounds_toArray, List.set_cons_zero, List.set_cons_succ]
          refine RelO.next (k' := 5) rfl (fun W gW hF => ?_) ?_
          focus
            refine OpOK.val (u := .int .i64 (r : Int)) (by rfl) ?_ (fun W' _ => rfl)
            try simp only [tupAt]
            first | (go_simp; done) | (go_simp; with_reducible rfl) | (go_simp; rfl)
          try simp only [Act.put, List.setIfInBounds_toArray, List.set_cons_zero, List.set_cons_succ]
          refine RelO.next (k' := 6) rfl (fun W gW hF => ?_) ?_
          focus
            obtain ⟨h4, _⟩ := hF
            have e4 : val 4 = .int .i64 (r : Int) := h4 _ (Frm.refl _ W)
            try simp only [e4]
            try simp only [tupAt]
            refine OpOK.val (u := .pointer (some ⟨A + 1, r, none⟩)) (by rfl) ?_ (fun W' _ => rfl)
            try simp only [e4]
            try simp only [tupAt]
            first | (go_simp; done) | (go_simp; with_reducible rfl) | (go_simp; rfl)
          try simp only [Act.put, List.setIfInBounds_toArray, List.set_cons_zero, List.set_cons_succ]
          refine RelO.next (k' := 7) rfl (fun W gW hF => ?_) ?_
          focus
            obtain ⟨h5, _⟩ := hF
            have e5 : val 5 = .pointer (some ⟨A + 1, r, none⟩) := h5 _ (Frm.refl _ W)
            try simp only [e5]
            try simp only [tupAt]
            exact OpOK.load (by rfl) _ rfl (by rfl) ((HM.out W (D.trans gW)).load hr) (fun W' _ => rfl)
          try simp only [Act.put, List.setIfInBounds_toArray, List.set_cons_zero, List.set_cons_succ]
          refine RelO.next (k' := 8) rfl (fun W gW hF => ?_) ?_
          focus
            obtain ⟨h6, _⟩ := hF
            have e6 : val 6 = .agg #[u r] := h6 _ (Frm.refl _ W)
            try simp only [e6]
            try simp only [tupAt]
            refine OpOK.call (by rfl) ?_ ((knreg_any (u r) (Q r) W ((HM.out W (D.trans gW)).kl r hr) HOW.out (by have := HQ.out; omega)).mono ?_)
            · first | (go_simp; done) | (go_simp; with_reducible rfl) | (go_simp; rfl)
            · rintro e W1 ⟨v', rfl, h1, g1⟩
              exact ⟨_, rfl, g1, fun W2 g2 => ⟨v', rfl, h1.keepF g2⟩⟩
          try simp only [Act.put, List.setIfInBounds_toArray, List.set_cons_zero, List.set_cons_succ]
          refine RelO.next (k' := 9) rfl (fun W gW hF => ?_) ?_
          focus
            obtain ⟨h3, h7, _⟩ := hF
            have q3 : ∃ z, (val 3) = rg (F r) z ∧ SL W z (L r) := h3 _ (Frm.refl _ W)
            obtain ⟨z78, e3, o78⟩ := q3
            have q7 : ∃ z, (val 7) = rg (ctxK (fun _ => 0) ((Q r).map Prod.fst)) z ∧ SL W z (sibK ((Q r).map Prod.fst) [] ((Q r).map Prod.fst)) := h7 _ (Frm.refl _ W)
            obtain ⟨z82, e7, o82⟩ := q7
            try simp only [e7]
            try simp only [e3]
            try simp only [tupAt]
            refine OpOK.call (by rfl) ?_ ((requal_any (F r) (ctxK (fun _ => 0) ((Q r).map Prod.fst)) z78 z82 (L r) _ W o78 o82).mono ?_)
            · first | (go_simp; done) | (go_simp; with_reducible rfl) | (go_simp; rfl)
            · rintro e W1 ⟨he, g1⟩
              rw [HRG.out] at he
              subst he
              exact ⟨_, rfl, g1, fun W2 _ => rfl⟩
          try simp only [Act.put, List.setIfInBounds_toArray, List.set_cons_zero, List.set_cons_succ]
          refine RelO.next (k' := 10) rfl (fun W gW hF => ?_) ?_
          focus
            obtain ⟨h8, _⟩ := hF
            have e8 : val 8 = .bool true := h8 _ (Frm.refl _ W)
            try simp only [e8]
            try simp only [tupAt]
            refine OpOK.val (u := .bool false) (by rfl) ?_ (fun W' _ => rfl)
            try simp only [e8]
            try simp only [tupAt]
            first | (go_simp; done) | (go_simp; with_reducible rfl) | (go_simp; rfl)
          try simp only [Act.put, List.setIfInBounds_toArray, List.set_cons_zero, List.set_cons_succ]
          exact RelO.nil
        intro val w9 gW hF
        obtain ⟨h0, h1, h2, h3, h4, h5, h6, h7, h8, h9, hT⟩ := hF
        have e0 : val 0 = .int .i64 (r : Int) := h0 _ (Frm.refl _ w9)
        have e1 : val 1 = .pointer (some ⟨A, r * 9, none⟩) := h1 _ (Frm.refl _ w9)
        have e2 : val 2 = rg (F r) (V r) := h2 _ (Frm.refl _ w9)
        have q3 : ∃ z, (val 3) = rg (F r) z ∧ SL w9 z (L r) := h3 _ (Frm.refl _ w9)
        obtain ⟨z78, e3, o78⟩ := q3
        have e4 : val 4 = .int .i64 (r : Int) := h4 _ (Frm.refl _ w9)
        have e5 : val 5 = .pointer (some ⟨A + 1, r, none⟩) := h5 _ (Frm.refl _ w9)
        have e6 : val 6 = .agg #[u r] := h6 _ (Frm.refl _ w9)
        have q7 : ∃ z, (val 7) = rg (ctxK (fun _ => 0) ((Q r).map Prod.fst)) z ∧ SL w9 z (sibK ((Q r).map Prod.fst) [] ((Q r).map Prod.fst)) := h7 _ (Frm.refl _ w9)
        obtain ⟨z82, e7, o82⟩ := q7
        have e8 : val 8 = .bool true := h8 _ (Frm.refl _ w9)
        have e9 : val 9 = .bool false := h9 _ (Frm.refl _ w9)
        clear hT h0 h1 h2 h3 h4 h5 h6 h7 h8 h9
        simp only [aO, Act.put, List.setIfInBounds_toArray, List.set_cons_zero, List.set_cons_succ, Nat.reduceAdd]
        try simp only [e9]
        try simp only [e8]
        try simp only [e7]
        try simp only [e6]
        try simp only [e5]
        try simp only [e4]
        try simp only [e3]
        try simp only [e2]
        try simp only [e1]
        try simp only [e0]
        try simp only [tupAt]
        refine wpTail.doneN ?_
        refine hK _ _ ?_
        have HM9 := Lib.hid (HM.out w9 (D.trans gW))
        clear gW D hK o78 o82 HM HFW HQ HOW HRG HM8 e0 e1 e2 e3 e4 e5 e6 e7 e8 e9
        go_wp2_with fail
        go_roundw
        case rel => exact ⟨k + 1, E', F, V, L, u, Q, by omega, by go_num, HM9.out, HH8.out⟩
        case measure => simp [intOf]; have := HLN.out; omega
    · obtain rfl : k = l.length := by omega
      go_wp2_with fail
      refine (HWK.out wr).mono ?_
      rintro e w2 ⟨rfl, g⟩
      go_wp2_with fail
      go_ret
      exact ⟨rfl, HM0.out.frm.trans g⟩
end Go.Proofs.Ytojbgckabifnjaa

