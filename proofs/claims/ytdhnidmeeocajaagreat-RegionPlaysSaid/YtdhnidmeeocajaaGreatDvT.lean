/- The document's device in memory: its firm texts, its list; where a block stands; what is read. No condition. -/
import Derived.Test.YtdhnidmeeocajaaGreatLnD
import Derived.Test.YtdhnidmeeocajaaGreatStrs
import Derived.BigQuiet
section
namespace Go.Proofs.YtdhnidmeeocajaaGreat
open Go.RowKit Go.Shelf

def frc (p : Nat × List UInt8) : List Value := [.int .i64 (p.1 : Nat), .string (bs p.2)]
theorem frc_len (p : Nat × List UInt8) : (frc p).length = 2 := rfl
theorem frc_one (p : Nat × List UInt8) : ∀ u ∈ frc p, u.oneCell' = true := fun u hu => by
  simp [frc] at hu
  rcases hu with rfl | rfl <;> rfl
def FrL (w : World) (v : Value) (l : List (Nat × List UInt8)) : Prop := Sl w 2 v l.length (flat frc l)
def OwnF (w : World) (v : Value) (l : List (Nat × List UInt8)) : Prop := Row w 2 v l.length (flat frc l)
theorem OwnF.frl {w : World} {v : Value} {l : List (Nat × List UInt8)} (h : OwnF w v l) : FrL w v l := Sl.ofRow h
theorem FrL.slice {w : World} {v : Value} {l : List (Nat × List UInt8)} (h : FrL w v l) : ∃ a cap, v = .slice a l.length cap ∧ l.length ≤ cap ∧ cap ≤ maxLen := Sl.slice h
theorem FrL.elem {w : World} {a : Option Addr} {cap : Nat} {l : List (Nat × List UInt8)} (h : FrL w (.slice a l.length cap) l) (k : Nat) (hk : k < l.length) : ∃ g off, a = some ⟨g, off, none⟩ ∧ g < w.heap.size ∧ w.cell? ⟨g, off + k * 2, none⟩ = some (.int .i64 (l[k].1 : Nat)) ∧ w.cell? ⟨g, off + k * 2 + 1, none⟩ = some (.string (bs l[k].2)) := by
  obtain ⟨g, off, rfl, h0, hc⟩ := Sl.elem frc frc_len h k hk (by omega)
  exact ⟨g, off, rfl, h0, hc 0 (by omega), by rw [Nat.add_assoc]; exact hc 1 (by omega)⟩
/-- The document's device at block r: its texts A, its list B; where it lies is among fp. -/
structure RefC (w : World) (r : Nat) (A : List (List UInt8)) (B : List (Nat × List UInt8)) (fp : Nat → Prop) (va vb : Value) : Prop where
  blk : Blk w r 76 #[va, vb]
  firm : OwnS w va A
  list : OwnF w vb B
  fr : fp r
  fa : ∀ g, va.ownBlock = some g → fp g ∧ g ≠ r
  fb : ∀ g, vb.ownBlock = some g → fp g ∧ g ≠ r ∧ va.ownBlock ≠ some g
  lt : ∀ k, fp k → k < w.heap.size
def RefM (w : World) (r : Nat) (D : DV) (fp : Nat → Prop) : Prop := ∃ va vb, RefC w r (FRs D) (FLs D) fp va vb
section
variable {w w' : World} {r : Nat} {A : List (List UInt8)} {B : List (Nat × List UInt8)} {fp : Nat → Prop} {va vb : Value} {D : DV}
theorem RefC.keep {X : Nat → Prop} (h : RefC w r A B fp va vb) (hf : Frm X w w') (hn : ∀ k, fp k → ¬ X k) : RefC w' r A B fp va vb :=
  ⟨h.blk.keep hf (hn r h.fr), h.firm.keep hf (fun g hg => hn g (h.fa g hg).1), Row.keep h.list hf (fun g hg => hn g (h.fb g hg).1), h.fr, h.fa, h.fb, fun k hk => Nat.lt_of_lt_of_le (h.lt k hk) hf.size⟩
theorem RefM.keep {X : Nat → Prop} (h : RefM w r D fp) (hf : Frm X w w') (hn : ∀ k, fp k → ¬ X k) : RefM w' r D fp := by
  obtain ⟨va, vb, h⟩ := h
  exact ⟨va, vb, h.keep hf hn⟩
theorem RefM.keepF (h : RefM w r D fp) (hf : Frm (fun _ => False) w w') : RefM w' r D fp := h.keep hf fun _ _ h => h
theorem RefM.lt (h : RefM w r D fp) : ∀ k, fp k → k < w.heap.size := by
  obtain ⟨va, vb, h⟩ := h
  exact h.lt
end
set_option maxRecDepth 100000 in
set_option maxHeartbeats 2000000 in
theorem place_any (r : Nat) (A : List (List UInt8)) (B : List (Nat × List UInt8)) (fp : Nat → Prop) (va vb : Value) (q : Int) (w : World) (h : RefC w r A B fp va vb) (hl : B.length ≤ 1000000) :
    Calls Tryz.prog 83 #[.pointer (some ⟨r, 0, none⟩), .int .i64 q] w fun e w' => ∃ k, ∃ is : Bool, e = .returned (.tuple #[.int .i64 (k : Nat), .bool is]) ∧ k ≤ B.length ∧ (∀ j (hj : j < B.length), j < k → (B[j].1 : Int) < q) ∧ (∀ hk : k < B.length, q ≤ (B[k].1 : Int) ∧ is = decide ((B[k].1 : Int) = q)) ∧ (¬ k < B.length → is = false) ∧ Frm (fun _ => False) w w' := by
  have hl2 := hl
  obtain ⟨a, cap, rfl, hc1, hc2⟩ := h.list.frl.slice
  unfold maxLen at hc2
  have c1 := h.blk.cell 1 rfl
  have H := Lib.hid h
  clear h
  go_enter Tryz.func83, Tryz.ntmps83
  go_wp2_with fail
  go_loopw [6] (fun i wr => ∃ k : Nat, k ≤ B.length ∧ i = .int .i64 k ∧ (∀ j (hj : j < B.length), j < k → (B[j].1 : Int) < q) ∧ Frm (fun _ => False) w wr) (fun i _ => B.length - (intOf i).toNat)
  case atStart => exact ⟨0, Nat.zero_le _, rfl, fun j _ h => absurd h (Nat.not_lt_zero _), Frm.refl _ _⟩
  case round =>
    obtain ⟨k, hk, rfl, hall, gr⟩ := hrel
    have c1 := (H.out.blk.keep gr (fun h => h)).cell 1 rfl
    have HR := Lib.hid (And.intro hall gr)
    clear hall gr
    by_cases hlt : k < B.length
    · obtain ⟨g, off, rfl, hg, e0, _⟩ := FrL.elem (show FrL wr _ B from Sl.keepF H.out.list.frl HR.out.2) k hlt
      have hki : (k : Int) < (B.length : Int) := by omega
      have hk0 : (0 : Int) ≤ (k : Int) := by omega
      obtain ⟨m, hm⟩ : ∃ m, B[k].1 = m := ⟨_, rfl⟩
      rw [hm] at e0
      by_cases hq : (m : Int) < q
      · have hqd : decide ((m : Int) < q) = true := decide_eq_true hq
        go_wp2_with fail
        go_roundw
        case rel =>
          refine ⟨k + 1, by omega, by go_num, fun j hj hjk => ?_, HR.out.2⟩
          by_cases e : j = k
          · subst e; rw [hm]; exact hq
          · exact HR.out.1 j hj (by omega)
        case measure => simp [intOf]; omega
      · have hqd : decide ((m : Int) < q) = false := decide_eq_false hq
        by_cases hmq : (m : Int) = q
        · have hbe : ((m : Int) == q) = true := by rw [beq_iff_eq]; exact hmq
          have HMQ := Lib.hid hmq
          clear hmq
          go_wp2_with fail
          go_quiet (fail)
          go_wp2_with fail
          go_ret2
          exact ⟨k, true, rfl, by omega, HR.out.1, fun _ => ⟨by rw [hm]; omega, by rw [hm]; exact (decide_eq_true HMQ.out).symm⟩, fun h => absurd hlt h, HR.out.2.drewN _⟩
        · have hbe : ((m : Int) == q) = false := by rw [beq_eq_false_iff_ne]; exact hmq
          go_wp2_with fail
          go_quiet (fail)
          go_wp2_with fail
          go_ret2
          exact ⟨k, false, rfl, by omega, HR.out.1, fun _ => ⟨by rw [hm]; omega, by rw [hm]; exact (decide_eq_false hmq).symm⟩, fun h => absurd hlt h, HR.out.2.drewN _⟩
    · obtain rfl : k = B.length := by omega
      go_wp2_with fail
      go_quiet (fail)
      go_wp2_with fail
      go_ret2
      exact ⟨B.length, false, rfl, Nat.le_refl _, HR.out.1, fun h => absurd h (Nat.lt_irrefl _), fun _ => rfl, HR.out.2.drewN _⟩
/-- Where a block stands. -/
theorem place_ref (r : Nat) (D : DV) (fp : Nat → Prop) (va vb : Value) (q : Nat) (w : World) (h : RefC w r (FRs D) (FLs D) fp va vb) (hok : D.ok) (hq : q < D.n) :
    Calls Tryz.prog 83 #[.pointer (some ⟨r, 0, none⟩), .int .i64 (q : Int)] w fun e w' => e = .returned (.tuple #[.int .i64 (D.rank q : Nat), .bool (D.X q).isSome]) ∧ Frm (fun _ => False) w w' := by
  have hi := hok.hi
  have hfl := D.fresh_len
  have hll := FLs_len D
  refine (place_any r (FRs D) (FLs D) fp va vb (q : Int) w h (by omega)).mono ?_
  rintro e w' ⟨k, is, rfl, hk, h1, h2, h3, g⟩
  have hr : k = D.rank q := place_rank D q k hq (by omega) (fun j hj hjk => by
    have := h1 j (by omega) hjk
    rw [FLs_at D j (by omega) hj] at this
    exact Int.ofNat_lt.1 this) (fun hkl => by
    have := (h2 (by omega)).1
    rw [FLs_at D k (by omega) hkl] at this
    exact Int.ofNat_le.1 this)
  refine ⟨?_, g⟩
  have his : is = (D.X q).isSome := by
    cases hx : (D.X q).isSome with
    | true =>
      have hat := DV.at_rank hok hx
      rw [← hr] at hat
      obtain ⟨hkl, hke⟩ := List.getElem?_eq_some_iff.1 hat
      have := (h2 (by omega)).2
      rw [FLs_at D k (by omega) hkl, hke] at this
      rw [this]
      simp
    | false =>
      by_cases hkl : k < (FLs D).length
      · have hkl2 : k < D.fresh.length := by omega
        have := (h2 hkl).2
        rw [FLs_at D k hkl hkl2] at this
        rw [this]
        have hne : D.fresh[k] ≠ q := fun e => DV.not_rank hok hx (i := k) (by rw [List.getElem?_eq_getElem hkl2, e])
        refine decide_eq_false fun e => hne (by have e2 : ((D.fresh[k] : Nat) : Int) = (q : Int) := e; omega)
      · exact h3 hkl
  rw [hr, his]
end Go.Proofs.YtdhnidmeeocajaaGreat
end
section
namespace Go.Proofs.YtdhnidmeeocajaaGreat
open Go.RowKit Go.Shelf

set_option maxRecDepth 100000 in
set_option maxHeartbeats 4000000 in
theorem read_ref (r : Nat) (D : DV) (fp : Nat → Prop) (q : Int) (w : World) (h : RefM w r D fp) (hok : D.ok) (hq : Z64 q) :
    Calls Tryz.prog 113 #[.pointer (some ⟨r, 0, none⟩), .int .i64 q] w fun e w' => e = .returned (.tuple #[.string (bs (if D.bad q then [] else D.read q.toNat)), .int .i64 (if D.bad q then 2 else 0)]) ∧ Frm (fun _ => False) w w' := by
  obtain ⟨va, vb, h⟩ := h
  obtain ⟨a, cap, rfl, hc1, hc2⟩ := h.firm.reads.slice
  rw [FRs_len] at hc1
  have e1 : (FRs D).length = D.n := FRs_len D
  have c0 : w.cell? ⟨r, 0, none⟩ = some (.slice a D.n cap) := by rw [← e1]; exact h.blk.cell 0 rfl
  unfold maxLen at hc2
  have H := Lib.hid (And.intro h hok)
  have hi := hok.hi
  clear h hok
  cases hb : D.bad q with
  | true =>
    have hb2 := of_decide_eq_true hb
    clear hb e1
    by_cases hneg : q < 0
    · go_enter Tryz.func113, Tryz.ntmps113
      go_wp2_with fail
      go_ret2
      exact ⟨rfl, Frm.refl _ _⟩
    · have hge : (D.n : Int) ≤ q := by omega
      go_enter Tryz.func113, Tryz.ntmps113
      go_wp2_with fail
      go_ret2
      exact ⟨rfl, Frm.refl _ _⟩
  | false =>
    have hb2 := of_decide_eq_false hb
    clear hb
    obtain ⟨k, rfl⟩ : ∃ k : Nat, q = (k : Int) := ⟨q.toNat, by omega⟩
    have hkN : k < D.n := by omega
    have hkn : (k : Int) < (D.n : Int) := by omega
    have hk0 : (0 : Int) ≤ (k : Int) := by omega
    have HP := place_ref r D fp _ _ k w H.out.1 H.out.2 hkN
    rw [show ((k : Int)).toNat = k from rfl]
    cases hx : D.X k with
    | none =>
      have hrd : D.read k = D.F k := DV.read_none hx
      rw [hx] at HP
      have HP := Lib.hid HP
      rw [hrd]
      clear hb2 hx hrd
      go_enter Tryz.func113, Tryz.ntmps113
      go_wp2_with fail
      refine HP.out.mono ?_
      rintro e w1 ⟨rfl, g1⟩
      have hC := H.out.1.keep g1 (fun _ _ h => h)
      have c0 : w1.cell? ⟨r, 0, none⟩ = some (.slice a D.n cap) := by rw [← e1]; exact hC.blk.cell 0 rfl
      obtain ⟨g, off, rfl, hg, c1⟩ := Strs.at (show Strs w1 (.slice a (FRs D).length cap) (FRs D) from hC.firm.reads) k (by omega)
      rw [FRs_at] at c1
      have G1 := Lib.hid g1
      clear g1 hC e1
      go_wp2_with fail
      go_ret2
      exact ⟨rfl, G1.out⟩
    | some l =>
      have hrd : D.read k = l := by unfold DV.read; rw [hx]; rfl
      have hat := FLs_rank H.out.2 hx
      rw [hx] at HP
      have HP := Lib.hid HP
      rw [hrd]
      clear hb2 hx hrd
      obtain ⟨hRl, hRe⟩ := List.getElem?_eq_some_iff.1 hat
      obtain ⟨R, hR⟩ : ∃ R, D.rank k = R := ⟨_, rfl⟩
      obtain ⟨N, hN⟩ : ∃ N, (FLs D).length = N := ⟨_, rfl⟩
      rw [hR] at HP
      simp only [hR] at hRl hRe
      go_enter Tryz.func113, Tryz.ntmps113
      go_wp2_with fail
      refine HP.out.mono ?_
      rintro e w1 ⟨rfl, g1⟩
      have hC := H.out.1.keep g1 (fun _ _ h => h)
      obtain ⟨al, cl, rfl, hcl1, hcl2⟩ := hC.list.frl.slice
      unfold maxLen at hcl2
      have c2 : w1.cell? ⟨r, 1, none⟩ = some (.slice al N cl) := by rw [← hN]; exact hC.blk.cell 1 rfl
      obtain ⟨g, off, rfl, hg, _, c1⟩ := FrL.elem (show FrL w1 _ (FLs D) from hC.list.frl) R hRl
      rw [hRe] at c1
      have hri : (R : Int) < (N : Int) := by omega
      have hr0 : (0 : Int) ≤ (R : Int) := by omega
      have G1 := Lib.hid g1
      rw [hN] at hcl1
      clear g1 hC e1 hRe hat
      go_wp2_with fail
      go_ret2
      exact ⟨rfl, G1.out⟩
end Go.Proofs.YtdhnidmeeocajaaGreat
end
