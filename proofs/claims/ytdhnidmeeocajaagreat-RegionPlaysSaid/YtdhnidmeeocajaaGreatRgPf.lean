/- The document's own Format of a region. No condition. -/
import Derived.Test.YtdhnidmeeocajaaGreatRgPb
import Derived.Test.YtdhnidmeeocajaaGreatRgC
import Derived.Test.YtdhnidmeeocajaaGreatLnD
section
namespace Go.Proofs.YtdhnidmeeocajaaGreat
open Go.RowKit Go.Shelf

theorem RLnTo.next {w w' w'' : World} {p r : Nat} {fp fp1 : Nat → Prop} {L' : LV} (gr : Frm (fun k => k = p ∨ fp k) w w') (hfp : ∀ k, fp1 k → fp k ∨ w.heap.size ≤ k) (h2 : RLnTo p r fp1 L' w' w'') : RLnTo p r fp L' w w'' := by
  obtain ⟨fp2, a, g2, b⟩ := h2
  have hs := gr.size
  refine ⟨fp2, a, gr.next g2 fun k hk e => ?_, fun k hk => ?_⟩
  · rcases e with e | e
    · exact .inl e
    · rcases hfp k e with e | e
      · exact .inr e
      · omega
  · rcases b k hk with e | e
    · exact hfp k e
    · exact .inr (by omega)
/-- What the document's Format answers, and leaves. -/
def RFmtTo (p r : Nat) (fp : Nat → Prop) (L : LV) (q m : Int) (w : World) (e : Ending) (w' : World) : Prop :=
  ∃ v, e = .returned (.tuple #[v, .int .i64 ((fmtR L q m).2 : Nat)]) ∧ RLnTo p r fp (fmtR L q m).1 w w' ∧
    ((fmtR L q m).2 = 0 → ∃ b fp', v = .pointer (some ⟨b, 0, none⟩) ∧ w.heap.size ≤ b ∧ Blk w' b 84 #[.pointer (some ⟨p, 0, none⟩), .int .i64 q, .int .i64 m, .int .i64 0, .bool false] ∧ RLn w' p r fp' (fmtR L q m).1 ∧ Frm (fun k => k = p ∨ fp k) w w' ∧ (∀ k, fp' k → fp k ∨ w.heap.size ≤ k) ∧ ∀ k, fp' k → k < b) ∧ ((fmtR L q m).2 ≠ 0 → v = .pointer none)
set_option maxRecDepth 100000 in
set_option maxHeartbeats 4000000 in
theorem refformat_any (p r : Nat) (fp : Nat → Prop) (L : LV) (q m : Int) (w : World) (h : RLn w p r fp L) (ha : L.acts ≤ 900000) (hq : Z64 q) (hm : Z64 m) :
    Calls Tryz.prog 14 #[.pointer (some ⟨p, 0, none⟩), .int .i64 q, .int .i64 m] w (RFmtTo p r fp L q m w) := by
  have HC := refthere_any p r fp L q m w h hq hm
  unfold RFmtTo
  by_cases hc : rgC L.D.n q m = 0
  · have hr : fmtR L q m = L.seq (fmtA q.toNat m.toNat) := by unfold fmtR; rw [if_pos hc]
    rw [hr]
    rw [decide_eq_true hc] at HC
    obtain ⟨h1, h2, h3, h4⟩ := rgC_ok hc
    have hN := h.dok.hi
    obtain ⟨A, rfl⟩ := Int.eq_ofNat_of_zero_le h1
    obtain ⟨n, rfl⟩ := Int.eq_ofNat_of_zero_le (show 0 ≤ m by omega)
    rw [Int.toNat_natCast, Int.toNat_natCast]
    have hn : 2 ≤ n ∧ A + n ≤ L.D.n := by omega
    have hB : A ≤ 2048 ∧ n ≤ 2048 := by omega
    have HC := Lib.hid HC
    have HL := Lib.hid (And.intro h (And.intro ha hn))
    clear h hr hc h1 h2 h3 h4 hN hq hm ha hn
    obtain ⟨B, hBB⟩ : ∃ B, List.replicate n ([] : List UInt8) = B := ⟨_, rfl⟩
    have hBl : B.length = n := by rw [← hBB]; exact List.length_replicate
    have hBe : ∀ k (hk : k < B.length), B[k] = [] := fun k hk => by subst hBB; simp
    have hfm : L.seq (fmtA A n) = if (L.seq (wrs A B)).2 = 0 then (L.seq (wrs A B)).1.seq [DV.flush] else L.seq (wrs A B) := by unfold fmtA; rw [hBB, LV.seq_append]
    have HB := Lib.hid (And.intro hBl (And.intro hBe hfm))
    clear hBB hBl hBe hfm
    have hbe : (⟨#[]⟩ : ByteArray) = bs [] := rfl
    go_enter Tryz.func14, Tryz.ntmps14
    go_wp2_with fail
    refine HC.out.mono ?_
    rintro e w1 ⟨rfl, rfl⟩
    go_wp2_with fail
    go_loopw [8] (fun i wr => ∃ k : Nat, k ≤ n ∧ i = .int .i64 k ∧ (L.seq ((wrs A B).take k)).2 = 0 ∧ RLnTo p r fp (L.seq ((wrs A B).take k)).1 w wr) (fun i _ => n - (intOf i).toNat)
    case atStart => exact ⟨0, Nat.zero_le _, rfl, rfl, fp, HL.out.1, Frm.refl _ _, fun _ h => .inl h⟩
    case round =>
      obtain ⟨k, hk, rfl, hz, fp1, hln, gr, hfp⟩ := hrel
      have hs := seq_wrs L A B k
      obtain ⟨P, hp⟩ : ∃ P, (L.seq ((wrs A B).take k)).1 = P := ⟨_, rfl⟩
      by_cases hlt : k < n
      · have hkl : k < (wrs A B).length := by rw [wrs_len, HB.out.1]; exact hlt
        have hnx := LV.seq_next L (wrs A B) k hkl hz
        rw [wrs_at, HB.out.2.1] at hnx
        rw [hp] at hnx hs hln
        have hE : P.D.writeE ((A : Int) + (k : Int)) [] = 0 := writeE_ok (by omega) (by rw [hs.2.2.2]; have := HL.out.2.2.2; omega) (by simp)
        have HW := rlwrite_any p r fp1 P ((A : Int) + (k : Int)) [] wr hln (by have := HL.out.2.1; have := hs.2.1; omega) (by unfold Z64; omega) (by simp)
        rw [hE] at HW
        have hwd : P.D.writeTo ((A : Int) + (k : Int)) [] = wrD (A + k) [] P.D := by unfold wrD; rw [Int.natCast_add]
        rw [hwd] at HW
        have hcode := P.code_or
        obtain ⟨c, hcc⟩ : ∃ c, P.code 0 = c := ⟨_, rfl⟩
        rw [hcc] at HW hcode hnx
        have HW := Lib.hid HW
        have HNX := Lib.hid hnx
        have GR := Lib.hid (And.intro gr (And.intro hfp hkl))
        have hw64 : IntKind.i64.wrap ((A : Int) + (k : Int)) = (A : Int) + (k : Int) := IntWalk.i64_in _ (by omega)
        have hki : (k : Int) < (n : Int) := by omega
        clear hnx hln hE hwd hcc gr hfp hs hp hz hkl
        rcases hcode with rfl | rfl
        · go_wp2_with fail
          refine HW.out.mono ?_
          rintro e w1 ⟨rfl, h1⟩
          have H1 := Lib.hid (RLnTo.next GR.out.1 GR.out.2.1 h1)
          clear h1 HW
          go_wp2_with fail
          go_roundw
          case rel => exact ⟨k + 1, by omega, by go_num, by rw [HNX.out], by rw [HNX.out]; exact H1.out⟩
          case measure => simp [intOf]; omega
        · have hst : L.seq (fmtA A n) = (P.act (wrD (A + k) [] P.D), 8) := by
            rw [HB.out.2.2, LV.seq_stop L (wrs A B) (k + 1) (by rw [HNX.out]; show (8 : Nat) ≠ 0; decide), HNX.out, if_neg (show ¬ (8 : Nat) = 0 by decide)]
          have HS := Lib.hid hst
          clear hst
          go_wp2_with fail
          refine HW.out.mono ?_
          rintro e w1 ⟨rfl, h1⟩
          have H1 := Lib.hid (RLnTo.next GR.out.1 GR.out.2.1 h1)
          clear h1 HW
          go_wp2_with fail
          go_ret2
          rw [HS.out]
          exact ⟨_, rfl, H1.out, (fun e => by cases e), fun _ => rfl⟩
      · obtain rfl : k = n := by omega
        have hfull : (wrs A B).take k = wrs A B := List.take_of_length_le (by rw [wrs_len, HB.out.1]; exact Nat.le_refl _)
        rw [hfull] at hz hp hs hln
        have hst := HB.out.2.2
        rw [if_pos hz, seq_one] at hst
        rw [hp] at hs hln hst
        have HF := rlflush_any p r fp1 P wr hln (by have := HL.out.2.1; have := hs.2.1; omega)
        have hcode := P.code_or
        obtain ⟨c, hcc⟩ : ∃ c, P.code 0 = c := ⟨_, rfl⟩
        rw [hcc] at HF hcode hst
        have HF := Lib.hid HF
        have GR := Lib.hid (And.intro gr hfp)
        have HS := Lib.hid hst
        clear hst hln hcc gr hfp hs hp hz hfull
        rcases hcode with rfl | rfl
        · go_wp2_with fail
          refine HF.out.mono ?_
          rintro e w1 ⟨rfl, h1⟩
          have H1 := Lib.hid (And.intro (RLnTo.next GR.out.1 GR.out.2 h1) (Nat.le_trans GR.out.1.size (by obtain ⟨_, _, g, _⟩ := h1; exact g.size)))
          clear h1 HF
          go_wp2_with fail
          go_ret2
          rw [HS.out]
          have g5 : Frm (fun _ => False) w1 (w1.alloc (.cells #[.pointer (some ⟨p, 0, none⟩), .int .i64 (A : Nat), .int .i64 (k : Nat), .int .i64 0, .bool false] 84)) := (Frm.refl _ w1).alloc _
          obtain ⟨fp2, a1, a2, a3⟩ := H1.out.1
          exact ⟨_, rfl, ⟨fp2, a1.keepF g5, a2.trans (g5.mono fun _ _ h => h.elim), a3⟩, (fun _ => ⟨_, fp2, rfl, H1.out.2, Blk.alloc w1 _ _, a1.keepF g5, a2.trans (g5.mono fun _ _ h => h.elim), a3, a1.ref.lt⟩), fun h => absurd rfl h⟩
        · go_wp2_with fail
          refine HF.out.mono ?_
          rintro e w1 ⟨rfl, h1⟩
          have H1 := Lib.hid (RLnTo.next GR.out.1 GR.out.2 h1)
          clear h1 HF
          go_wp2_with fail
          go_ret2
          rw [HS.out]
          exact ⟨_, rfl, H1.out, (fun e => by cases e), fun _ => rfl⟩
  · have hc2 : rgC L.D.n q m = 2 := by unfold rgC at hc ⊢; split at hc <;> simp_all
    have hr : fmtR L q m = (L, 2) := by unfold fmtR; rw [if_neg hc, hc2]
    rw [hr]
    rw [decide_eq_false hc] at HC
    have HC := Lib.hid HC
    have HL := Lib.hid h
    clear h hc hc2 hr
    go_enter Tryz.func14, Tryz.ntmps14
    go_wp2_with fail
    refine HC.out.mono ?_
    rintro e w1 ⟨rfl, rfl⟩
    go_wp2_with fail
    go_ret2
    exact ⟨_, rfl, .same HL.out (Frm.refl _ _), (fun e => by cases e), fun _ => rfl⟩
end Go.Proofs.YtdhnidmeeocajaaGreat
end
section
namespace Go.Proofs.YtdhnidmeeocajaaGreat
open Go.RowKit
theorem beB_front (i : Nat) : ∀ n, beB (i + 1) n = UInt8.ofNat (n / 256 ^ i) :: beB i n := by
  induction i with
  | zero => intro n; simp [beB]
  | succ i ih =>
    intro n
    rw [beB, ih (n / 256), List.cons_append, Nat.div_div_eq_div_mul, Nat.mul_comm, ← Nat.pow_succ]
    rfl
theorem ofNat_mod (n : Nat) : UInt8.ofNat (n % 256) = UInt8.ofNat n := by
  apply UInt8.toNat_inj.1
  rw [UInt8.toNat_ofNat', UInt8.toNat_ofNat']
  omega
theorem u8s_one (n : Nat) (h : n < 256) : u8s [UInt8.ofNat n] = [.int .u8 n] := by
  have : (UInt8.ofNat n).toNat = n := by rw [UInt8.toNat_ofNat']; omega
  simp only [u8s, List.map_cons, List.map_nil, this]

set_option maxRecDepth 100000 in
set_option maxHeartbeats 1000000 in
theorem refFixed_any (n k : Nat) (hn : n < 4294967296) (hk : k ≤ 4) (w : World) :
    Calls Tryz.prog 115 #[.int .u32 n, .int .i64 k] w fun e w' => e = .returned (.string (bs (beB k n))) ∧ Frm (fun _ => False) w w' := by
  go_enter Tryz.func115, Tryz.ntmps115
  go_wp2
  go_loopw [0, 5, 6] (fun m s i wr => ∃ j : Nat, j ≤ k ∧ i = .int .i64 j ∧ m = .int .u32 (n / 256 ^ j : Nat) ∧ s = .string (bs (beB j n)) ∧ Frm (fun _ => False) w wr) (fun _ _ i _ => k - (intOf i).toNat)
  case atStart => exact ⟨0, Nat.zero_le _, rfl, by simp, rfl, Frm.refl _ _⟩
  case round =>
    obtain ⟨j, hj, rfl, rfl, rfl, f1⟩ := hrel
    obtain ⟨q, hq⟩ : ∃ q, n / 256 ^ j = q := ⟨_, rfl⟩
    rw [hq]
    have Hq := Lib.hid hq
    have hq2 : q < 4294967296 := by rw [← hq]; exact Nat.lt_of_le_of_lt (Nat.div_le_self _ _) hn
    have hsz : (bs (beB j n)).size ≤ 4 := by rw [bs_size, beB_len]; omega
    clear hq
    by_cases hlt : j < k
    · go_wp2_with fail
      rw [text_of_cells (l := [UInt8.ofNat (q % 256)]) _ 1 1 (Blk.alloc wr _ _) rfl (by rw [u8s_one (q % 256) (by omega), ← mod8a])]
      have hs1 : (bs [UInt8.ofNat (q % 256)]).size ≤ 1 := Nat.le_refl _
      have f2 := f1.alloc (.cells #[.int .u8 ((q : Int) % 256)] 5)
      go_wp2
      go_roundw
      case rel =>
        refine ⟨j + 1, by omega, by go_num, ?_, ?_, f2⟩
        · rw [Nat.pow_succ, ← Nat.div_div_eq_div_mul, Hq.out]; congr 1
        · rw [bs_append, beB_front, Hq.out, ofNat_mod]; rfl
      case measure => simp [intOf]; omega
    · obtain rfl : j = k := by omega
      go_wp2
      go_ret
      exact ⟨rfl, f1⟩

end Go.Proofs.YtdhnidmeeocajaaGreat
end
section
namespace Go.Proofs.YtdhnidmeeocajaaGreat
open Go.RowKit Go.Shelf

set_option maxRecDepth 100000 in
set_option maxHeartbeats 2000000 in
theorem refheader_any (g : Nat) (w : World) (hg : g < 4294967296) :
    Calls Tryz.prog 79 #[.int .u32 (g : Nat)] w fun e w' => e = .returned (.string (bs (hdB g))) ∧ Frm (fun _ => False) w w' := by
  have HF := Lib.hid (refFixed_any g 4 hg (by decide) w)
  have hl := beB_len 4 g
  have hx : bs (beB 4 g) ++ bs (List.replicate 56 0) ++ bs (beB 4 g) = bs (hdB g) := by
    rw [bs_append, bs_append]; unfold hdB nul; rw [List.append_assoc]
  obtain ⟨b4, hb4⟩ : ∃ b4, beB 4 g = b4 := ⟨_, rfl⟩
  obtain ⟨z, hz⟩ : ∃ z, List.replicate 56 (0 : UInt8) = z := ⟨_, rfl⟩
  have hzl : z.length = 56 := by rw [← hz]; exact List.length_replicate
  rw [hb4] at HF hl hx
  rw [hz] at hx
  have hmk : ∀ W : World, (Instr.makeSlice 77 (.int .i64 56) (.int .i64 56)).run Tryz.prog W = .ok (.slice (some ⟨W.heap.size, 0, none⟩) 56 56) (W.alloc (.cells (u8s z).toArray 5)) := fun W => by rw [← hz]; exact run_makeZ 56 (by decide) W
  have hcv : ∀ W : World, (convert 77 9 (.slice (some ⟨W.heap.size, 0, none⟩) 56 56)).run Tryz.prog (W.alloc (.cells (u8s z).toArray 5)) = .ok (.string (bs z)) (W.alloc (.cells (u8s z).toArray 5)) := fun W => by rw [← hz]; exact run_textZ 56 W
  have hn1 : ¬ 9223372036854775807 < (bs b4).size + (bs z).size := by rw [bs_size, bs_size]; omega
  have hn2 : ¬ 9223372036854775807 < (bs b4).size + (bs z).size + (bs b4).size := by rw [bs_size, bs_size]; omega
  have hn3 : ¬ 9223372036854775807 < (bs b4 ++ bs z).size + (bs b4).size := by rw [bs_append, bs_size, bs_size, List.length_append]; omega
  clear hb4 hz
  go_enter Tryz.func79, Tryz.ntmps79
  go_wp2_with fail
  refine HF.out.mono ?_
  rintro e w1 ⟨rfl, g1⟩
  have G1 := Lib.hid (g1.trans ((Frm.refl _ w1).alloc (.cells (u8s z).toArray 5)))
  clear g1 HF
  go_wp2_with fail
  go_ret
  exact ⟨rfl, G1.out⟩
end Go.Proofs.YtdhnidmeeocajaaGreat
end
section
namespace Go.Proofs.YtdhnidmeeocajaaGreat
open Go.RowKit Go.Shelf

/-- The document's region R at block b, over the document's line at block p. -/
structure RRg (w : World) (b p : Nat) (R : RV) : Prop where
  blk : Blk w b 84 #[.pointer (some ⟨p, 0, none⟩), .int .i64 (R.at_ : Nat), .int .i64 (R.n : Nat), .int .i64 (R.used : Nat), .bool R.bad]
  lo : 2 ≤ R.n
  hi : R.n ≤ 2048
  us : R.used + 1 ≤ R.n
section
variable {w w' : World} {b p : Nat} {R : RV}
theorem RRg.keep {X : Nat → Prop} (h : RRg w b p R) (hf : Frm X w w') (hn : ¬ X b) : RRg w' b p R := ⟨h.blk.keep hf hn, h.lo, h.hi, h.us⟩
theorem RRg.keepF (h : RRg w b p R) (hf : Frm (fun _ => False) w w') : RRg w' b p R := h.keep hf (fun h => h)
end
set_option maxRecDepth 100000 in
set_option maxHeartbeats 2000000 in
theorem refleft_any (b p : Nat) (R : RV) (w : World) (h : RRg w b p R) :
    Calls Tryz.prog 20 #[.pointer (some ⟨b, 0, none⟩)] w fun e w' => e = .returned (.int .i64 (R.left : Nat)) ∧ Frm (fun _ => False) w w' := by
  have c2 : w.cell? ⟨b, 2, none⟩ = some (.int .i64 (R.n : Nat)) := h.blk.cell 2 rfl
  have c3 : w.cell? ⟨b, 3, none⟩ = some (.int .i64 (R.used : Nat)) := h.blk.cell 3 rfl
  have h1 := h.lo
  have h2 := h.hi
  have h3 := h.us
  have hl : ((R.n : Nat) : Int) - 1 - (R.used : Nat) = (R.left : Nat) := by unfold RV.left; omega
  obtain ⟨n, hn⟩ : ∃ n, R.n = n := ⟨_, rfl⟩
  obtain ⟨u, hu⟩ : ∃ u, R.used = u := ⟨_, rfl⟩
  obtain ⟨l, hll⟩ : ∃ l, R.left = l := ⟨_, rfl⟩
  rw [hn] at c2 h1 h2 h3 hl
  rw [hu] at c3 h3 hl
  rw [hll] at hl ⊢
  have w1 : IntKind.i64.wrap ((n : Int) - 1) = (n : Int) - 1 := IntWalk.i64_in _ (by omega)
  have w2 : IntKind.i64.wrap ((n : Int) - 1 - (u : Int)) = (l : Int) := by rw [IntWalk.i64_in _ (by omega)]; exact hl
  clear h hn hu hll hl
  go_enter Tryz.func20, Tryz.ntmps20
  go_wp2_with fail
  refine wp_region_canon (fun W => W.cell? ⟨b, 2, none⟩ = some (.int .i64 (n : Nat)) ∧ W.cell? ⟨b, 3, none⟩ = some (.int .i64 (u : Nat)) ∧ Frm (fun _ => False) w W) (by kernel_rfl) rfl (by kernel_rfl) (by kernel_rfl) (⟨c2, c3, (Frm.refl _ w).drew⟩) ?_
  repeat' first
    | (refine CanonL.skip (by rfl) ?_; (try simp only [Act.put, List.setIfInBounds_toArray, List.set_cons_zero, List.set_cons_succ]))
    | (refine CanonL.val (v := ?_) (by rfl) ?_ ?_; rotate_left 1; (focus (intro w hSw; (try dsimp only at hSw); go_simp; (try (with_reducible rfl)); done)); (try simp only [Act.put, List.setIfInBounds_toArray, List.set_cons_zero, List.set_cons_succ]))
  refine CanonL.done ?_
  intro w9 hS9
  have G9 := Lib.hid hS9.2.2
  clear hS9 c2 c3
  go_wp2_with fail
  go_ret
  exact ⟨rfl, G9.out⟩
end Go.Proofs.YtdhnidmeeocajaaGreat
end
section
namespace Go.Proofs.YtdhnidmeeocajaaGreat
open Go.RowKit Go.Shelf

/-- The document's region R at block b, and its line L. -/
structure RRM (w : World) (b p r : Nat) (fp : Nat → Prop) (R : RV) (L : LV) : Prop where
  rg : RRg w b p R
  ln : RLn w p r fp L
  bp : b ≠ p
  nf : ¬ fp b
  np : L.cs.length = 0 ∨ ∀ k, L.P k → k ≠ b
/-- A call on it: what it answers, and leaves. -/
def RRTo (b p r : Nat) (fp : Nat → Prop) (t : RV × LV × Nat) (w : World) (e : Ending) (w' : World) : Prop :=
  e = .returned (.int .i64 (t.2.2 : Nat)) ∧ ∃ fp', RRM w' b p r fp' t.1 t.2.1 ∧ Frm (fun k => k = b ∨ k = p ∨ fp k) w w' ∧ ∀ k, fp' k → fp k ∨ w.heap.size ≤ k
section
variable {w w' w'' : World} {b p r : Nat} {fp fp' : Nat → Prop} {R : RV} {L L' : LV}
theorem RRM.keepF (h : RRM w b p r fp R L) (hf : Frm (fun _ => False) w w') : RRM w' b p r fp R L := ⟨h.rg.keepF hf, h.ln.keepF hf, h.bp, h.nf, h.np⟩
/-- The line did something. -/
theorem RRM.lined (h : RRM w b p r fp R L) (h1 : RLn w' p r fp' L') (hg : Frm (fun k => k = p ∨ fp k) w w') (hf : ∀ k, fp' k → fp k ∨ w.heap.size ≤ k) (hP : L'.P = L.P) (hc : L'.cs = L.cs) : RRM w' b p r fp' R L' :=
  ⟨h.rg.keep hg (fun e => e.elim h.bp h.nf), h1, h.bp, (fun e => by have := h.rg.blk.lt; rcases hf b e with e | e; exact h.nf e; omega), by rw [hc, hP]; exact h.np⟩
/-- It broke. -/
theorem RRM.broke (h : RRM w b p r fp R L) : RRM (w.setCell ⟨b, 4, none⟩ (.bool true)) b p r fp ⟨R.at_, R.n, R.used, true⟩ L ∧ Frm (· = b) w (w.setCell ⟨b, 4, none⟩ (.bool true)) := by
  have g : Frm (· = b) w (w.setCell ⟨b, 4, none⟩ (.bool true)) := (Frm.refl (· = b) w).setCell (fun _ => rfl) _
  have hb := h.rg.blk.set 4 (.bool true)
  obtain ⟨cv, hl⟩ := h.ln
  refine ⟨⟨⟨hb, h.rg.lo, h.rg.hi, h.rg.us⟩, ⟨cv, hl.keep g (fun e => h.bp e.symm) (fun k hk e => h.nf (e ▸ hk)) ?_⟩, h.bp, h.nf, h.np⟩, g⟩
  rcases hl.za with hz | hz
  · exact .inl hz
  · exact h.np.imp id fun q k hk e => q k (hz k hk).2.2 e
end
theorem errB_eq (R : RV) (c : Nat) (hb : R.bad = false) (hc : c = 0) : ({ R with bad := errB c } : RV) = R := by
  subst hc
  cases R
  simp only at hb
  subst hb
  rfl
set_option maxRecDepth 100000 in
set_option maxHeartbeats 2000000 in
theorem refflush_any (b p r : Nat) (fp : Nat → Prop) (R : RV) (L : LV) (w : World) (h : RRM w b p r fp R L) (ha : L.acts ≤ 1000000) :
    Calls Tryz.prog 50 #[.pointer (some ⟨b, 0, none⟩)] w (RRTo b p r fp (flR R L) w) := by
  have c0 : w.cell? ⟨b, 0, none⟩ = some (.pointer (some ⟨p, 0, none⟩)) := h.rg.blk.cell 0 rfl
  have c4 : w.cell? ⟨b, 4, none⟩ = some (.bool R.bad) := h.rg.blk.cell 4 rfl
  unfold flR RRTo
  cases hb : R.bad with
  | true =>
    rw [hb] at c4
    have HR := Lib.hid h
    clear h hb ha
    go_enter Tryz.func50, Tryz.ntmps50
    go_wp2_with fail
    go_ret
    exact ⟨rfl, fp, HR.out, Frm.refl _ _, fun _ h => .inl h⟩
  | false =>
    rw [hb] at c4
    have HF := rlflush_any p r fp L w h.ln ha
    have hs := LV.act_same L L.D.flush
    rw [seq_one]
    have hcode := L.code_or
    obtain ⟨c, hc⟩ : ∃ c, L.code 0 = c := ⟨_, rfl⟩
    rw [hc] at HF hcode ⊢
    have HF := Lib.hid HF
    have HR := Lib.hid h
    have HB := Lib.hid hb
    have HS := Lib.hid hs
    clear h hb ha hc hs
    rcases hcode with rfl | rfl
    · go_enter Tryz.func50, Tryz.ntmps50
      go_wp2_with fail
      refine HF.out.mono ?_
      rintro e w1 ⟨rfl, fp1, h1, g1, f1⟩
      have H1 := Lib.hid (And.intro (HR.out.lined h1 g1 f1 HS.out.1 HS.out.2.2.2) (And.intro (g1.mono fun _ _ h => .inr h : Frm (fun k => k = b ∨ k = p ∨ fp k) w w1) f1))
      clear h1 g1 f1 HF
      go_wp2_with fail
      go_ret
      have he : RRM w1 b p r fp1 { R with bad := errB 0 } (L.act L.D.flush) := by rw [errB_eq R 0 HB.out rfl]; exact H1.out.1
      exact ⟨rfl, fp1, he, H1.out.2.1, H1.out.2.2⟩
    · go_enter Tryz.func50, Tryz.ntmps50
      go_wp2_with fail
      refine HF.out.mono ?_
      rintro e w1 ⟨rfl, fp1, h1, g1, f1⟩
      have hM := HR.out.lined h1 g1 f1 HS.out.1 HS.out.2.2.2
      have hB := hM.broke
      have f4 := hM.rg.blk.free 4
      have H1 := Lib.hid (And.intro hB.1 (And.intro ((g1.mono fun _ _ h => .inr h : Frm (fun k => k = b ∨ k = p ∨ fp k) w w1).trans (hB.2.mono fun _ _ h => .inl h)) f1))
      have c04 : w1.cell? ⟨b, 4, none⟩ = some (.bool R.bad) := hM.rg.blk.cell 4 rfl
      clear h1 g1 f1 HF hM hB
      go_wp2_with fail
      go_ret
      exact ⟨rfl, fp1, H1.out.1, H1.out.2.1, H1.out.2.2⟩
end Go.Proofs.YtdhnidmeeocajaaGreat
end
