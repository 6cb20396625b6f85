/- The document's own Equal, Check: of any registers. No condition but that the numbers have their bits. -/
import Derived.Test.YtmdmkcofafhlcaaSwD
import Derived.Test.YtmdmkcofafhlcaaSibN
namespace Go.Proofs.Ytmdmkcofafhlcaa
open Go.RowKit

theorem run_eq_rvec (f g : Nat → Nat) (w : World) : (Op.equalIn 10000 23 (.agg (vv f)) (.agg (vv g))).run Try.prog w = .ok (eq8 f g) w := by
  have u3 := Try.underlying22
  have a3 := Try.isAgg22
  have z3 := Try.sizeOf22
  rw [show (10000 : Nat) = 9999 + 1 from rfl, Op.equalIn]
  simp only [Sem.run_bind, run_underlying Try.underlying23, Result.andThen_ok]
  simp only [Std.Legacy.Range.forIn_eq_forIn_range', Std.Legacy.Range.size, Nat.sub_zero, Nat.add_sub_cancel, Nat.div_one, List.range'_succ, List.range'_zero, List.forIn_cons, List.forIn_nil]
  go_simp
  simp only [Int.natCast_inj, eq8]
  by_cases h0 : f 0 = g 0
  case neg => simp [h0]
  by_cases h1 : f 1 = g 1
  case neg => simp [h1]
  by_cases h2 : f 2 = g 2
  case neg => simp [h2]
  by_cases h3 : f 3 = g 3
  case neg => simp [h3]
  by_cases h4 : f 4 = g 4
  case neg => simp [h4]
  by_cases h5 : f 5 = g 5
  case neg => simp [h5]
  by_cases h6 : f 6 = g 6
  case neg => simp [h6]
  by_cases h7 : f 7 = g 7
  case neg => simp [h7]
  simp [h0, h1, h2, h3, h4, h5, h6, h7]
theorem fREq (f g : Nat → Nat) (q : Bool) (h : eq8 f g = q) : ∀ w, (Op.equalIn 10000 23 (.agg (vv f)) (.agg (vv g))).run Try.prog w = .ok q w := fun w => by rw [run_eq_rvec, h]
def ckAM : List Nat := [1, 3, 4, 12, 16, 60, 124, 252, 511, 1023, 2047, 4095, 8191, 16383, 32767, 65535, 81919, 212991, 524287, 1048575, 2097151, 2113535, 6307839, 8404991, 31473663, 65028095, 132136959, 268435455, 536870911, 1073741823, 2147483647]
def ckAR (f : Nat → Nat) (N g off n cap k : Nat) (x : SibI) : List ((Nat → Value) → World → Prop) := [
  fun val _ => val 0 = .pointer (some ⟨N, 0, none⟩),
  fun val _ => val 1 = .agg (vv f),
  fun val _ => val 2 = .pointer (some ⟨N, 8, none⟩),
  fun val _ => val 3 = .slice (some ⟨g, off, none⟩) n cap,
  fun val _ => val 4 = .int .i64 (k : Int),
  fun val _ => val 5 = .pointer (some ⟨g, off + k * 3, none⟩),
  fun val _ => val 6 = .pointer (some ⟨g, off + k * 3, none⟩),
  fun val _ => val 7 = .agg (dv x.r x.n),
  fun val _ => val 8 = .bool false,
  fun val _ => val 9 = .bool true,
  fun val _ => val 10 = .bool true,
  fun val _ => val 11 = undef,
  fun val _ => val 12 = undef,
  fun val _ => val 13 = undef,
  fun val _ => val 14 = undef,
  fun val _ => val 15 = undef,
  fun val _ => val 16 = undef,
  fun val _ => val 17 = undef,
  fun val _ => val 18 = undef,
  fun val _ => val 19 = undef,
  fun val _ => val 20 = undef,
  fun val _ => val 21 = undef,
  fun val _ => val 22 = undef,
  fun val _ => val 23 = undef,
  fun val _ => val 24 = undef,
  fun val _ => val 25 = undef,
  fun val _ => val 26 = undef,
  fun val _ => val 27 = undef,
  fun val _ => val 28 = undef,
  fun val _ => val 29 = undef,
  fun val _ => val 30 = .bool true]
def ckBM : List Nat := [1, 3, 4, 12, 16, 60, 124, 252, 511, 1023, 2047, 4095, 8191, 16383, 32767, 65535, 81919, 212991, 524287, 1048575, 2097151, 2113535, 6307839, 8404991, 31473663, 65028095, 132136959, 268435455, 536870911, 1073741823, 2147483647]
def ckBR (f : Nat → Nat) (N g off n cap k : Nat) (x : SibI) : List ((Nat → Value) → World → Prop) := [
  fun val _ => val 0 = .pointer (some ⟨N, 0, none⟩),
  fun val _ => val 1 = .agg (vv f),
  fun val _ => val 2 = .pointer (some ⟨N, 8, none⟩),
  fun val _ => val 3 = .slice (some ⟨g, off, none⟩) n cap,
  fun val _ => val 4 = .int .i64 (k : Int),
  fun val _ => val 5 = .pointer (some ⟨g, off + k * 3, none⟩),
  fun val _ => val 6 = .pointer (some ⟨g, off + k * 3, none⟩),
  fun val _ => val 7 = .agg (dv x.r x.n),
  fun val _ => val 8 = .bool true,
  fun val _ => val 9 = .bool false,
  fun val _ => val 10 = .bool false,
  fun val _ => val 11 = .int .i64 (k : Int),
  fun val _ => val 12 = .bool false,
  fun val _ => val 13 = .bool false,
  fun val _ => val 14 = undef,
  fun val _ => val 15 = undef,
  fun val _ => val 16 = undef,
  fun val _ => val 17 = undef,
  fun val _ => val 18 = undef,
  fun val _ => val 19 = undef,
  fun val _ => val 20 = undef,
  fun val _ => val 21 = undef,
  fun val _ => val 22 = undef,
  fun val _ => val 23 = undef,
  fun val _ => val 24 = undef,
  fun val _ => val 25 = undef,
  fun val _ => val 26 = undef,
  fun val _ => val 27 = undef,
  fun val _ => val 28 = undef,
  fun val _ => val 29 = .bool false,
  fun val _ => val 30 = .bool false]
def ckCM : List Nat := [1, 3, 4, 12, 16, 60, 124, 252, 511, 1023, 2047, 4095, 8191, 16383, 32767, 65535, 81919, 212991, 524287, 1048575, 2097151, 2113535, 6307839, 8404991, 31473663, 65028095, 132136959, 268435455, 536870911, 1073741823, 2147483647]
def ckCR (f : Nat → Nat) (N g off n cap j : Nat) (x y : SibI) (q : Bool) : List ((Nat → Value) → World → Prop) := [
  fun val _ => val 0 = .pointer (some ⟨N, 0, none⟩),
  fun val _ => val 1 = .agg (vv f),
  fun val _ => val 2 = .pointer (some ⟨N, 8, none⟩),
  fun val _ => val 3 = .slice (some ⟨g, off, none⟩) n cap,
  fun val _ => val 4 = .int .i64 ((j + 1 : Nat) : Int),
  fun val _ => val 5 = .pointer (some ⟨g, off + (j + 1) * 3, none⟩),
  fun val _ => val 6 = .pointer (some ⟨g, off + (j + 1) * 3, none⟩),
  fun val _ => val 7 = .agg (dv x.r x.n),
  fun val _ => val 8 = .bool true,
  fun val _ => val 9 = .bool false,
  fun val _ => val 10 = .bool false,
  fun val _ => val 11 = .int .i64 ((j + 1 : Nat) : Int),
  fun val _ => val 12 = .bool true,
  fun val _ => val 13 = .bool true,
  fun val _ => val 14 = .pointer (some ⟨N, 8, none⟩),
  fun val _ => val 15 = .slice (some ⟨g, off, none⟩) n cap,
  fun val _ => val 16 = .int .i64 ((j + 1 : Nat) : Int),
  fun val _ => val 17 = .int .i64 (j : Int),
  fun val _ => val 18 = .pointer (some ⟨g, off + j * 3, none⟩),
  fun val _ => val 19 = .pointer (some ⟨g, off + j * 3, none⟩),
  fun val _ => val 20 = .agg (dv y.r y.n),
  fun val _ => val 21 = .pointer (some ⟨N, 8, none⟩),
  fun val _ => val 22 = .slice (some ⟨g, off, none⟩) n cap,
  fun val _ => val 23 = .int .i64 ((j + 1 : Nat) : Int),
  fun val _ => val 24 = .pointer (some ⟨g, off + (j + 1) * 3, none⟩),
  fun val _ => val 25 = .pointer (some ⟨g, off + (j + 1) * 3, none⟩),
  fun val _ => val 26 = .agg (dv x.r x.n),
  fun val _ => val 27 = .bool q,
  fun val _ => val 28 = .bool (!q),
  fun val _ => val 29 = .bool (!q),
  fun val _ => val 30 = .bool (!q)]

theorem lastD_take (l : List SibI) (j : Nat) (h : j < l.length) : lastD 0 0 (l.take (j + 1)) = (l[j].r, l[j].n) := by
  rw [List.take_succ_eq_append_getElem h, lastD_snoc]
theorem good_take (f : Nat → Nat) (l : List SibI) (k : Nat) (h : k < l.length) : goodC f 0 0 (l.take (k + 1)) = (goodC f 0 0 (l.take k) && (decide (cmpD (lastD 0 0 (l.take k)).1 (lastD 0 0 (l.take k)).2 l[k].r l[k].n < 0) && has8 f l[k].r l[k].n)) := by
  rw [List.take_succ_eq_append_getElem h, goodC_snoc]
theorem good_first (f : Nat → Nat) (x : SibI) (h : has8 f x.r x.n = true) : cmpD 0 0 x.r x.n < 0 := by
  refine (cmpD_lt ⟨0, 0, [], by decide, by decide, by decide⟩ x).2 (.inl ?_)
  simp only [has8, okD, Bool.and_eq_true, decide_eq_true_eq] at h
  show 0 < x.n
  omega
theorem good_no (f : Nat → Nat) (l : List SibI) (k : Nat) (h : goodC f 0 0 (l.take k) = false) : goodC f 0 0 l = false := by
  cases hg : goodC f 0 0 l with
  | false => rfl
  | true => rw [goodC_pre f (l.take k) l 0 0 (List.take_prefix _ _) hg] at h; cases h

set_option maxRecDepth 100000 in
set_option maxHeartbeats 8000000 in
theorem rcheck_any (f : Nat → Nat) (v : Value) (l : List SibI) (w : World) (hf : Fit8 f) (h : SL w v l) :
    Calls Try.prog 23 #[rg f v] w fun e w' => e = .returned (.int .i64 (chkS f l)) ∧ Frm (fun _ => False) w w' := by
  obtain ⟨a, cap, rfl, h1, h2⟩ := h.slice
  unfold maxLen at h2
  have HC := Lib.hid (show chkS f l = if decide (mx f 8 ≤ 65535) && decide (l.length ≤ 8) && goodC f 0 0 l then 0 else 4 from rfl)
  generalize chkS f l = C at *
  have g0 : Frm (fun _ => False) w (w.alloc (.cells (rgc f (.slice a l.length cap)) 47)) := (Frm.refl _ w).alloc _
  have b0 := Blk.alloc w 47 (rgc f (.slice a l.length cap))
  have hs := h.keepF g0
  go_enter Try.func23, Try.ntmps23
  go_upto_region 1 with fail
  generalize w.alloc (.cells (rgc f (.slice a l.length cap)) 47) = w1 at *
  generalize w.heap.size = N at *
  have HB0 := Lib.hid b0
  have HFT := Lib.hid hf
  have c8 := b0.cell 8 rfl
  clear b0 hf
  go_wp2_with fail
  go_loop [3] (fun i => ∃ k : Nat, k ≤ 8 ∧ i = .int .i64 k ∧ mx f k ≤ 65535) (fun i => 8 - (intOf i).toNat)
  case atStart => exact ⟨0, by omega, rfl, Nat.zero_le _⟩
  case round =>
    obtain ⟨k, hk, rfl, hmx⟩ := hrel
    by_cases hk8 : k < 8
    · have c0 := rcellsT HB0.out k hk8
      have hki : (k : Int) < 8 := by omega
      have hk0 : (0 : Int) ≤ (k : Int) := by omega
      by_cases hgt : f k ≤ 65535
      · have hgd : ¬ (65535 : Int) < (f k : Int) := by omega
        have hs2 := Lib.hid (show mx f (k + 1) ≤ 65535 by simp only [mx]; omega)
        clear hgt hmx
        go_wp2
        go_round
        case rel => exact ⟨k + 1, by omega, by go_num, hs2.out⟩
        case measure => simp [intOf]; omega
      · have hgd : (65535 : Int) < (f k : Int) := by omega
        have hbad := Lib.hid (show ¬ mx f 8 ≤ 65535 from fun h => hgt (Nat.le_trans (mx_le f 8 k hk8) h))
        clear hgt hmx
        go_wp2
        go_ret
        exact ⟨by rw [HC.out, decide_eq_false hbad.out]; rfl, g0⟩
    · obtain rfl : k = 8 := by omega
      have HM := Lib.hid hmx
      clear hmx hk8 hk
      by_cases h8 : l.length ≤ 8
      · have h8i : ¬ (8 : Int) < (l.length : Int) := by omega
        go_wp2
        go_loopw [4] (fun i wr => ∃ k : Nat, k ≤ l.length ∧ i = .int .i64 k ∧ goodC f 0 0 (l.take k) = true ∧ Frm (fun _ => False) w1 wr) (fun i _ => l.length - (intOf i).toNat)
        case atStart => exact ⟨0, Nat.zero_le _, rfl, rfl, Frm.refl _ _⟩
        case round =>
          obtain ⟨k, hk, rfl, hgood, f1⟩ := hrel
          have HG := Lib.hid hgood
          clear hgood
          have c8 := (HB0.out.keep f1 (fun h => h)).cell 8 rfl
          by_cases hlt : k < l.length
          · obtain ⟨g, off, rfl, _, _, _⟩ := hs.cells k hlt
            have HX0 : ∀ (i : Nat) (hi : i < l.length), Hid (∀ W, Frm (fun _ => False) wr W → W.cell? ⟨g, off + i * 3, none⟩ = some (.int .u8 l[i].r) ∧ W.cell? ⟨g, off + i * 3 + 1, none⟩ = some (.int .u32 l[i].n)) := fun i hi => Lib.hid fun W gW => by
              obtain ⟨g2, off2, e, x0, x1, x2⟩ := (hs.keepF (f1.trans gW)).cells i hi
              cases e
              exact ⟨x0, x1⟩
            have HB : Hid (∀ W, Frm (fun _ => False) wr W → Blk W N 47 (rgc f (.slice (some ⟨g, off, none⟩) l.length cap))) := Lib.hid fun W gW => HB0.out.keep (f1.trans gW) (fun h => h)
            have HX := HX0 k hlt
            have HGT := Lib.hid (good_take f l k hlt)
            have HH := Lib.hid (fun W => rhas6_any f l[k].r l[k].n W)
            obtain ⟨x, hx⟩ : ∃ x, l[k] = x := ⟨_, rfl⟩
            obtain ⟨n, hn⟩ : ∃ n, l.length = n := ⟨_, rfl⟩
            have hki' : (k : Int) < (l.length : Int) := by omega
            have hki : (k : Int) < (n : Int) := by omega
            have hk0 : (0 : Int) ≤ (k : Int) := by omega
            rw [hx] at HX HGT HH
            rw [hn] at HB
            clear hx
            cases hh : has8 f x.r x.n with
            | false =>
              rw [hh] at HH HGT
              have HNO := Lib.hid (show goodC f 0 0 l = false from good_no f l (k + 1) (by rw [HGT.out]; simp))
              clear hh HX0 hn
              go_upto_region 11 with fail
              rename_i hK
              have D : Frm (fun _ => False) wr wr.drew := (Frm.refl _ _).drew
              refine wp_region_late 31 0 [] [[], [0], [], [2], [], [3, 4], [5], [6], [1, 7], [8], [9], [10], [10, 11], [10, 12], [13], [13, 14], [13], [13, 16], [13, 15, 17], [13, 18], [13, 19], [13], [13, 21], [13], [13, 22, 23], [13, 24], [13, 25], [13, 20, 26], [13, 27], [10, 13, 28], [10, 29]] ckAM (ckAR f N g off n cap k x) (by kernel_rfl) rfl rfl rfl (by kernel_rfl) (by kernel_rfl) (by kernel_rfl) (by kernel_rfl) rfl (by kernel_rfl) (by kernel_rfl) (by kernel_rfl) (by kernel_rfl) (fun val => ?_) ?_
              · try dsimp only
                refine RelO.next (k' := 1) rfl (fun W gW hF => ?_) ?_
                focus
                  refine OpOK.val (u := .pointer (some ⟨N, 0, none⟩)) (by rfl) ?_ (fun W' _ => rfl)
                  try simp only [tupAt]
                  first | (go_simp; done) | (go_simp; with_reducible rfl) | (go_simp; rfl)
                try simp only [Act.put, List.setIfInBounds_toArray, List.set_cons_zero, List.set_cons_succ]
                refine RelO.next (k' := 2) rfl (fun W gW hF => ?_) ?_
                focus
                  obtain ⟨h0, _⟩ := hF
                  have e0 : val 0 = .pointer (some ⟨N, 0, none⟩) := h0 _ (Frm.refl _ W)
                  try simp only [e0]
                  try simp only [tupAt]
                  exact OpOK.load (by rfl) _ rfl (by rfl) (load_rctx (HB.out W (D.trans gW))) (fun W' _ => rfl)
                try simp only [Act.put, List.setIfInBounds_toArray, List.set_cons_zero, List.set_cons_succ]
                refine RelO.next (k' := 3) rfl (fun W gW hF => ?_) ?_
                focus
                  refine OpOK.val (u := .pointer (some ⟨N, 8, none⟩)) (by rfl) ?_ (fun W' _ => rfl)
                  try simp only [tupAt]
                  first | (go_simp; done) | (go_simp; with_reducible rfl) | (go_simp; rfl)
                try simp only [Act.put, List.setIfInBounds_toArray, List.set_cons_zero, List.set_cons_succ]
                refine RelO.next (k' := 4) rfl (fun W gW hF => ?_) ?_
                focus
                  obtain ⟨h2, _⟩ := hF
                  have e2 : val 2 = .pointer (some ⟨N, 8, none⟩) := h2 _ (Frm.refl _ W)
                  try simp only [e2]
                  try simp only [tupAt]
                  have c8 := (HB.out W (D.trans gW)).cell 8 rfl
                  have a3 := Try.isAgg45
                  have z3 := Try.sizeOf45
                  exact OpOK.val (u := .slice (some ⟨g, off, none⟩) n cap) (by rfl) (by first | (go_simp; done) | (go_simp; with_reducible rfl) | (go_simp; rfl)) (fun W' _ => rfl)
                try simp only [Act.put, List.setIfInBounds_toArray, List.set_cons_zero, List.set_cons_succ]
                refine RelO.next (k' := 5) rfl (fun W gW hF => ?_) ?_
                focus
                  refine OpOK.val (u := .int .i64 (k : Int)) (by rfl) ?_ (fun W' _ => rfl)
                  try simp only [tupAt]
                  first | (go_simp; done) | (go_simp; with_reducible rfl) | (go_simp; rfl)
                try simp only [Act.put, List.setIfInBounds_toArray, List.set_cons_zero, List.set_cons_succ]
                refine RelO.next (k' := 6) rfl (fun W gW hF => ?_) ?_
                focus
                  obtain ⟨h3, h4, _⟩ := hF
                  have e3 : val 3 = .slice (some ⟨g, off, none⟩) n cap := h3 _ (Frm.refl _ W)
                  have e4 : val 4 = .int .i64 (k : Int) := h4 _ (Frm.refl _ W)
                  try simp only [e4]
                  try simp only [e3]
                  try simp only [tupAt]
                  refine OpOK.val (u := .pointer (some ⟨g, off + k * 3, none⟩)) (by rfl) ?_ (fun W' _ => rfl)
                  try simp only [e4]
                  try simp only [e3]
                  try simp only [tupAt]
                  first | (go_simp; done) | (go_simp; with_reducible rfl) | (go_simp; rfl)
                try simp only [Act.put, List.setIfInBounds_toArray, List.set_cons_zero, List.set_cons_succ]
                refine RelO.next (k' := 7) rfl (fun W gW hF => ?_) ?_
                focus
                  obtain ⟨h5, _⟩ := hF
                  have e5 : val 5 = .pointer (some ⟨g, off + k * 3, none⟩) := h5 _ (Frm.refl _ W)
                  try simp only [e5]
                  try simp only [tupAt]
                  refine OpOK.val (u := .pointer (some ⟨g, off + k * 3, none⟩)) (by rfl) ?_ (fun W' _ => rfl)
                  try simp only [e5]
                  try simp only [tupAt]
                  first | (go_simp; done) | (go_simp; with_reducible rfl) | (go_simp; rfl)
                try simp only [Act.put, List.setIfInBounds_toArray, List.set_cons_zero, List.set_cons_succ]
                refine RelO.next (k' := 8) rfl (fun W gW hF => ?_) ?_
                focus
                  obtain ⟨h6, _⟩ := hF
                  have e6 : val 6 = .pointer (some ⟨g, off + k * 3, none⟩) := h6 _ (Frm.refl _ W)
                  try simp only [e6]
                  try simp only [tupAt]
                  obtain ⟨x0, x1⟩ := HX.out W (D.trans gW)
                  exact OpOK.val (u := .agg (dv x.r x.n)) (by rfl) (by first | (go_simp; done) | (go_simp; with_reducible rfl) | (go_simp; rfl)) (fun W' _ => rfl)
                try simp only [Act.put, List.setIfInBounds_toArray, List.set_cons_zero, List.set_cons_succ]
                refine RelO.next (k' := 9) rfl (fun W gW hF => ?_) ?_
                focus
                  obtain ⟨h1, h7, _⟩ := hF
                  have e1 : val 1 = .agg (vv f) := h1 _ (Frm.refl _ W)
                  have e7 : val 7 = .agg (dv x.r x.n) := h7 _ (Frm.refl _ W)
                  try simp only [e7]
                  try simp only [e1]
                  try simp only [tupAt]
                  refine OpOK.call (by rfl) ?_ ((HH.out W).mono ?_)
                  · first | (go_simp; done) | (go_simp; with_reducible rfl) | (go_simp; rfl)
                  · rintro e W1 ⟨rfl, g1⟩
                    exact ⟨_, rfl, g1, fun W2 _ => rfl⟩
                try simp only [Act.put, List.setIfInBounds_toArray, List.set_cons_zero, List.set_cons_succ]
                refine RelO.next (k' := 10) rfl (fun W gW hF => ?_) ?_
                focus
                  obtain ⟨h8, _⟩ := hF
                  have e8 : val 8 = .bool false := h8 _ (Frm.refl _ W)
                  try simp only [e8]
                  try simp only [tupAt]
                  refine OpOK.val (u := .bool true) (by rfl) ?_ (fun W' _ => rfl)
                  try simp only [e8]
                  try simp only [tupAt]
                  first | (go_simp; done) | (go_simp; with_reducible rfl) | (go_simp; rfl)
                try simp only [Act.put, List.setIfInBounds_toArray, List.set_cons_zero, List.set_cons_succ]
                refine RelO.next (k' := 11) rfl (fun W gW hF => ?_) ?_
                focus
                  obtain ⟨h9, _⟩ := hF
                  have e9 : val 9 = .bool true := h9 _ (Frm.refl _ W)
                  try simp only [e9]
                  try simp only [tupAt]
                  refine OpOK.val (u := .bool true) (by rfl) ?_ (fun W' _ => rfl)
                  try simp only [e9]
                  try simp only [tupAt]
                  first | (go_simp; done) | (go_simp; with_reducible rfl) | (go_simp; rfl)
                try simp only [Act.put, List.setIfInBounds_toArray, List.set_cons_zero, List.set_cons_succ]
                refine RelO.next (k' := 12) rfl (fun W gW hF => ?_) ?_
                focus
                  obtain ⟨h10, _⟩ := hF
                  have e10 : val 10 = .bool true := h10 _ (Frm.refl _ W)
                  try simp only [e10]
                  try simp only [tupAt]
                  exact OpOK.skip (by rfl) (fun W' _ => rfl)
                try simp only [Act.put, List.setIfInBounds_toArray, List.set_cons_zero, List.set_cons_succ]
                refine RelO.next (k' := 13) rfl (fun W gW hF => ?_) ?_
                focus
                  obtain ⟨h10, h11, _⟩ := hF
                  have e10 : val 10 = .bool true := h10 _ (Frm.refl _ W)
                  have e11 : val 11 = undef := h11 _ (Frm.refl _ W)
                  try simp only [e11]
                  try simp only [e10]
                  try simp only [tupAt]
                  exact OpOK.skip (by rfl) (fun W' _ => rfl)
                try simp only [Act.put, List.setIfInBounds_toArray, List.set_cons_zero, List.set_cons_succ]
                refine RelO.next (k' := 14) rfl (fun W gW hF => ?_) ?_
                focus
                  obtain ⟨h10, h12, _⟩ := hF
                  have e10 : val 10 = .bool true := h10 _ (Frm.refl _ W)
                  have e12 : val 12 = undef := h12 _ (Frm.refl _ W)
                  try simp only [e12]
                  try simp only [e10]
                  try simp only [tupAt]
                  exact OpOK.skip (by rfl) (fun W' _ => rfl)
                try simp only [Act.put, List.setIfInBounds_toArray, List.set_cons_zero, List.set_cons_succ]
                refine RelO.next (k' := 15) rfl (fun W gW hF => ?_) ?_
                focus
                  obtain ⟨h13, _⟩ := hF
                  have e13 : val 13 = undef := h13 _ (Frm.refl _ W)
                  try simp only [e13]
                  try simp only [tupAt]
                  exact OpOK.skip (by rfl) (fun W' _ => rfl)
                try simp only [Act.put, List.setIfInBounds_toArray, List.set_cons_zero, List.set_cons_succ]
                refine RelO.next (k' := 16) rfl (fun W gW hF => ?_) ?_
                focus
                  obtain ⟨h13, h14, _⟩ := hF
                  have e13 : val 13 = undef := h13 _ (Frm.refl _ W)
                  have e14 : val 14 = undef := h14 _ (Frm.refl _ W)
                  try simp only [e14]
                  try simp only [e13]
                  try simp only [tupAt]
                  exact OpOK.skip (by rfl) (fun W' _ => rfl)
                try simp only [Act.put, List.setIfInBounds_toArray, List.set_cons_zero, List.set_cons_succ]
                refine RelO.next (k' := 17) rfl (fun W gW hF => ?_) ?_
                focus
                  obtain ⟨h13, _⟩ := hF
                  have e13 : val 13 = undef := h13 _ (Frm.refl _ W)
                  try simp only [e13]
                  try simp only [tupAt]
                  exact OpOK.skip (by rfl) (fun W' _ => rfl)
                try simp only [Act.put, List.setIfInBounds_toArray, List.set_cons_zero, List.set_cons_succ]
                refine RelO.next (k' := 18) rfl (fun W gW hF => ?_) ?_
                focus
                  obtain ⟨h13, h16, _⟩ := hF
                  have e13 : val 13 = undef := h13 _ (Frm.refl _ W)
                  have e16 : val 16 = undef := h16 _ (Frm.refl _ W)
                  try simp only [e16]
                  try simp only [e13]
                  try simp only [tupAt]
                  exact OpOK.skip (by rfl) (fun W' _ => rfl)
                try simp only [Act.put, List.setIfInBounds_toArray, List.set_cons_zero, List.set_cons_succ]
                refine RelO.next (k' := 19) rfl (fun W gW hF => ?_) ?_
                focus
                  obtain ⟨h13, h15, h17, _⟩ := hF
                  have e13 : val 13 = undef := h13 _ (Frm.refl _ W)
                  have e15 : val 15 = undef := h15 _ (Frm.refl _ W)
                  have e17 : val 17 = undef := h17 _ (Frm.refl _ W)
                  try simp only [e17]
                  try simp only [e15]
                  try simp only [e13]
                  try simp only [tupAt]
                  exact OpOK.skip (by rfl) (fun W' _ => rfl)
                try simp only [Act.put, List.setIfInBounds_toArray, List.set_cons_zero, List.set_cons_succ]
                refine RelO.next (k' := 20) rfl (fun W gW hF => ?_) ?_
                focus
                  obtain ⟨h13, h18, _⟩ := hF
                  have e13 : val 13 = undef := h13 _ (Frm.refl _ W)
                  have e18 : val 18 = undef := h18 _ (Frm.refl _ W)
                  try simp only [e18]
                  try simp only [e13]
                  try simp only [tupAt]
                  exact OpOK.skip (by rfl) (fun W' _ => rfl)
                try simp only [Act.put, List.setIfInBounds_toArray, List.set_cons_zero, List.set_cons_succ]
                refine RelO.next (k' := 21) rfl (fun W gW hF => ?_) ?_
                focus
                  obtain ⟨h13, h19, _⟩ := hF
                  have e13 : val 13 = undef := h13 _ (Frm.refl _ W)
                  have e19 : val 19 = undef := h19 _ (Frm.refl _ W)
                  try simp only [e19]
                  try simp only [e13]
                  try simp only [tupAt]
                  exact OpOK.skip (by rfl) (fun W' _ => rfl)
                try simp only [Act.put, List.setIfInBounds_toArray, List.set_cons_zero, List.set_cons_succ]
                refine RelO.next (k' := 22) rfl (fun W gW hF => ?_) ?_
                focus
                  obtain ⟨h13, _⟩ := hF
                  have e13 : val 13 = undef := h13 _ (Frm.refl _ W)
                  try simp only [e13]
                  try simp only [tupAt]
                  exact OpOK.skip (by rfl) (fun W' _ => rfl)
                try simp only [Act.put, List.setIfInBounds_toArray, List.set_cons_zero, List.set_cons_succ]
                refine RelO.next (k' := 23) rfl (fun W gW hF => ?_) ?_
                focus
                  obtain ⟨h13, h21, _⟩ := hF
                  have e13 : val 13 = undef := h13 _ (Frm.refl _ W)
                  have e21 : val 21 = undef := h21 _ (Frm.refl _ W)
                  try simp only [e21]
                  try simp only [e13]
                  try simp only [tupAt]
                  exact OpOK.skip (by rfl) (fun W' _ => rfl)
                try simp only [Act.put, List.setIfInBounds_toArray, List.set_cons_zero, List.set_cons_succ]
                refine RelO.next (k' := 24) rfl (fun W gW hF => ?_) ?_
                focus
                  obtain ⟨h13, _⟩ := hF
                  have e13 : val 13 = undef := h13 _ (Frm.refl _ W)
                  try simp only [e13]
                  try simp only [tupAt]
                  exact OpOK.skip (by rfl) (fun W' _ => rfl)
                try simp only [Act.put, List.setIfInBounds_toArray, List.set_cons_zero, List.set_cons_succ]
                refine RelO.next (k' := 25) rfl (fun W gW hF => ?_) ?_
                focus
                  obtain ⟨h13, h22, h23, _⟩ := hF
                  have e13 : val 13 = undef := h13 _ (Frm.refl _ W)
                  have e22 : val 22 = undef := h22 _ (Frm.refl _ W)
                  have e23 : val 23 = undef := h23 _ (Frm.refl _ W)
                  try simp only [e23]
                  try simp only [e22]
                  try simp only [e13]
                  try simp only [tupAt]
                  exact OpOK.skip (by rfl) (fun W' _ => rfl)
                try simp only [Act.put, List.setIfInBounds_toArray, List.set_cons_zero, List.set_cons_succ]
                refine RelO.next (k' := 26) rfl (fun W gW hF => ?_) ?_
                focus
                  obtain ⟨h13, h24, _⟩ := hF
                  have e13 : val 13 = undef := h13 _ (Frm.refl _ W)
                  have e24 : val 24 = undef := h24 _ (Frm.refl _ W)
                  try simp only [e24]
                  try simp only [e13]
                  try simp only [tupAt]
                  exact OpOK.skip (by rfl) (fun W' _ => rfl)
                try simp only [Act.put, List.setIfInBounds_toArray, List.set_cons_zero, List.set_cons_succ]
                refine RelO.next (k' := 27) rfl (fun W gW hF => ?_) ?_
                focus
                  obtain ⟨h13, h25, _⟩ := hF
                  have e13 : val 13 = undef := h13 _ (Frm.refl _ W)
                  have e25 : val 25 = undef := h25 _ (Frm.refl _ W)
                  try simp only [e25]
                  try simp only [e13]
                  try simp only [tupAt]
                  exact OpOK.skip (by rfl) (fun W' _ => rfl)
                try simp only [Act.put, List.setIfInBounds_toArray, List.set_cons_zero, List.set_cons_succ]
                refine RelO.next (k' := 28) rfl (fun W gW hF => ?_) ?_
                focus
                  obtain ⟨h13, h20, h26, _⟩ := hF
                  have e13 : val 13 = undef := h13 _ (Frm.refl _ W)
                  have e20 : val 20 = undef := h20 _ (Frm.refl _ W)
                  have e26 : val 26 = undef := h26 _ (Frm.refl _ W)
                  try simp only [e26]
                  try simp only [e20]
                  try simp only [e13]
                  try simp only [tupAt]
                  exact OpOK.skip (by rfl) (fun W' _ => rfl)
                try simp only [Act.put, List.setIfInBounds_toArray, List.set_cons_zero, List.set_cons_succ]
                refine RelO.next (k' := 29) rfl (fun W gW hF => ?_) ?_
                focus
                  obtain ⟨h13, h27, _⟩ := hF
                  have e13 : val 13 = undef := h13 _ (Frm.refl _ W)
                  have e27 : val 27 = undef := h27 _ (Frm.refl _ W)
                  try simp only [e27]
                  try simp only [e13]
                  try simp only [tupAt]
                  exact OpOK.skip (by rfl) (fun W' _ => rfl)
                try simp only [Act.put, List.setIfInBounds_toArray, List.set_cons_zero, List.set_cons_succ]
                refine RelO.next (k' := 30) rfl (fun W gW hF => ?_) ?_
                focus
                  obtain ⟨h10, h13, h28, _⟩ := hF
                  have e10 : val 10 = .bool true := h10 _ (Frm.refl _ W)
                  have e13 : val 13 = undef := h13 _ (Frm.refl _ W)
                  have e28 : val 28 = undef := h28 _ (Frm.refl _ W)
                  try simp only [e28]
                  try simp only [e13]
                  try simp only [e10]
                  try simp only [tupAt]
                  exact OpOK.skip (by rfl) (fun W' _ => rfl)
                try simp only [Act.put, List.setIfInBounds_toArray, List.set_cons_zero, List.set_cons_succ]
                refine RelO.next (k' := 31) rfl (fun W gW hF => ?_) ?_
                focus
                  obtain ⟨h10, h29, _⟩ := hF
                  have e10 : val 10 = .bool true := h10 _ (Frm.refl _ W)
                  have e29 : val 29 = undef := h29 _ (Frm.refl _ W)
                  try simp only [e29]
                  try simp only [e10]
                  try simp only [tupAt]
                  refine OpOK.val (u := .bool true) (by rfl) ?_ (fun W' _ => rfl)
                  try simp only [e29]
                  try simp only [e10]
                  try simp only [tupAt]
                  first | (go_simp; done) | (go_simp; with_reducible rfl) | (go_simp; rfl)
                try simp only [Act.put, List.setIfInBounds_toArray, List.set_cons_zero, List.set_cons_succ]
                exact RelO.nil
              intro val W gW hF
              obtain ⟨h0, h1, h2, h3, h4, h5, h6, h7, h8, h9, h10, h11, h12, h13, h14, h15, h16, h17, h18, h19, h20, h21, h22, h23, h24, h25, h26, h27, h28, h29, h30, _⟩ := hF
              have e0 : val 0 = .pointer (some ⟨N, 0, none⟩) := h0 _ (Frm.refl _ W)
              have e1 : val 1 = .agg (vv f) := h1 _ (Frm.refl _ W)
              have e2 : val 2 = .pointer (some ⟨N, 8, none⟩) := h2 _ (Frm.refl _ W)
              have e3 : val 3 = .slice (some ⟨g, off, none⟩) n cap := h3 _ (Frm.refl _ W)
              have e4 : val 4 = .int .i64 (k : Int) := h4 _ (Frm.refl _ W)
              have e5 : val 5 = .pointer (some ⟨g, off + k * 3, none⟩) := h5 _ (Frm.refl _ W)
              have e6 : val 6 = .pointer (some ⟨g, off + k * 3, none⟩) := h6 _ (Frm.refl _ W)
              have e7 : val 7 = .agg (dv x.r x.n) := h7 _ (Frm.refl _ W)
              have e8 : val 8 = .bool false := h8 _ (Frm.refl _ W)
              have e9 : val 9 = .bool true := h9 _ (Frm.refl _ W)
              have e10 : val 10 = .bool true := h10 _ (Frm.refl _ W)
              have e11 : val 11 = undef := h11 _ (Frm.refl _ W)
              have e12 : val 12 = undef := h12 _ (Frm.refl _ W)
              have e13 : val 13 = undef := h13 _ (Frm.refl _ W)
              have e14 : val 14 = undef := h14 _ (Frm.refl _ W)
              have e15 : val 15 = undef := h15 _ (Frm.refl _ W)
              have e16 : val 16 = undef := h16 _ (Frm.refl _ W)
              have e17 : val 17 = undef := h17 _ (Frm.refl _ W)
              have e18 : val 18 = undef := h18 _ (Frm.refl _ W)
              have e19 : val 19 = undef := h19 _ (Frm.refl _ W)
              have e20 : val 20 = undef := h20 _ (Frm.refl _ W)
              have e21 : val 21 = undef := h21 _ (Frm.refl _ W)
              have e22 : val 22 = undef := h22 _ (Frm.refl _ W)
              have e23 : val 23 = undef := h23 _ (Frm.refl _ W)
              have e24 : val 24 = undef := h24 _ (Frm.refl _ W)
              have e25 : val 25 = undef := h25 _ (Frm.refl _ W)
              have e26 : val 26 = undef := h26 _ (Frm.refl _ W)
              have e27 : val 27 = undef := h27 _ (Frm.refl _ W)
              have e28 : val 28 = undef := h28 _ (Frm.refl _ W)
              have e29 : val 29 = undef := h29 _ (Frm.refl _ W)
              have e30 : val 30 = .bool true := h30 _ (Frm.refl _ W)
              clear h0 h1 h2 h3 h4 h5 h6 h7 h8 h9 h10 h11 h12 h13 h14 h15 h16 h17 h18 h19 h20 h21 h22 h23 h24 h25 h26 h27 h28 h29 h30
              simp only [aO, Act.put, List.setIfInBounds_toArray, List.set_cons_zero, List.set_cons_succ, Nat.reduceAdd]
              try simp only [e30]
              try simp only [e29]
              try simp only [e28]
              try simp only [e27]
              try simp only [e26]
              try simp only [e25]
              try simp only [e24]
              try simp only [e23]
              try simp only [e22]
              try simp only [e21]
              try simp only [e20]
              try simp only [e19]
              try simp only [e18]
              try simp only [e17]
              try simp only [e16]
              try simp only [e15]
              try simp only [e14]
              try simp only [e13]
              try simp only [e12]
              try simp only [e11]
              try simp only [e10]
              try simp only [e9]
              try simp only [e8]
              try simp only [e7]
              try simp only [e6]
              try simp only [e5]
              try simp only [e4]
              try simp only [e3]
              try simp only [e2]
              try simp only [e1]
              try simp only [e0]
              try simp only [tupAt]
              refine wpTail.doneN ?_
              refine hK _ _ ?_
              have f2 := f1.trans (D.trans gW)
              clear gW D hK e0 e1 e2 e3 e4 e5 e6 e7 e8 e9 e10 e11 e12 e13 e14 e15 e16 e17 e18 e19 e20 e21 e22 e23 e24 e25 e26 e27 e28 e29 e30
              go_wp2_with fail
              go_ret
              exact ⟨by rw [HC.out, HNO.out, Bool.and_false]; rfl, g0.trans f2⟩
            | true =>
              rw [hh] at HH HGT
              rcases Nat.eq_zero_or_pos k with hz | hpos
              · have HNX := Lib.hid (show goodC f 0 0 (l.take (k + 1)) = true by
                  rw [HGT.out, HG.out, Bool.and_true, Bool.true_and, hz, List.take_zero]; exact decide_eq_true (good_first f x hh))
                have HZ := Lib.hid hz
                clear hh HX0 hn hz
                go_upto_region 11 with fail
                rename_i hK
                have D : Frm (fun _ => False) wr wr.drew := (Frm.refl _ _).drew
                refine wp_region_late 31 0 [] [[], [0], [], [2], [], [3, 4], [5], [6], [1, 7], [8], [9], [10], [10, 11], [10, 12], [13], [13, 14], [13], [13, 16], [13, 15, 17], [13, 18], [13, 19], [13], [13, 21], [13], [13, 22, 23], [13, 24], [13, 25], [13, 20, 26], [13, 27], [10, 13, 28], [10, 29]] ckBM (ckBR f N g off n cap k x) (by kernel_rfl) rfl rfl rfl (by kernel_rfl) (by kernel_rfl) (by kernel_rfl) (by kernel_rfl) rfl (by kernel_rfl) (by kernel_rfl) (by kernel_rfl) (by kernel_rfl) (fun val => ?_) ?_
                · try dsimp only
                  refine RelO.next (k' := 1) rfl (fun W gW hF => ?_) ?_
                  focus
                    refine OpOK.val (u := .pointer (some ⟨N, 0, none⟩)) (by rfl) ?_ (fun W' _ => rfl)
                    try simp only [tupAt]
                    first | (go_simp; done) | (go_simp; with_reducible rfl) | (go_simp; rfl)
                  try simp only [Act.put, List.setIfInBounds_toArray, List.set_cons_zero, List.set_cons_succ]
                  refine RelO.next (k' := 2) rfl (fun W gW hF => ?_) ?_
                  focus
                    obtain ⟨h0, _⟩ := hF
                    have e0 : val 0 = .pointer (some ⟨N, 0, none⟩) := h0 _ (Frm.refl _ W)
                    try simp only [e0]
                    try simp only [tupAt]
                    exact OpOK.load (by rfl) _ rfl (by rfl) (load_rctx (HB.out W (D.trans gW))) (fun W' _ => rfl)
                  try simp only [Act.put, List.setIfInBounds_toArray, List.set_cons_zero, List.set_cons_succ]
                  refine RelO.next (k' := 3) rfl (fun W gW hF => ?_) ?_
                  focus
                    refine OpOK.val (u := .pointer (some ⟨N, 8, none⟩)) (by rfl) ?_ (fun W' _ => rfl)
                    try simp only [tupAt]
                    first | (go_simp; done) | (go_simp; with_reducible rfl) | (go_simp; rfl)
                  try simp only [Act.put, List.setIfInBounds_toArray, List.set_cons_zero, List.set_cons_succ]
                  refine RelO.next (k' := 4) rfl (fun W gW hF => ?_) ?_
                  focus
                    obtain ⟨h2, _⟩ := hF
                    have e2 : val 2 = .pointer (some ⟨N, 8, none⟩) := h2 _ (Frm.refl _ W)
                    try simp only [e2]
                    try simp only [tupAt]
                    have c8 := (HB.out W (D.trans gW)).cell 8 rfl
                    have a3 := Try.isAgg45
                    have z3 := Try.sizeOf45
                    exact OpOK.val (u := .slice (some ⟨g, off, none⟩) n cap) (by rfl) (by first | (go_simp; done) | (go_simp; with_reducible rfl) | (go_simp; rfl)) (fun W' _ => rfl)
                  try simp only [Act.put, List.setIfInBounds_toArray, List.set_cons_zero, List.set_cons_succ]
                  refine RelO.next (k' := 5) rfl (fun W gW hF => ?_) ?_
                  focus
                    refine OpOK.val (u := .int .i64 (k : Int)) (by rfl) ?_ (fun W' _ => rfl)
                    try simp only [tupAt]
                    first | (go_simp; done) | (go_simp; with_reducible rfl) | (go_simp; rfl)
                  try simp only [Act.put, List.setIfInBounds_toArray, List.set_cons_zero, List.set_cons_succ]
                  refine RelO.next (k' := 6) rfl (fun W gW hF => ?_) ?_
                  focus
                    obtain ⟨h3, h4, _⟩ := hF
                    have e3 : val 3 = .slice (some ⟨g, off, none⟩) n cap := h3 _ (Frm.refl _ W)
                    have e4 : val 4 = .int .i64 (k : Int) := h4 _ (Frm.refl _ W)
                    try simp only [e4]
                    try simp only [e3]
                    try simp only [tupAt]
                    refine OpOK.val (u := .pointer (some ⟨g, off + k * 3, none⟩)) (by rfl) ?_ (fun W' _ => rfl)
                    try simp only [e4]
                    try simp only [e3]
                    try simp only [tupAt]
                    first | (go_simp; done) | (go_simp; with_reducible rfl) | (go_simp; rfl)
                  try simp only [Act.put, List.setIfInBounds_toArray, List.set_cons_zero, List.set_cons_succ]
                  refine RelO.next (k' := 7) rfl (fun W gW hF => ?_) ?_
                  focus
                    obtain ⟨h5, _⟩ := hF
                    have e5 : val 5 = .pointer (some ⟨g, off + k * 3, none⟩) := h5 _ (Frm.refl _ W)
                    try simp only [e5]
                    try simp only [tupAt]
                    refine OpOK.val (u := .pointer (some ⟨g, off + k * 3, none⟩)) (by rfl) ?_ (fun W' _ => rfl)
                    try simp only [e5]
                    try simp only [tupAt]
                    first | (go_simp; done) | (go_simp; with_reducible rfl) | (go_simp; rfl)
                  try simp only [Act.put, List.setIfInBounds_toArray, List.set_cons_zero, List.set_cons_succ]
                  refine RelO.next (k' := 8) rfl (fun W gW hF => ?_) ?_
                  focus
                    obtain ⟨h6, _⟩ := hF
                    have e6 : val 6 = .pointer (some ⟨g, off + k * 3, none⟩) := h6 _ (Frm.refl _ W)
                    try simp only [e6]
                    try simp only [tupAt]
                    obtain ⟨x0, x1⟩ := HX.out W (D.trans gW)
                    exact OpOK.val (u := .agg (dv x.r x.n)) (by rfl) (by first | (go_simp; done) | (go_simp; with_reducible rfl) | (go_simp; rfl)) (fun W' _ => rfl)
                  try simp only [Act.put, List.setIfInBounds_toArray, List.set_cons_zero, List.set_cons_succ]
                  refine RelO.next (k' := 9) rfl (fun W gW hF => ?_) ?_
                  focus
                    obtain ⟨h1, h7, _⟩ := hF
                    have e1 : val 1 = .agg (vv f) := h1 _ (Frm.refl _ W)
                    have e7 : val 7 = .agg (dv x.r x.n) := h7 _ (Frm.refl _ W)
                    try simp only [e7]
                    try simp only [e1]
                    try simp only [tupAt]
                    refine OpOK.call (by rfl) ?_ ((HH.out W).mono ?_)
                    · first | (go_simp; done) | (go_simp; with_reducible rfl) | (go_simp; rfl)
                    · rintro e W1 ⟨rfl, g1⟩
                      exact ⟨_, rfl, g1, fun W2 _ => rfl⟩
                  try simp only [Act.put, List.setIfInBounds_toArray, List.set_cons_zero, List.set_cons_succ]
                  refine RelO.next (k' := 10) rfl (fun W gW hF => ?_) ?_
                  focus
                    obtain ⟨h8, _⟩ := hF
                    have e8 : val 8 = .bool true := h8 _ (Frm.refl _ W)
                    try simp only [e8]
                    try simp only [tupAt]
                    refine OpOK.val (u := .bool false) (by rfl) ?_ (fun W' _ => rfl)
                    try simp only [e8]
                    try simp only [tupAt]
                    first | (go_simp; done) | (go_simp; with_reducible rfl) | (go_simp; rfl)
                  try simp only [Act.put, List.setIfInBounds_toArray, List.set_cons_zero, List.set_cons_succ]
                  refine RelO.next (k' := 11) rfl (fun W gW hF => ?_) ?_
                  focus
                    obtain ⟨h9, _⟩ := hF
                    have e9 : val 9 = .bool false := h9 _ (Frm.refl _ W)
                    try simp only [e9]
                    try simp only [tupAt]
                    refine OpOK.val (u := .bool false) (by rfl) ?_ (fun W' _ => rfl)
                    try simp only [e9]
                    try simp only [tupAt]
                    first | (go_simp; done) | (go_simp; with_reducible rfl) | (go_simp; rfl)
                  try simp only [Act.put, List.setIfInBounds_toArray, List.set_cons_zero, List.set_cons_succ]
                  refine RelO.next (k' := 12) rfl (fun W gW hF => ?_) ?_
                  focus
                    obtain ⟨h10, _⟩ := hF
                    have e10 : val 10 = .bool false := h10 _ (Frm.refl _ W)
                    try simp only [e10]
                    try simp only [tupAt]
                    refine OpOK.val (u := .int .i64 (k : Int)) (by rfl) ?_ (fun W' _ => rfl)
                    try simp only [e10]
                    try simp only [tupAt]
                    first | (go_simp; done) | (go_simp; with_reducible rfl) | (go_simp; rfl)
                  try simp only [Act.put, List.setIfInBounds_toArray, List.set_cons_zero, List.set_cons_succ]
                  refine RelO.next (k' := 13) rfl (fun W gW hF => ?_) ?_
                  focus
                    obtain ⟨h10, h11, _⟩ := hF
                    have e10 : val 10 = .bool false := h10 _ (Frm.refl _ W)
                    have e11 : val 11 = .int .i64 (k : Int) := h11 _ (Frm.refl _ W)
                    try simp only [e11]
                    try simp only [e10]
                    try simp only [tupAt]
                    exact OpOK.val (u := .bool false) (by rfl) (by go_simp; exact HZ.out) (fun W' _ => rfl)
                  try simp only [Act.put, List.setIfInBounds_toArray, List.set_cons_zero, List.set_cons_succ]
                  refine RelO.next (k' := 14) rfl (fun W gW hF => ?_) ?_
                  focus
                    obtain ⟨h10, h12, _⟩ := hF
                    have e10 : val 10 = .bool false := h10 _ (Frm.refl _ W)
                    have e12 : val 12 = .bool false := h12 _ (Frm.refl _ W)
                    try simp only [e12]
                    try simp only [e10]
                    try simp only [tupAt]
                    refine OpOK.val (u := .bool false) (by rfl) ?_ (fun W' _ => rfl)
                    try simp only [e12]
                    try simp only [e10]
                    try simp only [tupAt]
                    first | (go_simp; done) | (go_simp; with_reducible rfl) | (go_simp; rfl)
                  try simp only [Act.put, List.setIfInBounds_toArray, List.set_cons_zero, List.set_cons_succ]
                  refine RelO.next (k' := 15) rfl (fun W gW hF => ?_) ?_
                  focus
                    obtain ⟨h13, _⟩ := hF
                    have e13 : val 13 = .bool false := h13 _ (Frm.refl _ W)
                    try simp only [e13]
                    try simp only [tupAt]
                    exact OpOK.skip (by rfl) (fun W' _ => rfl)
                  try simp only [Act.put, List.setIfInBounds_toArray, List.set_cons_zero, List.set_cons_succ]
                  refine RelO.next (k' := 16) rfl (fun W gW hF => ?_) ?_
                  focus
                    obtain ⟨h13, h14, _⟩ := hF
                    have e13 : val 13 = .bool false := h13 _ (Frm.refl _ W)
                    have e14 : val 14 = undef := h14 _ (Frm.refl _ W)
                    try simp only [e14]
                    try simp only [e13]
                    try simp only [tupAt]
                    exact OpOK.skip (by rfl) (fun W' _ => rfl)
                  try simp only [Act.put, List.setIfInBounds_toArray, List.set_cons_zero, List.set_cons_succ]
                  refine RelO.next (k' := 17) rfl (fun W gW hF => ?_) ?_
                  focus
                    obtain ⟨h13, _⟩ := hF
                    have e13 : val 13 = .bool false := h13 _ (Frm.refl _ W)
                    try simp only [e13]
                    try simp only [tupAt]
                    exact OpOK.skip (by rfl) (fun W' _ => rfl)
                  try simp only [Act.put, List.setIfInBounds_toArray, List.set_cons_zero, List.set_cons_succ]
                  refine RelO.next (k' := 18) rfl (fun W gW hF => ?_) ?_
                  focus
                    obtain ⟨h13, h16, _⟩ := hF
                    have e13 : val 13 = .bool false := h13 _ (Frm.refl _ W)
                    have e16 : val 16 = undef := h16 _ (Frm.refl _ W)
                    try simp only [e16]
                    try simp only [e13]
                    try simp only [tupAt]
                    exact OpOK.skip (by rfl) (fun W' _ => rfl)
                  try simp only [Act.put, List.setIfInBounds_toArray, List.set_cons_zero, List.set_cons_succ]
                  refine RelO.next (k' := 19) rfl (fun W gW hF => ?_) ?_
                  focus
                    obtain ⟨h13, h15, h17, _⟩ := hF
                    have e13 : val 13 = .bool false := h13 _ (Frm.refl _ W)
                    have e15 : val 15 = undef := h15 _ (Frm.refl _ W)
                    have e17 : val 17 = undef := h17 _ (Frm.refl _ W)
                    try simp only [e17]
                    try simp only [e15]
                    try simp only [e13]
                    try simp only [tupAt]
                    exact OpOK.skip (by rfl) (fun W' _ => rfl)
                  try simp only [Act.put, List.setIfInBounds_toArray, List.set_cons_zero, List.set_cons_succ]
                  refine RelO.next (k' := 20) rfl (fun W gW hF => ?_) ?_
                  focus
                    obtain ⟨h13, h18, _⟩ := hF
                    have e13 : val 13 = .bool false := h13 _ (Frm.refl _ W)
                    have e18 : val 18 = undef := h18 _ (Frm.refl _ W)
                    try simp only [e18]
                    try simp only [e13]
                    try simp only [tupAt]
                    exact OpOK.skip (by rfl) (fun W' _ => rfl)
                  try simp only [Act.put, List.setIfInBounds_toArray, List.set_cons_zero, List.set_cons_succ]
                  refine RelO.next (k' := 21) rfl (fun W gW hF => ?_) ?_
                  focus
                    obtain ⟨h13, h19, _⟩ := hF
                    have e13 : val 13 = .bool false := h13 _ (Frm.refl _ W)
                    have e19 : val 19 = undef := h19 _ (Frm.refl _ W)
                    try simp only [e19]
                    try simp only [e13]
                    try simp only [tupAt]
                    exact OpOK.skip (by rfl) (fun W' _ => rfl)
                  try simp only [Act.put, List.setIfInBounds_toArray, List.set_cons_zero, List.set_cons_succ]
                  refine RelO.next (k' := 22) rfl (fun W gW hF => ?_) ?_
                  focus
                    obtain ⟨h13, _⟩ := hF
                    have e13 : val 13 = .bool false := h13 _ (Frm.refl _ W)
                    try simp only [e13]
                    try simp only [tupAt]
                    exact OpOK.skip (by rfl) (fun W' _ => rfl)
                  try simp only [Act.put, List.setIfInBounds_toArray, List.set_cons_zero, List.set_cons_succ]
                  refine RelO.next (k' := 23) rfl (fun W gW hF => ?_) ?_
                  focus
                    obtain ⟨h13, h21, _⟩ := hF
                    have e13 : val 13 = .bool false := h13 _ (Frm.refl _ W)
                    have e21 : val 21 = undef := h21 _ (Frm.refl _ W)
                    try simp only [e21]
                    try simp only [e13]
                    try simp only [tupAt]
                    exact OpOK.skip (by rfl) (fun W' _ => rfl)
                  try simp only [Act.put, List.setIfInBounds_toArray, List.set_cons_zero, List.set_cons_succ]
                  refine RelO.next (k' := 24) rfl (fun W gW hF => ?_) ?_
                  focus
                    obtain ⟨h13, _⟩ := hF
                    have e13 : val 13 = .bool false := h13 _ (Frm.refl _ W)
                    try simp only [e13]
                    try simp only [tupAt]
                    exact OpOK.skip (by rfl) (fun W' _ => rfl)
                  try simp only [Act.put, List.setIfInBounds_toArray, List.set_cons_zero, List.set_cons_succ]
                  refine RelO.next (k' := 25) rfl (fun W gW hF => ?_) ?_
                  focus
                    obtain ⟨h13, h22, h23, _⟩ := hF
                    have e13 : val 13 = .bool false := h13 _ (Frm.refl _ W)
                    have e22 : val 22 = undef := h22 _ (Frm.refl _ W)
                    have e23 : val 23 = undef := h23 _ (Frm.refl _ W)
                    try simp only [e23]
                    try simp only [e22]
                    try simp only [e13]
                    try simp only [tupAt]
                    exact OpOK.skip (by rfl) (fun W' _ => rfl)
                  try simp only [Act.put, List.setIfInBounds_toArray, List.set_cons_zero, List.set_cons_succ]
                  refine RelO.next (k' := 26) rfl (fun W gW hF => ?_) ?_
                  focus
                    obtain ⟨h13, h24, _⟩ := hF
                    have e13 : val 13 = .bool false := h13 _ (Frm.refl _ W)
                    have e24 : val 24 = undef := h24 _ (Frm.refl _ W)
                    try simp only [e24]
                    try simp only [e13]
                    try simp only [tupAt]
                    exact OpOK.skip (by rfl) (fun W' _ => rfl)
                  try simp only [Act.put, List.setIfInBounds_toArray, List.set_cons_zero, List.set_cons_succ]
                  refine RelO.next (k' := 27) rfl (fun W gW hF => ?_) ?_
                  focus
                    obtain ⟨h13, h25, _⟩ := hF
                    have e13 : val 13 = .bool false := h13 _ (Frm.refl _ W)
                    have e25 : val 25 = undef := h25 _ (Frm.refl _ W)
                    try simp only [e25]
                    try simp only [e13]
                    try simp only [tupAt]
                    exact OpOK.skip (by rfl) (fun W' _ => rfl)
                  try simp only [Act.put, List.setIfInBounds_toArray, List.set_cons_zero, List.set_cons_succ]
                  refine RelO.next (k' := 28) rfl (fun W gW hF => ?_) ?_
                  focus
                    obtain ⟨h13, h20, h26, _⟩ := hF
                    have e13 : val 13 = .bool false := h13 _ (Frm.refl _ W)
                    have e20 : val 20 = undef := h20 _ (Frm.refl _ W)
                    have e26 : val 26 = undef := h26 _ (Frm.refl _ W)
                    try simp only [e26]
                    try simp only [e20]
                    try simp only [e13]
                    try simp only [tupAt]
                    exact OpOK.skip (by rfl) (fun W' _ => rfl)
                  try simp only [Act.put, List.setIfInBounds_toArray, List.set_cons_zero, List.set_cons_succ]
                  refine RelO.next (k' := 29) rfl (fun W gW hF => ?_) ?_
                  focus
                    obtain ⟨h13, h27, _⟩ := hF
                    have e13 : val 13 = .bool false := h13 _ (Frm.refl _ W)
                    have e27 : val 27 = undef := h27 _ (Frm.refl _ W)
                    try simp only [e27]
                    try simp only [e13]
                    try simp only [tupAt]
                    exact OpOK.skip (by rfl) (fun W' _ => rfl)
                  try simp only [Act.put, List.setIfInBounds_toArray, List.set_cons_zero, List.set_cons_succ]
                  refine RelO.next (k' := 30) rfl (fun W gW hF => ?_) ?_
                  focus
                    obtain ⟨h10, h13, h28, _⟩ := hF
                    have e10 : val 10 = .bool false := h10 _ (Frm.refl _ W)
                    have e13 : val 13 = .bool false := h13 _ (Frm.refl _ W)
                    have e28 : val 28 = undef := h28 _ (Frm.refl _ W)
                    try simp only [e28]
                    try simp only [e13]
                    try simp only [e10]
                    try simp only [tupAt]
                    refine OpOK.val (u := .bool false) (by rfl) ?_ (fun W' _ => rfl)
                    try simp only [e28]
                    try simp only [e13]
                    try simp only [e10]
                    try simp only [tupAt]
                    first | (go_simp; done) | (go_simp; with_reducible rfl) | (go_simp; rfl)
                  try simp only [Act.put, List.setIfInBounds_toArray, List.set_cons_zero, List.set_cons_succ]
                  refine RelO.next (k' := 31) rfl (fun W gW hF => ?_) ?_
                  focus
                    obtain ⟨h10, h29, _⟩ := hF
                    have e10 : val 10 = .bool false := h10 _ (Frm.refl _ W)
                    have e29 : val 29 = .bool false := h29 _ (Frm.refl _ W)
                    try simp only [e29]
                    try simp only [e10]
                    try simp only [tupAt]
                    refine OpOK.val (u := .bool false) (by rfl) ?_ (fun W' _ => rfl)
                    try simp only [e29]
                    try simp only [e10]
                    try simp only [tupAt]
                    first | (go_simp; done) | (go_simp; with_reducible rfl) | (go_simp; rfl)
                  try simp only [Act.put, List.setIfInBounds_toArray, List.set_cons_zero, List.set_cons_succ]
                  exact RelO.nil
                intro val W gW hF
                obtain ⟨h0, h1, h2, h3, h4, h5, h6, h7, h8, h9, h10, h11, h12, h13, h14, h15, h16, h17, h18, h19, h20, h21, h22, h23, h24, h25, h26, h27, h28, h29, h30, _⟩ := hF
                have e0 : val 0 = .pointer (some ⟨N, 0, none⟩) := h0 _ (Frm.refl _ W)
                have e1 : val 1 = .agg (vv f) := h1 _ (Frm.refl _ W)
                have e2 : val 2 = .pointer (some ⟨N, 8, none⟩) := h2 _ (Frm.refl _ W)
                have e3 : val 3 = .slice (some ⟨g, off, none⟩) n cap := h3 _ (Frm.refl _ W)
                have e4 : val 4 = .int .i64 (k : Int) := h4 _ (Frm.refl _ W)
                have e5 : val 5 = .pointer (some ⟨g, off + k * 3, none⟩) := h5 _ (Frm.refl _ W)
                have e6 : val 6 = .pointer (some ⟨g, off + k * 3, none⟩) := h6 _ (Frm.refl _ W)
                have e7 : val 7 = .agg (dv x.r x.n) := h7 _ (Frm.refl _ W)
                have e8 : val 8 = .bool true := h8 _ (Frm.refl _ W)
                have e9 : val 9 = .bool false := h9 _ (Frm.refl _ W)
                have e10 : val 10 = .bool false := h10 _ (Frm.refl _ W)
                have e11 : val 11 = .int .i64 (k : Int) := h11 _ (Frm.refl _ W)
                have e12 : val 12 = .bool false := h12 _ (Frm.refl _ W)
                have e13 : val 13 = .bool false := h13 _ (Frm.refl _ W)
                have e14 : val 14 = undef := h14 _ (Frm.refl _ W)
                have e15 : val 15 = undef := h15 _ (Frm.refl _ W)
                have e16 : val 16 = undef := h16 _ (Frm.refl _ W)
                have e17 : val 17 = undef := h17 _ (Frm.refl _ W)
                have e18 : val 18 = undef := h18 _ (Frm.refl _ W)
                have e19 : val 19 = undef := h19 _ (Frm.refl _ W)
                have e20 : val 20 = undef := h20 _ (Frm.refl _ W)
                have e21 : val 21 = undef := h21 _ (Frm.refl _ W)
                have e22 : val 22 = undef := h22 _ (Frm.refl _ W)
                have e23 : val 23 = undef := h23 _ (Frm.refl _ W)
                have e24 : val 24 = undef := h24 _ (Frm.refl _ W)
                have e25 : val 25 = undef := h25 _ (Frm.refl _ W)
                have e26 : val 26 = undef := h26 _ (Frm.refl _ W)
                have e27 : val 27 = undef := h27 _ (Frm.refl _ W)
                have e28 : val 28 = undef := h28 _ (Frm.refl _ W)
                have e29 : val 29 = .bool false := h29 _ (Frm.refl _ W)
                have e30 : val 30 = .bool false := h30 _ (Frm.refl _ W)
                clear h0 h1 h2 h3 h4 h5 h6 h7 h8 h9 h10 h11 h12 h13 h14 h15 h16 h17 h18 h19 h20 h21 h22 h23 h24 h25 h26 h27 h28 h29 h30
                simp only [aO, Act.put, List.setIfInBounds_toArray, List.set_cons_zero, List.set_cons_succ, Nat.reduceAdd]
                try simp only [e30]
                try simp only [e29]
                try simp only [e28]
                try simp only [e27]
                try simp only [e26]
                try simp only [e25]
                try simp only [e24]
                try simp only [e23]
                try simp only [e22]
                try simp only [e21]
                try simp only [e20]
                try simp only [e19]
                try simp only [e18]
                try simp only [e17]
                try simp only [e16]
                try simp only [e15]
                try simp only [e14]
                try simp only [e13]
                try simp only [e12]
                try simp only [e11]
                try simp only [e10]
                try simp only [e9]
                try simp only [e8]
                try simp only [e7]
                try simp only [e6]
                try simp only [e5]
                try simp only [e4]
                try simp only [e3]
                try simp only [e2]
                try simp only [e1]
                try simp only [e0]
                try simp only [tupAt]
                refine wpTail.doneN ?_
                refine hK _ _ ?_
                have f2 := f1.trans (D.trans gW)
                clear gW D hK e0 e1 e2 e3 e4 e5 e6 e7 e8 e9 e10 e11 e12 e13 e14 e15 e16 e17 e18 e19 e20 e21 e22 e23 e24 e25 e26 e27 e28 e29 e30
                go_wp2_with fail
                go_roundw
                case rel => exact ⟨k + 1, by omega, by go_num, HNX.out, f2⟩
                case measure => simp [intOf]; omega
              · obtain ⟨j, rfl⟩ : ∃ j, k = j + 1 := ⟨k - 1, by omega⟩
                have hjl : j < l.length := by omega
                have HY := HX0 j hjl
                have HLT := Lib.hid (lastD_take l j hjl)
                obtain ⟨y, hy⟩ : ∃ y, l[j] = y := ⟨_, rfl⟩
                rw [hy] at HY HLT
                have HL := Lib.hid (fun W => rless_any y.r y.n x.r x.n W)
                have hlq : decide (cmpD y.r y.n x.r x.n < 0) = decide (y.n < x.n ∨ y.n = x.n ∧ y.r < x.r) := by
                  rw [Bool.eq_iff_iff, decide_eq_true_eq, decide_eq_true_eq]; exact cmpD_lt y x
                have HNX : Hid (goodC f 0 0 (l.take (j + 1 + 1)) = decide (y.n < x.n ∨ y.n = x.n ∧ y.r < x.r)) := Lib.hid (by
                  rw [HGT.out, HG.out, HLT.out, Bool.and_true, Bool.true_and]; exact hlq)
                generalize decide (y.n < x.n ∨ y.n = x.n ∧ y.r < x.r) = q at *
                have HJ := Lib.hid (show IntKind.i64.wrap (j : Int) = (j : Int) by rw [IntKind.wrap_i64]; omega)
                have hji : (j : Int) < (n : Int) := by omega
                have hj0 : (0 : Int) ≤ (j : Int) := by omega
                have hk1 : (0 : Int) < ((j + 1 : Nat) : Int) := by omega
                have hki2 : (j : Int) + 1 < (n : Int) := by omega
                have hk02 : (0 : Int) ≤ (j : Int) + 1 := by omega
                clear hy hh HX0 hlq hn hpos
                go_upto_region 11 with fail
                rename_i hK
                have D : Frm (fun _ => False) wr wr.drew := (Frm.refl _ _).drew
                refine wp_region_late 31 0 [] [[], [0], [], [2], [], [3, 4], [5], [6], [1, 7], [8], [9], [10], [10, 11], [10, 12], [13], [13, 14], [13], [13, 16], [13, 15, 17], [13, 18], [13, 19], [13], [13, 21], [13], [13, 22, 23], [13, 24], [13, 25], [13, 20, 26], [13, 27], [10, 13, 28], [10, 29]] ckCM (ckCR f N g off n cap j x y q) (by kernel_rfl) rfl rfl rfl (by kernel_rfl) (by kernel_rfl) (by kernel_rfl) (by kernel_rfl) rfl (by kernel_rfl) (by kernel_rfl) (by kernel_rfl) (by kernel_rfl) (fun val => ?_) ?_
                · try dsimp only
                  refine RelO.next (k' := 1) rfl (fun W gW hF => ?_) ?_
                  focus
                    refine OpOK.val (u := .pointer (some ⟨N, 0, none⟩)) (by rfl) ?_ (fun W' _ => rfl)
                    try simp only [tupAt]
                    first | (go_simp; done) | (go_simp; with_reducible rfl) | (go_simp; rfl)
                  try simp only [Act.put, List.setIfInBounds_toArray, List.set_cons_zero, List.set_cons_succ]
                  refine RelO.next (k' := 2) rfl (fun W gW hF => ?_) ?_
                  focus
                    obtain ⟨h0, _⟩ := hF
                    have e0 : val 0 = .pointer (some ⟨N, 0, none⟩) := h0 _ (Frm.refl _ W)
                    try simp only [e0]
                    try simp only [tupAt]
                    exact OpOK.load (by rfl) _ rfl (by rfl) (load_rctx (HB.out W (D.trans gW))) (fun W' _ => rfl)
                  try simp only [Act.put, List.setIfInBounds_toArray, List.set_cons_zero, List.set_cons_succ]
                  refine RelO.next (k' := 3) rfl (fun W gW hF => ?_) ?_
                  focus
                    refine OpOK.val (u := .pointer (some ⟨N, 8, none⟩)) (by rfl) ?_ (fun W' _ => rfl)
                    try simp only [tupAt]
                    first | (go_simp; done) | (go_simp; with_reducible rfl) | (go_simp; rfl)
                  try simp only [Act.put, List.setIfInBounds_toArray, List.set_cons_zero, List.set_cons_succ]
                  refine RelO.next (k' := 4) rfl (fun W gW hF => ?_) ?_
                  focus
                    obtain ⟨h2, _⟩ := hF
                    have e2 : val 2 = .pointer (some ⟨N, 8, none⟩) := h2 _ (Frm.refl _ W)
                    try simp only [e2]
                    try simp only [tupAt]
                    have c8 := (HB.out W (D.trans gW)).cell 8 rfl
                    have a3 := Try.isAgg45
                    have z3 := Try.sizeOf45
                    exact OpOK.val (u := .slice (some ⟨g, off, none⟩) n cap) (by rfl) (by first | (go_simp; done) | (go_simp; with_reducible rfl) | (go_simp; rfl)) (fun W' _ => rfl)
                  try simp only [Act.put, List.setIfInBounds_toArray, List.set_cons_zero, List.set_cons_succ]
                  refine RelO.next (k' := 5) rfl (fun W gW hF => ?_) ?_
                  focus
                    refine OpOK.val (u := .int .i64 ((j + 1 : Nat) : Int)) (by rfl) ?_ (fun W' _ => rfl)
                    try simp only [tupAt]
                    first | (go_simp; done) | (go_simp; with_reducible rfl) | (go_simp; rfl)
                  try simp only [Act.put, List.setIfInBounds_toArray, List.set_cons_zero, List.set_cons_succ]
                  refine RelO.next (k' := 6) rfl (fun W gW hF => ?_) ?_
                  focus
                    obtain ⟨h3, h4, _⟩ := hF
                    have e3 : val 3 = .slice (some ⟨g, off, none⟩) n cap := h3 _ (Frm.refl _ W)
                    have e4 : val 4 = .int .i64 ((j + 1 : Nat) : Int) := h4 _ (Frm.refl _ W)
                    try simp only [e4]
                    try simp only [e3]
                    try simp only [tupAt]
                    refine OpOK.val (u := .pointer (some ⟨g, off + (j + 1) * 3, none⟩)) (by rfl) ?_ (fun W' _ => rfl)
                    try simp only [e4]
                    try simp only [e3]
                    try simp only [tupAt]
                    first | (go_simp; done) | (go_simp; with_reducible rfl) | (go_simp; rfl)
                  try simp only [Act.put, List.setIfInBounds_toArray, List.set_cons_zero, List.set_cons_succ]
                  refine RelO.next (k' := 7) rfl (fun W gW hF => ?_) ?_
                  focus
                    obtain ⟨h5, _⟩ := hF
                    have e5 : val 5 = .pointer (some ⟨g, off + (j + 1) * 3, none⟩) := h5 _ (Frm.refl _ W)
                    try simp only [e5]
                    try simp only [tupAt]
                    refine OpOK.val (u := .pointer (some ⟨g, off + (j + 1) * 3, none⟩)) (by rfl) ?_ (fun W' _ => rfl)
                    try simp only [e5]
                    try simp only [tupAt]
                    first | (go_simp; done) | (go_simp; with_reducible rfl) | (go_simp; rfl)
                  try simp only [Act.put, List.setIfInBounds_toArray, List.set_cons_zero, List.set_cons_succ]
                  refine RelO.next (k' := 8) rfl (fun W gW hF => ?_) ?_
                  focus
                    obtain ⟨h6, _⟩ := hF
                    have e6 : val 6 = .pointer (some ⟨g, off + (j + 1) * 3, none⟩) := h6 _ (Frm.refl _ W)
                    try simp only [e6]
                    try simp only [tupAt]
                    obtain ⟨x0, x1⟩ := HX.out W (D.trans gW)
                    exact OpOK.val (u := .agg (dv x.r x.n)) (by rfl) (by first | (go_simp; done) | (go_simp; with_reducible rfl) | (go_simp; rfl)) (fun W' _ => rfl)
                  try simp only [Act.put, List.setIfInBounds_toArray, List.set_cons_zero, List.set_cons_succ]
                  refine RelO.next (k' := 9) rfl (fun W gW hF => ?_) ?_
                  focus
                    obtain ⟨h1, h7, _⟩ := hF
                    have e1 : val 1 = .agg (vv f) := h1 _ (Frm.refl _ W)
                    have e7 : val 7 = .agg (dv x.r x.n) := h7 _ (Frm.refl _ W)
                    try simp only [e7]
                    try simp only [e1]
                    try simp only [tupAt]
                    refine OpOK.call (by rfl) ?_ ((HH.out W).mono ?_)
                    · first | (go_simp; done) | (go_simp; with_reducible rfl) | (go_simp; rfl)
                    · rintro e W1 ⟨rfl, g1⟩
                      exact ⟨_, rfl, g1, fun W2 _ => rfl⟩
                  try simp only [Act.put, List.setIfInBounds_toArray, List.set_cons_zero, List.set_cons_succ]
                  refine RelO.next (k' := 10) rfl (fun W gW hF => ?_) ?_
                  focus
                    obtain ⟨h8, _⟩ := hF
                    have e8 : val 8 = .bool true := h8 _ (Frm.refl _ W)
                    try simp only [e8]
                    try simp only [tupAt]
                    refine OpOK.val (u := .bool false) (by rfl) ?_ (fun W' _ => rfl)
                    try simp only [e8]
                    try simp only [tupAt]
                    first | (go_simp; done) | (go_simp; with_reducible rfl) | (go_simp; rfl)
                  try simp only [Act.put, List.setIfInBounds_toArray, List.set_cons_zero, List.set_cons_succ]
                  refine RelO.next (k' := 11) rfl (fun W gW hF => ?_) ?_
                  focus
                    obtain ⟨h9, _⟩ := hF
                    have e9 : val 9 = .bool false := h9 _ (Frm.refl _ W)
                    try simp only [e9]
                    try simp only [tupAt]
                    refine OpOK.val (u := .bool false) (by rfl) ?_ (fun W' _ => rfl)
                    try simp only [e9]
                    try simp only [tupAt]
                    first | (go_simp; done) | (go_simp; with_reducible rfl) | (go_simp; rfl)
                  try simp only [Act.put, List.setIfInBounds_toArray, List.set_cons_zero, List.set_cons_succ]
                  refine RelO.next (k' := 12) rfl (fun W gW hF => ?_) ?_
                  focus
                    obtain ⟨h10, _⟩ := hF
                    have e10 : val 10 = .bool false := h10 _ (Frm.refl _ W)
                    try simp only [e10]
                    try simp only [tupAt]
                    refine OpOK.val (u := .int .i64 ((j + 1 : Nat) : Int)) (by rfl) ?_ (fun W' _ => rfl)
                    try simp only [e10]
                    try simp only [tupAt]
                    first | (go_simp; done) | (go_simp; with_reducible rfl) | (go_simp; rfl)
                  try simp only [Act.put, List.setIfInBounds_toArray, List.set_cons_zero, List.set_cons_succ]
                  refine RelO.next (k' := 13) rfl (fun W gW hF => ?_) ?_
                  focus
                    obtain ⟨h10, h11, _⟩ := hF
                    have e10 : val 10 = .bool false := h10 _ (Frm.refl _ W)
                    have e11 : val 11 = .int .i64 ((j + 1 : Nat) : Int) := h11 _ (Frm.refl _ W)
                    try simp only [e11]
                    try simp only [e10]
                    try simp only [tupAt]
                    refine OpOK.val (u := .bool true) (by rfl) ?_ (fun W' _ => rfl)
                    try simp only [e11]
                    try simp only [e10]
                    try simp only [tupAt]
                    first | (go_simp; done) | (go_simp; with_reducible rfl) | (go_simp; rfl)
                  try simp only [Act.put, List.setIfInBounds_toArray, List.set_cons_zero, List.set_cons_succ]
                  refine RelO.next (k' := 14) rfl (fun W gW hF => ?_) ?_
                  focus
                    obtain ⟨h10, h12, _⟩ := hF
                    have e10 : val 10 = .bool false := h10 _ (Frm.refl _ W)
                    have e12 : val 12 = .bool true := h12 _ (Frm.refl _ W)
                    try simp only [e12]
                    try simp only [e10]
                    try simp only [tupAt]
                    refine OpOK.val (u := .bool true) (by rfl) ?_ (fun W' _ => rfl)
                    try simp only [e12]
                    try simp only [e10]
                    try simp only [tupAt]
                    first | (go_simp; done) | (go_simp; with_reducible rfl) | (go_simp; rfl)
                  try simp only [Act.put, List.setIfInBounds_toArray, List.set_cons_zero, List.set_cons_succ]
                  refine RelO.next (k' := 15) rfl (fun W gW hF => ?_) ?_
                  focus
                    obtain ⟨h13, _⟩ := hF
                    have e13 : val 13 = .bool true := h13 _ (Frm.refl _ W)
                    try simp only [e13]
                    try simp only [tupAt]
                    refine OpOK.val (u := .pointer (some ⟨N, 8, none⟩)) (by rfl) ?_ (fun W' _ => rfl)
                    try simp only [e13]
                    try simp only [tupAt]
                    first | (go_simp; done) | (go_simp; with_reducible rfl) | (go_simp; rfl)
                  try simp only [Act.put, List.setIfInBounds_toArray, List.set_cons_zero, List.set_cons_succ]
                  refine RelO.next (k' := 16) rfl (fun W gW hF => ?_) ?_
                  focus
                    obtain ⟨h13, h14, _⟩ := hF
                    have e13 : val 13 = .bool true := h13 _ (Frm.refl _ W)
                    have e14 : val 14 = .pointer (some ⟨N, 8, none⟩) := h14 _ (Frm.refl _ W)
                    try simp only [e14]
                    try simp only [e13]
                    try simp only [tupAt]
                    have c8 := (HB.out W (D.trans gW)).cell 8 rfl
                    have a3 := Try.isAgg45
                    have z3 := Try.sizeOf45
                    exact OpOK.val (u := .slice (some ⟨g, off, none⟩) n cap) (by rfl) (by first | (go_simp; done) | (go_simp; with_reducible rfl) | (go_simp; rfl)) (fun W' _ => rfl)
                  try simp only [Act.put, List.setIfInBounds_toArray, List.set_cons_zero, List.set_cons_succ]
                  refine RelO.next (k' := 17) rfl (fun W gW hF => ?_) ?_
                  focus
                    obtain ⟨h13, _⟩ := hF
                    have e13 : val 13 = .bool true := h13 _ (Frm.refl _ W)
                    try simp only [e13]
                    try simp only [tupAt]
                    refine OpOK.val (u := .int .i64 ((j + 1 : Nat) : Int)) (by rfl) ?_ (fun W' _ => rfl)
                    try simp only [e13]
                    try simp only [tupAt]
                    first | (go_simp; done) | (go_simp; with_reducible rfl) | (go_simp; rfl)
                  try simp only [Act.put, List.setIfInBounds_toArray, List.set_cons_zero, List.set_cons_succ]
                  refine RelO.next (k' := 18) rfl (fun W gW hF => ?_) ?_
                  focus
                    obtain ⟨h13, h16, _⟩ := hF
                    have e13 : val 13 = .bool true := h13 _ (Frm.refl _ W)
                    have e16 : val 16 = .int .i64 ((j + 1 : Nat) : Int) := h16 _ (Frm.refl _ W)
                    try simp only [e16]
                    try simp only [e13]
                    try simp only [tupAt]
                    exact OpOK.val (u := .int .i64 (j : Int)) (by rfl) (by go_simp; exact HJ.out) (fun W' _ => rfl)
                  try simp only [Act.put, List.setIfInBounds_toArray, List.set_cons_zero, List.set_cons_succ]
                  refine RelO.next (k' := 19) rfl (fun W gW hF => ?_) ?_
                  focus
                    obtain ⟨h13, h15, h17, _⟩ := hF
                    have e13 : val 13 = .bool true := h13 _ (Frm.refl _ W)
                    have e15 : val 15 = .slice (some ⟨g, off, none⟩) n cap := h15 _ (Frm.refl _ W)
                    have e17 : val 17 = .int .i64 (j : Int) := h17 _ (Frm.refl _ W)
                    try simp only [e17]
                    try simp only [e15]
                    try simp only [e13]
                    try simp only [tupAt]
                    refine OpOK.val (u := .pointer (some ⟨g, off + j * 3, none⟩)) (by rfl) ?_ (fun W' _ => rfl)
                    try simp only [e17]
                    try simp only [e15]
                    try simp only [e13]
                    try simp only [tupAt]
                    first | (go_simp; done) | (go_simp; with_reducible rfl) | (go_simp; rfl)
                  try simp only [Act.put, List.setIfInBounds_toArray, List.set_cons_zero, List.set_cons_succ]
                  refine RelO.next (k' := 20) rfl (fun W gW hF => ?_) ?_
                  focus
                    obtain ⟨h13, h18, _⟩ := hF
                    have e13 : val 13 = .bool true := h13 _ (Frm.refl _ W)
                    have e18 : val 18 = .pointer (some ⟨g, off + j * 3, none⟩) := h18 _ (Frm.refl _ W)
                    try simp only [e18]
                    try simp only [e13]
                    try simp only [tupAt]
                    refine OpOK.val (u := .pointer (some ⟨g, off + j * 3, none⟩)) (by rfl) ?_ (fun W' _ => rfl)
                    try simp only [e18]
                    try simp only [e13]
                    try simp only [tupAt]
                    first | (go_simp; done) | (go_simp; with_reducible rfl) | (go_simp; rfl)
                  try simp only [Act.put, List.setIfInBounds_toArray, List.set_cons_zero, List.set_cons_succ]
                  refine RelO.next (k' := 21) rfl (fun W gW hF => ?_) ?_
                  focus
                    obtain ⟨h13, h19, _⟩ := hF
                    have e13 : val 13 = .bool true := h13 _ (Frm.refl _ W)
                    have e19 : val 19 = .pointer (some ⟨g, off + j * 3, none⟩) := h19 _ (Frm.refl _ W)
                    try simp only [e19]
                    try simp only [e13]
                    try simp only [tupAt]
                    obtain ⟨x0, x1⟩ := HY.out W (D.trans gW)
                    exact OpOK.val (u := .agg (dv y.r y.n)) (by rfl) (by first | (go_simp; done) | (go_simp; with_reducible rfl) | (go_simp; rfl)) (fun W' _ => rfl)
                  try simp only [Act.put, List.setIfInBounds_toArray, List.set_cons_zero, List.set_cons_succ]
                  refine RelO.next (k' := 22) rfl (fun W gW hF => ?_) ?_
                  focus
                    obtain ⟨h13, _⟩ := hF
                    have e13 : val 13 = .bool true := h13 _ (Frm.refl _ W)
                    try simp only [e13]
                    try simp only [tupAt]
                    refine OpOK.val (u := .pointer (some ⟨N, 8, none⟩)) (by rfl) ?_ (fun W' _ => rfl)
                    try simp only [e13]
                    try simp only [tupAt]
                    first | (go_simp; done) | (go_simp; with_reducible rfl) | (go_simp; rfl)
                  try simp only [Act.put, List.setIfInBounds_toArray, List.set_cons_zero, List.set_cons_succ]
                  refine RelO.next (k' := 23) rfl (fun W gW hF => ?_) ?_
                  focus
                    obtain ⟨h13, h21, _⟩ := hF
                    have e13 : val 13 = .bool true := h13 _ (Frm.refl _ W)
                    have e21 : val 21 = .pointer (some ⟨N, 8, none⟩) := h21 _ (Frm.refl _ W)
                    try simp only [e21]
                    try simp only [e13]
                    try simp only [tupAt]
                    have c8 := (HB.out W (D.trans gW)).cell 8 rfl
                    have a3 := Try.isAgg45
                    have z3 := Try.sizeOf45
                    exact OpOK.val (u := .slice (some ⟨g, off, none⟩) n cap) (by rfl) (by first | (go_simp; done) | (go_simp; with_reducible rfl) | (go_simp; rfl)) (fun W' _ => rfl)
                  try simp only [Act.put, List.setIfInBounds_toArray, List.set_cons_zero, List.set_cons_succ]
                  refine RelO.next (k' := 24) rfl (fun W gW hF => ?_) ?_
                  focus
                    obtain ⟨h13, _⟩ := hF
                    have e13 : val 13 = .bool true := h13 _ (Frm.refl _ W)
                    try simp only [e13]
                    try simp only [tupAt]
                    refine OpOK.val (u := .int .i64 ((j + 1 : Nat) : Int)) (by rfl) ?_ (fun W' _ => rfl)
                    try simp only [e13]
                    try simp only [tupAt]
                    first | (go_simp; done) | (go_simp; with_reducible rfl) | (go_simp; rfl)
                  try simp only [Act.put, List.setIfInBounds_toArray, List.set_cons_zero, List.set_cons_succ]
                  refine RelO.next (k' := 25) rfl (fun W gW hF => ?_) ?_
                  focus
                    obtain ⟨h13, h22, h23, _⟩ := hF
                    have e13 : val 13 = .bool true := h13 _ (Frm.refl _ W)
                    have e22 : val 22 = .slice (some ⟨g, off, none⟩) n cap := h22 _ (Frm.refl _ W)
                    have e23 : val 23 = .int .i64 ((j + 1 : Nat) : Int) := h23 _ (Frm.refl _ W)
                    try simp only [e23]
                    try simp only [e22]
                    try simp only [e13]
                    try simp only [tupAt]
                    refine OpOK.val (u := .pointer (some ⟨g, off + (j + 1) * 3, none⟩)) (by rfl) ?_ (fun W' _ => rfl)
                    try simp only [e23]
                    try simp only [e22]
                    try simp only [e13]
                    try simp only [tupAt]
                    first | (go_simp; done) | (go_simp; with_reducible rfl) | (go_simp; rfl)
                  try simp only [Act.put, List.setIfInBounds_toArray, List.set_cons_zero, List.set_cons_succ]
                  refine RelO.next (k' := 26) rfl (fun W gW hF => ?_) ?_
                  focus
                    obtain ⟨h13, h24, _⟩ := hF
                    have e13 : val 13 = .bool true := h13 _ (Frm.refl _ W)
                    have e24 : val 24 = .pointer (some ⟨g, off + (j + 1) * 3, none⟩) := h24 _ (Frm.refl _ W)
                    try simp only [e24]
                    try simp only [e13]
                    try simp only [tupAt]
                    refine OpOK.val (u := .pointer (some ⟨g, off + (j + 1) * 3, none⟩)) (by rfl) ?_ (fun W' _ => rfl)
                    try simp only [e24]
                    try simp only [e13]
                    try simp only [tupAt]
                    first | (go_simp; done) | (go_simp; with_reducible rfl) | (go_simp; rfl)
                  try simp only [Act.put, List.setIfInBounds_toArray, List.set_cons_zero, List.set_cons_succ]
                  refine RelO.next (k' := 27) rfl (fun W gW hF => ?_) ?_
                  focus
                    obtain ⟨h13, h25, _⟩ := hF
                    have e13 : val 13 = .bool true := h13 _ (Frm.refl _ W)
                    have e25 : val 25 = .pointer (some ⟨g, off + (j + 1) * 3, none⟩) := h25 _ (Frm.refl _ W)
                    try simp only [e25]
                    try simp only [e13]
                    try simp only [tupAt]
                    obtain ⟨x0, x1⟩ := HX.out W (D.trans gW)
                    exact OpOK.val (u := .agg (dv x.r x.n)) (by rfl) (by first | (go_simp; done) | (go_simp; with_reducible rfl) | (go_simp; rfl)) (fun W' _ => rfl)
                  try simp only [Act.put, List.setIfInBounds_toArray, List.set_cons_zero, List.set_cons_succ]
                  refine RelO.next (k' := 28) rfl (fun W gW hF => ?_) ?_
                  focus
                    obtain ⟨h13, h20, h26, _⟩ := hF
                    have e13 : val 13 = .bool true := h13 _ (Frm.refl _ W)
                    have e20 : val 20 = .agg (dv y.r y.n) := h20 _ (Frm.refl _ W)
                    have e26 : val 26 = .agg (dv x.r x.n) := h26 _ (Frm.refl _ W)
                    try simp only [e26]
                    try simp only [e20]
                    try simp only [e13]
                    try simp only [tupAt]
                    refine OpOK.call (by rfl) ?_ ((HL.out W).mono ?_)
                    · first | (go_simp; done) | (go_simp; with_reducible rfl) | (go_simp; rfl)
                    · rintro e W1 ⟨rfl, g1⟩
                      exact ⟨_, rfl, g1, fun W2 _ => rfl⟩
                  try simp only [Act.put, List.setIfInBounds_toArray, List.set_cons_zero, List.set_cons_succ]
                  refine RelO.next (k' := 29) rfl (fun W gW hF => ?_) ?_
                  focus
                    obtain ⟨h13, h27, _⟩ := hF
                    have e13 : val 13 = .bool true := h13 _ (Frm.refl _ W)
                    have e27 : val 27 = .bool q := h27 _ (Frm.refl _ W)
                    try simp only [e27]
                    try simp only [e13]
                    try simp only [tupAt]
                    refine OpOK.val (u := .bool (!q)) (by rfl) ?_ (fun W' _ => rfl)
                    try simp only [e27]
                    try simp only [e13]
                    try simp only [tupAt]
                    first | (go_simp; done) | (go_simp; with_reducible rfl) | (go_simp; rfl)
                  try simp only [Act.put, List.setIfInBounds_toArray, List.set_cons_zero, List.set_cons_succ]
                  refine RelO.next (k' := 30) rfl (fun W gW hF => ?_) ?_
                  focus
                    obtain ⟨h10, h13, h28, _⟩ := hF
                    have e10 : val 10 = .bool false := h10 _ (Frm.refl _ W)
                    have e13 : val 13 = .bool true := h13 _ (Frm.refl _ W)
                    have e28 : val 28 = .bool (!q) := h28 _ (Frm.refl _ W)
                    try simp only [e28]
                    try simp only [e13]
                    try simp only [e10]
                    try simp only [tupAt]
                    refine OpOK.val (u := .bool (!q)) (by rfl) ?_ (fun W' _ => rfl)
                    try simp only [e28]
                    try simp only [e13]
                    try simp only [e10]
                    try simp only [tupAt]
                    first | (go_simp; done) | (go_simp; with_reducible rfl) | (go_simp; rfl)
                  try simp only [Act.put, List.setIfInBounds_toArray, List.set_cons_zero, List.set_cons_succ]
                  refine RelO.next (k' := 31) rfl (fun W gW hF => ?_) ?_
                  focus
                    obtain ⟨h10, h29, _⟩ := hF
                    have e10 : val 10 = .bool false := h10 _ (Frm.refl _ W)
                    have e29 : val 29 = .bool (!q) := h29 _ (Frm.refl _ W)
                    try simp only [e29]
                    try simp only [e10]
                    try simp only [tupAt]
                    refine OpOK.val (u := .bool (!q)) (by rfl) ?_ (fun W' _ => rfl)
                    try simp only [e29]
                    try simp only [e10]
                    try simp only [tupAt]
                    first | (go_simp; done) | (go_simp; with_reducible rfl) | (go_simp; rfl)
                  try simp only [Act.put, List.setIfInBounds_toArray, List.set_cons_zero, List.set_cons_succ]
                  exact RelO.nil
                intro val W gW hF
                obtain ⟨h0, h1, h2, h3, h4, h5, h6, h7, h8, h9, h10, h11, h12, h13, h14, h15, h16, h17, h18, h19, h20, h21, h22, h23, h24, h25, h26, h27, h28, h29, h30, _⟩ := hF
                have e0 : val 0 = .pointer (some ⟨N, 0, none⟩) := h0 _ (Frm.refl _ W)
                have e1 : val 1 = .agg (vv f) := h1 _ (Frm.refl _ W)
                have e2 : val 2 = .pointer (some ⟨N, 8, none⟩) := h2 _ (Frm.refl _ W)
                have e3 : val 3 = .slice (some ⟨g, off, none⟩) n cap := h3 _ (Frm.refl _ W)
                have e4 : val 4 = .int .i64 ((j + 1 : Nat) : Int) := h4 _ (Frm.refl _ W)
                have e5 : val 5 = .pointer (some ⟨g, off + (j + 1) * 3, none⟩) := h5 _ (Frm.refl _ W)
                have e6 : val 6 = .pointer (some ⟨g, off + (j + 1) * 3, none⟩) := h6 _ (Frm.refl _ W)
                have e7 : val 7 = .agg (dv x.r x.n) := h7 _ (Frm.refl _ W)
                have e8 : val 8 = .bool true := h8 _ (Frm.refl _ W)
                have e9 : val 9 = .bool false := h9 _ (Frm.refl _ W)
                have e10 : val 10 = .bool false := h10 _ (Frm.refl _ W)
                have e11 : val 11 = .int .i64 ((j + 1 : Nat) : Int) := h11 _ (Frm.refl _ W)
                have e12 : val 12 = .bool true := h12 _ (Frm.refl _ W)
                have e13 : val 13 = .bool true := h13 _ (Frm.refl _ W)
                have e14 : val 14 = .pointer (some ⟨N, 8, none⟩) := h14 _ (Frm.refl _ W)
                have e15 : val 15 = .slice (some ⟨g, off, none⟩) n cap := h15 _ (Frm.refl _ W)
                have e16 : val 16 = .int .i64 ((j + 1 : Nat) : Int) := h16 _ (Frm.refl _ W)
                have e17 : val 17 = .int .i64 (j : Int) := h17 _ (Frm.refl _ W)
                have e18 : val 18 = .pointer (some ⟨g, off + j * 3, none⟩) := h18 _ (Frm.refl _ W)
                have e19 : val 19 = .pointer (some ⟨g, off + j * 3, none⟩) := h19 _ (Frm.refl _ W)
                have e20 : val 20 = .agg (dv y.r y.n) := h20 _ (Frm.refl _ W)
                have e21 : val 21 = .pointer (some ⟨N, 8, none⟩) := h21 _ (Frm.refl _ W)
                have e22 : val 22 = .slice (some ⟨g, off, none⟩) n cap := h22 _ (Frm.refl _ W)
                have e23 : val 23 = .int .i64 ((j + 1 : Nat) : Int) := h23 _ (Frm.refl _ W)
                have e24 : val 24 = .pointer (some ⟨g, off + (j + 1) * 3, none⟩) := h24 _ (Frm.refl _ W)
                have e25 : val 25 = .pointer (some ⟨g, off + (j + 1) * 3, none⟩) := h25 _ (Frm.refl _ W)
                have e26 : val 26 = .agg (dv x.r x.n) := h26 _ (Frm.refl _ W)
                have e27 : val 27 = .bool q := h27 _ (Frm.refl _ W)
                have e28 : val 28 = .bool (!q) := h28 _ (Frm.refl _ W)
                have e29 : val 29 = .bool (!q) := h29 _ (Frm.refl _ W)
                have e30 : val 30 = .bool (!q) := h30 _ (Frm.refl _ W)
                clear h0 h1 h2 h3 h4 h5 h6 h7 h8 h9 h10 h11 h12 h13 h14 h15 h16 h17 h18 h19 h20 h21 h22 h23 h24 h25 h26 h27 h28 h29 h30
                simp only [aO, Act.put, List.setIfInBounds_toArray, List.set_cons_zero, List.set_cons_succ, Nat.reduceAdd]
                try simp only [e30]
                try simp only [e29]
                try simp only [e28]
                try simp only [e27]
                try simp only [e26]
                try simp only [e25]
                try simp only [e24]
                try simp only [e23]
                try simp only [e22]
                try simp only [e21]
                try simp only [e20]
                try simp only [e19]
                try simp only [e18]
                try simp only [e17]
                try simp only [e16]
                try simp only [e15]
                try simp only [e14]
                try simp only [e13]
                try simp only [e12]
                try simp only [e11]
                try simp only [e10]
                try simp only [e9]
                try simp only [e8]
                try simp only [e7]
                try simp only [e6]
                try simp only [e5]
                try simp only [e4]
                try simp only [e3]
                try simp only [e2]
                try simp only [e1]
                try simp only [e0]
                try simp only [tupAt]
                refine wpTail.doneN ?_
                refine hK _ _ ?_
                have f2 := f1.trans (D.trans gW)
                clear gW D hK e0 e1 e2 e3 e4 e5 e6 e7 e8 e9 e10 e11 e12 e13 e14 e15 e16 e17 e18 e19 e20 e21 e22 e23 e24 e25 e26 e27 e28 e29 e30
                cases q with
                | true =>
                  go_wp2_with fail
                  go_roundw
                  case rel => exact ⟨j + 1 + 1, by omega, by go_num, HNX.out, f2⟩
                  case measure => simp [intOf]; omega
                | false =>
                  have HNO := Lib.hid (show goodC f 0 0 l = false from good_no f l (j + 1 + 1) HNX.out)
                  go_wp2_with fail
                  go_ret
                  exact ⟨by rw [HC.out, HNO.out, Bool.and_false]; rfl, g0.trans f2⟩
          · obtain rfl : k = l.length := by omega
            have hg := HG.out
            rw [List.take_length] at hg
            have HG2 := Lib.hid hg
            clear hg HG
            go_wp2_with fail
            go_ret
            exact ⟨by rw [HC.out, HG2.out, decide_eq_true HM.out, decide_eq_true h8]; rfl, g0.trans f1⟩
      · have h8i : (8 : Int) < (l.length : Int) := by omega
        have H8 := Lib.hid h8
        clear h8
        go_wp2
        go_ret
        exact ⟨by rw [HC.out, decide_eq_false H8.out, Bool.and_false]; rfl, g0⟩

set_option maxRecDepth 100000 in
set_option maxHeartbeats 2000000 in
theorem requal_any (f g : Nat → Nat) (v1 v2 : Value) (l m : List SibI) (w : World) (h1 : SL w v1 l) (h2 : SL w v2 m) :
    Calls Try.prog 24 #[rg f v1, rg g v2] w fun e w' => e = .returned (.bool (eq8 f g && decide (l = m))) ∧ Frm (fun _ => False) w w' := by
  have E := fREq f g (eq8 f g) rfl
  obtain ⟨a, cap, rfl, hc1, hc2⟩ := h1.slice
  obtain ⟨b, capb, rfl, hd1, hd2⟩ := h2.slice
  unfold maxLen at hc2 hd2
  have g0 : Frm (fun _ => False) w ((w.alloc (.cells (rgc f (.slice a l.length cap)) 47)).alloc (.cells (rgc g (.slice b m.length capb)) 47)) := ((Frm.refl _ w).alloc _).alloc _
  have b0 : Blk ((w.alloc (.cells (rgc f (.slice a l.length cap)) 47)).alloc (.cells (rgc g (.slice b m.length capb)) 47)) w.heap.size 47 (rgc f (.slice a l.length cap)) := (Blk.alloc w _ _).old _
  have b1 : Blk ((w.alloc (.cells (rgc f (.slice a l.length cap)) 47)).alloc (.cells (rgc g (.slice b m.length capb)) 47)) (w.heap.size + 1) 47 (rgc g (.slice b m.length capb)) := Blk.at1 w _ _ _
  generalize eq8 f g = p at *
  go_enter Try.func24, Try.ntmps24
  go_upto_region 1 with fail
  generalize (w.alloc (.cells (rgc f (.slice a l.length cap)) 47)).alloc (.cells (rgc g (.slice b m.length capb)) 47) = w1 at *
  generalize w.heap.size = N at *
  have lf := load_rctx b0
  have lg := load_rctx b1
  have c8 := b0.cell 8 rfl
  have c9 := b1.cell 8 rfl
  have h1 := h1.keepF g0
  have h2 := h2.keepF g0
  cases p with
  | false =>
    go_wp2_with (first
      | ((with_reducible refine wpl_load rfl _ rfl ?_ lf ?_); (focus rfl))
      | ((with_reducible refine wpl_load rfl _ rfl ?_ lg ?_); (focus rfl)))
    go_ret
    exact ⟨rfl, g0⟩
  | true =>
    by_cases hl : l.length = m.length
    · have hli : ((l.length : Int) != (m.length : Int)) = false := by simp; omega
      have HL := Lib.hid hl
      clear hl
      go_wp2_with (first
        | ((with_reducible refine wpl_load rfl _ rfl ?_ lf ?_); (focus rfl))
        | ((with_reducible refine wpl_load rfl _ rfl ?_ lg ?_); (focus rfl)))
      clear lf lg E
      have HB0 := Lib.hid b0
      have HB1 := Lib.hid b1
      clear b0 b1 c8 c9
      go_loopw [5] (fun i wr => ∃ k : Nat, k ≤ l.length ∧ i = .int .i64 k ∧ (∀ j (hj : j < l.length) (hj2 : j < m.length), j < k → l[j] = m[j]) ∧ Frm (fun _ => False) w1 wr) (fun i _ => l.length - (intOf i).toNat)
      case atStart => exact ⟨0, Nat.zero_le _, rfl, fun j _ _ h => by omega, Frm.refl _ _⟩
      case round =>
        obtain ⟨k, hk, rfl, hbef, f1⟩ := hrel
        have HB := Lib.hid hbef
        clear hbef
        have c8 := (HB0.out.keep f1 (fun h => h)).cell 8 rfl
        have c9 := (HB1.out.keep f1 (fun h => h)).cell 8 rfl
        by_cases hlt : k < l.length
        · have hlm : k < m.length := by rw [← HL.out]; exact hlt
          have hk0 : (0 : Int) ≤ (k : Int) := by omega
          have hki : (k : Int) < (l.length : Int) := by omega
          have hkm : (k : Int) < (m.length : Int) := by omega
          obtain ⟨g1, off, rfl, x0, x1, x2⟩ := (h1.keepF f1).cells k hlt
          obtain ⟨g2, off', rfl, y0, y1, y2⟩ := (h2.keepF f1).cells k hlm
          have hQ := fun W => run_eq_rsibI l[k] m[k] W
          obtain ⟨q1, hq1⟩ : ∃ q1, decide (l[k] = m[k]) = q1 := ⟨_, rfl⟩
          rw [hq1] at hQ
          have HQ1 := Lib.hid hq1
          clear hq1
          go_upto_region 6 with fail
          go_quiet (fail)
          have f2 : Frm (fun _ => False) w1 (wr.drewN nq) := f1.trans ((Frm.refl _ wr).drewN nq)
          cases q1 with
          | true =>
            go_wp2_with fail
            go_roundw
            case rel =>
              refine ⟨k + 1, by omega, by go_num, fun j hj hj2 hjk => ?_, f2⟩
              by_cases e : j = k
              · subst e; exact of_decide_eq_true HQ1.out
              · exact HB.out j hj hj2 (by omega)
            case measure => simp [intOf]; omega
          | false =>
            go_wp2_with fail
            go_ret
            refine ⟨?_, g0.trans f2⟩
            have hne : ¬ (l = m) := fun e => by
              subst e
              exact of_decide_eq_false HQ1.out rfl
            rw [decide_eq_false hne]; rfl
        · obtain rfl : k = l.length := by omega
          have hnot : ¬ ((l.length : Int) < (m.length : Int)) := by have := HL.out; omega
          go_wp2_with fail
          go_ret
          refine ⟨?_, g0.trans f1⟩
          have he : l = m := by
            apply List.ext_getElem HL.out
            intro j hj hj2
            exact HB.out j hj hj2 hj
          rw [decide_eq_true he]; rfl
    · have hli : ((l.length : Int) != (m.length : Int)) = true := by simp; omega
      have hne : ¬ (l = m) := fun e => hl (congrArg List.length e)
      have HN := Lib.hid hne
      clear hl hne
      go_wp2_with (first
        | ((with_reducible refine wpl_load rfl _ rfl ?_ lf ?_); (focus rfl))
        | ((with_reducible refine wpl_load rfl _ rfl ?_ lg ?_); (focus rfl)))
      go_ret
      exact ⟨by rw [decide_eq_false HN.out]; rfl, g0⟩
end Go.Proofs.Ytmdmkcofafhlcaa

