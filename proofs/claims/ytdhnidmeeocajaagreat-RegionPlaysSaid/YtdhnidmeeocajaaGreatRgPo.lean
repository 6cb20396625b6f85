/- What the laws' own tells and awake answer; Append of a region that is none. No condition. -/
import Derived.Test.YtdhnidmeeocajaaGreatRgW
import Derived.Test.YtdhnidmeeocajaaGreatLnD
import Derived.Test.YtdhnidmeeocajaaGreatStrs
section
namespace Go.Proofs.YtdhnidmeeocajaaGreat
open Go.RowKit Go.Shelf
attribute [local go_sem] Oper.semAt_some

theorem Frm.toNewR {w0 w1 w2 : World} {g l f x : Nat} (h : Frm (fun _ => False) w0 w1) (g2 : Frm (RgX g l f x) w1 w2) (ho : w0.heap.size ≤ g ∧ w0.heap.size ≤ l ∧ w0.heap.size ≤ f ∧ w0.heap.size ≤ x) : Frm (fun _ => False) w0 w2 := h.next g2 fun k hk hX => by unfold RgX LnX at hX; omega
theorem rg_neqn (w : World) (a : Addr) : (binOp .neq 37 (.pointer (some a)) (.pointer none)).run Tryz.prog w = .ok (.bool true) w := by
  have h : ∀ d : Nat, (Op.equalIn (d + 1) 37 (.pointer (some a)) (.pointer none)).run Tryz.prog w = .ok false w := fun d => by
    simp [Op.equalIn, run_underlying Tryz.underlying37]
  simp only [binOp]
  simp [Op.equal, Op.maxDepth, h 9999]
set_option maxRecDepth 100000 in
set_option maxHeartbeats 4000000 in
theorem tells_true (l b f x : Nat) (L : LV) (gen : Nat) (gs : List (List UInt8)) (v : Value) (w : World) (h : LnM w l b f x L) (hv : Strs w v gs) (hr : rdR L 64 64 = (gen, gs, 0)) :
    Calls Tryz.prog 26 #[.pointer (some ⟨l, 0, none⟩), .int .u32 (gen : Nat), v] w fun e w' => e = .returned (.bool true) ∧ Frm (fun _ => False) w w' := by
  have HR := rgread_any l b f x L 64 64 w h (by unfold Z64; decide) (by unfold Z64; decide)
  rw [hr] at HR
  unfold ReadTo at HR
  have HR := Lib.hid HR
  obtain ⟨a, cap, rfl, hc1, hc2⟩ := hv.slice
  unfold maxLen at hc2
  have HV := Lib.hid hv
  clear h hr hv
  go_enter Tryz.func26, Tryz.ntmps26
  go_wp2_with fail
  refine HR.out.mono ?_
  rintro e w1 ⟨v2, rfl, hn⟩
  obtain ⟨a2, cap2, rfl, hd1, hd2⟩ := (OwnS.reads hn.own).slice
  unfold maxLen at hd2
  have HN := Lib.hid hn
  clear hn HR
  go_wp2_with fail
  go_loopw [10] (fun i wr => ∃ k : Nat, k ≤ gs.length ∧ i = .int .i64 k ∧ Frm (fun _ => False) w1 wr) (fun i _ => gs.length - (intOf i).toNat)
  case atStart => exact ⟨0, Nat.zero_le _, rfl, Frm.refl _ _⟩
  case round =>
    obtain ⟨k, hk, rfl, gr⟩ := hrel
    by_cases hlt : k < gs.length
    · obtain ⟨g, off, rfl, _, c0⟩ := Strs.at (HV.out.keepF (HN.out.frm.trans gr)) k hlt
      obtain ⟨g2, off2, rfl, _, c1⟩ := Strs.at ((OwnS.reads HN.out.own).keepF gr) k hlt
      obtain ⟨s, hs⟩ : ∃ s, gs[k] = s := ⟨_, rfl⟩
      rw [hs] at c0 c1
      have hki : (k : Int) < (gs.length : Int) := by omega
      have hq : ((bs s).toList != (bs s).toList) = false := by simp
      clear hs
      go_wp2_with fail
      refine wp_region_canon (fun W => W.cell? ⟨g, off + k, none⟩ = some (.string (bs s)) ∧ W.cell? ⟨g2, off2 + k, none⟩ = some (.string (bs s)) ∧ Frm (fun _ => False) wr W) (by kernel_rfl) rfl (by kernel_rfl) (by kernel_rfl) (⟨c0, c1, (Frm.refl _ wr).drew⟩) ?_
      repeat' first
        | (refine CanonL.skip (by rfl) ?_; (try simp only [Act.put, List.setIfInBounds_toArray, List.set_cons_zero, List.set_cons_succ]))
        | (refine CanonL.val (v := ?_) (by rfl) ?_ ?_; rotate_left 1; (focus (intro w hSw; (try dsimp only at hSw); go_simp; (try (with_reducible rfl)); done)); (try simp only [Act.put, List.setIfInBounds_toArray, List.set_cons_zero, List.set_cons_succ]))
      refine CanonL.done ?_
      intro w9 hS9
      have G9 := Lib.hid (gr.trans hS9.2.2)
      clear hS9 c0 c1
      go_wp2_with fail
      go_roundw
      case rel => exact ⟨k + 1, by omega, by go_num, G9.out⟩
      case measure => simp [intOf]; omega
    · obtain rfl : k = gs.length := by omega
      have G9 := Lib.hid (HN.out.frm.trans gr)
      clear gr
      go_wp2_with fail
      go_ret
      exact ⟨rfl, G9.out⟩
end Go.Proofs.YtdhnidmeeocajaaGreat
end
section
namespace Go.Proofs.YtdhnidmeeocajaaGreat
open Go.RowKit Go.Shelf

/-- One more group, over a line that no act cuts. -/
theorem apR_uc {R : RV} {L : LV} {gs : List (List UInt8)} {fc gen : Nat} (h : StR R L gs fc gen) (hu : Uc L) (s : List UInt8) (hf : needs s.length ≤ R.left) :
    ∃ L', apR R L s = (⟨R.at_, R.n, R.used + needs s.length, false⟩, L', 0) ∧ StR ⟨R.at_, R.n, R.used + needs s.length, false⟩ L' (gs ++ [s]) fc gen ∧ Uc L' ∧ L'.acts = L.acts + needs s.length ∧ L'.cs = L.cs ∧ L'.P = L.P ∧ L'.D = (wrs (R.at_ + 1 + R.used) (blks (R.used + 1) s)).foldl (fun D F => F D) L.D := by
  have hs := hu.seq (wrs (R.at_ + 1 + R.used) (blks (R.used + 1) s))
  rcases apR_st h s with ⟨h1, _⟩ | ⟨_, L', h1, h2, h3⟩ | ⟨_, L', h1, h2, _⟩
  · omega
  · subst h2
    exact ⟨_, h1, h3, hs.2.1, by rw [hs.2.2.1, wrs_len, blks_len], hs.2.2.2.1, hs.2.2.2.2.1, hs.2.2.2.2.2⟩
  · rw [hs.1] at h2; cases h2
/-- A Format of the 64 blocks from 64 on, of a device of 256. -/
theorem fmtR_64 {L : LV} (hu : Uc L) (hok : L.D.ok) (hn : L.D.n = 256) :
    ∃ L', fmtR L 64 64 = (L', 0) ∧ StR ⟨64, 64, 0, false⟩ L' [] 0 0 ∧ Uc L' ∧ L'.acts = L.acts + 65 ∧ L'.cs = L.cs ∧ L'.P = L.P ∧ L'.D.n = 256 ∧ ∀ k, L'.D.read k = if 64 ≤ k ∧ k < 128 then zb else L.D.read k := by
  have h := fmtR_st (L := L) (A := 64) (n := 64) hu.1 (fun k _ => by have := hu.2; omega) hok (by decide) (by decide) (by omega)
  have h : (fmtR L 64 64).2 = 0 ∧ (fmtR L 64 64).1.acts = L.acts + 65 ∧ (fmtR L 64 64).1.cut = L.cut ∧ (fmtR L 64 64).1.cs = L.cs ∧ (fmtR L 64 64).1.P = L.P ∧ (fmtR L 64 64).1.D.n = L.D.n ∧ (∀ k, (fmtR L 64 64).1.D.read k = if 64 ≤ k ∧ k < 128 then zb else L.D.read k) ∧ StR ⟨64, 64, 0, false⟩ (fmtR L 64 64).1 [] 0 0 := h
  obtain ⟨h1, h2, h3, h4, h5, h6, h7, h8⟩ := h
  refine ⟨(fmtR L 64 64).1, by rw [← h1], h8, ⟨h8.live, by rw [h3]; exact hu.2⟩, h2, h4, h5, h6.trans hn, h7⟩
theorem new_uc : Uc (LV.new (DV.new 256) (-1) []) := ⟨rfl, by show (-1 : Int) < 0; decide⟩
/-- Of a region of 64 blocks from 64 on. -/
theorem StR.read64 {k : Nat} {bad : Bool} {L : LV} {gs : List (List UInt8)} {fc gen : Nat} (h : StR ⟨64, 64, k, bad⟩ L gs fc gen) {L' : LV} (hd : L'.down = false) (hD : L'.D = L.D) : rdR L' 64 64 = (gen, gs, 0) := h.read (by show 2 ≤ 64; decide) hd hD
set_option maxRecDepth 100000 in
set_option maxHeartbeats 4000000 in
theorem awake13_any (w : World) : Calls Tryz.prog 9 #[] w fun e w' => e = .returned (.bool true) ∧ Frm (fun _ => False) w w' := by
  have HN := Lib.hid (new256 w)
  obtain ⟨L1, f1, s1, u1, a1, c1, p1, n1, _⟩ := fmtR_64 new_uc (DV.ok_new (by decide) (by decide)) rfl
  obtain ⟨L2, f2, s2, u2, a2, c2, p2, _⟩ := apR_uc s1 u1 [97, 98] (by decide)
  have r2 := s2.read64 (L' := L2) u2.1 rfl
  have HM := Lib.hid (And.intro (And.intro f1 (And.intro a1 c1)) (And.intro f2 (And.intro a2 (And.intro r2 c2))))
  clear f1 s1 u1 a1 c1 p1 n1 f2 s2 u2 a2 c2 p2 r2
  have hne := rg_neqn
  go_enter Tryz.func9, Tryz.ntmps9
  go_wp2_with fail
  refine HN.out.mono ?_
  rintro e w1 ⟨_, rfl, b, f, x, rfl, hd, hb, hf, hx, g1⟩
  have HL := Lib.hid (lnew_any b f x _ (-1) _ [] w1 hd (by unfold Z64; decide) (nil_zs (w := w1)) (fun _ h => by cases h) (show 0 ≤ 1000000 by decide))
  have H1 := Lib.hid (And.intro (And.intro hb (And.intro hf hx)) g1)
  clear hd hb hf hx g1 HN
  go_wp2_with fail
  refine HL.out.mono ?_
  rintro e w2 ⟨_, rfl, l, rfl, hl, hlo, g2⟩
  have HF := format_any l b f x _ 64 64 w2 hl (by show 0 ≤ 900000; decide) (by unfold Z64; decide) (by unfold Z64; decide) (.inl rfl)
  unfold FmtTo at HF
  rw [HM.out.1.1] at HF
  have HF := Lib.hid HF
  have H2 := Lib.hid (And.intro (show w.heap.size ≤ l from Nat.le_trans H1.out.2.size hlo) (H1.out.2.trans g2))
  clear hl hlo g2 HL
  go_wp2_with fail
  refine HF.out.mono ?_
  rintro e w3 ⟨v, rfl, hl3, g3, hz, _⟩
  obtain ⟨g, rfl, hg, hR⟩ := hz trivial
  have hR : RgM w3 g l b f x ⟨64, 64, 0, false⟩ L1 := hR
  have H3 := Lib.hid (And.intro (show w.heap.size ≤ g from Nat.le_trans H2.out.2.size hg) (H2.out.2.toNewX g3 ⟨H2.out.1, H1.out.1.2.1, H1.out.1.2.2⟩))
  have HA := rappend_any g l b f x _ L1 [97, 98] w3 hR (by rw [HM.out.1.2.1]; decide) (by decide) (.inl (by rw [HM.out.1.2.2]; rfl))
  rw [HM.out.2.1] at HA
  unfold RgTo at HA
  have HA := Lib.hid HA
  clear hl3 g3 hz hg hR HF
  have hbs : (⟨#[97, 98]⟩ : ByteArray) = bs [97, 98] := rfl
  go_wp2_with fail
  refine HA.out.mono ?_
  rintro e w4 ⟨rfl, h4, g4⟩
  have h4 : RgM w4 g l b f x ⟨64, 64, 0 + needs ([97, 98] : List UInt8).length, false⟩ L2 := h4
  have H4 := Lib.hid (H3.out.2.toNewR g4 ⟨H3.out.1, H2.out.1, H1.out.1.2.1, H1.out.1.2.2⟩)
  have HLF := Lib.hid (rleft_any g l b f x _ L2 w4 h4)
  have HR4 := Lib.hid h4
  clear h4 g4 HA
  go_wp2_with fail
  refine HLF.out.mono ?_
  rintro e w5 ⟨rfl, g5⟩
  have hlf : ((RV.left ⟨64, 64, 0 + needs ([97, 98] : List UInt8).length, false⟩ : Nat) : Int) = 62 := rfl
  rw [hlf]
  have gS : Frm (fun _ => False) w5 (w5.alloc (.cells #[.string (bs [97, 98])] 9)) := (Frm.refl _ w5).alloc _
  have HT := Lib.hid (tells_true l b f x L2 0 [[97, 98]] _ _ (((HR4.out.ln).keepF g5).keepF gS) (rstrs_one w5 [97, 98]) HM.out.2.2.2.1)
  have H5 := Lib.hid ((H4.out.trans g5).trans gS)
  clear g5 gS HLF hlf
  go_wp2_with fail
  refine HT.out.mono ?_
  rintro e w6 ⟨rfl, g6⟩
  have H6 := Lib.hid (H5.out.trans g6)
  have HNE := Lib.hid (needs_any 59 w6 (by unfold Z64; decide))
  clear g6 HT
  go_wp2_with fail
  refine HNE.out.mono ?_
  rintro e w7 ⟨rfl, rfl⟩
  have hn59 : ((needs (59 : Int).toNat : Nat) : Int) = 2 := rfl
  rw [hn59]
  clear HNE
  go_wp2_with fail
  go_ret
  exact ⟨rfl, H6.out⟩
end Go.Proofs.YtdhnidmeeocajaaGreat
end
section
namespace Go.Proofs.YtdhnidmeeocajaaGreat
open Go.RowKit Go.Shelf

structure A5 where
  k : Nat
  s : List UInt8
  g : Nat
  q : Int
  n : Int
  hk : k < 256
  hs : s.length ≤ 9223372036854775807
  hg : g < 4294967296
  hq : Z64 q
  hn : Z64 n
def a5c (x : A5) : List Value := [.int .u8 (x.k : Nat), .string (bs x.s), .int .u32 (x.g : Nat), .int .i64 x.q, .int .i64 x.n]
theorem a5c_len (x : A5) : (a5c x).length = 5 := rfl
def A5L (w : World) (v : Value) (l : List A5) : Prop := Sl w 5 v l.length (flat a5c l)
section
variable {w w' : World} {v : Value} {l : List A5}
theorem A5L.keepF (h : A5L w v l) (hf : Frm (fun _ => False) w w') : A5L w' v l := Sl.keepF h hf
theorem A5L.slice (h : A5L w v l) : ∃ a cap, v = .slice a l.length cap ∧ l.length ≤ cap ∧ cap ≤ maxLen := Sl.slice h
theorem A5L.elem {a : Option Addr} {cap : Nat} (h : A5L w (.slice a l.length cap) l) (k : Nat) (hk : k < l.length) : ∃ g off, a = some ⟨g, off, none⟩ ∧ g < w.heap.size ∧ w.cell? ⟨g, off + k * 5, none⟩ = some (.int .u8 (l[k].k : Nat)) ∧ w.cell? ⟨g, off + k * 5 + 1, none⟩ = some (.string (bs l[k].s)) ∧
    w.cell? ⟨g, off + k * 5 + 2, none⟩ = some (.int .u32 (l[k].g : Nat)) ∧ w.cell? ⟨g, off + k * 5 + 3, none⟩ = some (.int .i64 l[k].q) ∧ w.cell? ⟨g, off + k * 5 + 4, none⟩ = some (.int .i64 l[k].n) := by
  obtain ⟨g, off, rfl, h0, hc⟩ := Sl.elem a5c a5c_len h k hk (by omega)
  exact ⟨g, off, rfl, h0, hc 0 (by omega), by rw [Nat.add_assoc]; exact hc 1 (by omega), by rw [Nat.add_assoc]; exact hc 2 (by omega), by rw [Nat.add_assoc]; exact hc 3 (by omega), by rw [Nat.add_assoc]; exact hc 4 (by omega)⟩
end
theorem ret_b13 {x y : Bool} (h : x = y) : Ending.returned (.bool x) = .returned (.bool y) := by rw [h]
/-- May these acts be gone through, with so many bytes left? -/
def fewB (m : Nat) : List A5 → Bool
  | [] => true
  | x :: r => decide (x.s.length ≤ 5000) && decide (x.s.length ≤ m) && fewB (m - x.s.length) r
def few5 (L : List A5) : Bool := fewB 20000 (L.take 60) && decide (L.length ≤ 50)
theorem fewB_all : ∀ (L : List A5) (m : Nat), fewB m L = true → ∀ x ∈ L, x.s.length ≤ 5000 := by
  intro L
  induction L with
  | nil => intro m _ x hx; cases hx
  | cons y r ih =>
    intro m h x hx
    unfold fewB at h
    simp only [Bool.and_eq_true, decide_eq_true_eq] at h
    rcases List.mem_cons.1 hx with rfl | hx
    · exact h.1.1
    · exact ih _ h.2 x hx
theorem few5_ok {L : List A5} (h : few5 L = true) : L.length ≤ 50 ∧ ∀ i (h : i < L.length), L[i].s.length ≤ 5000 := by
  unfold few5 at h
  simp only [Bool.and_eq_true, decide_eq_true_eq] at h
  refine ⟨h.2, fun i hi => fewB_all _ _ h.1 _ ?_⟩
  rw [List.take_of_length_le (by omega)]
  exact List.getElem_mem hi
set_option maxRecDepth 100000 in
set_option maxHeartbeats 2000000 in
theorem few13_any (v : Value) (L : List A5) (w : World) (h : A5L w v L) :
    Calls Tryz.prog 8 #[v] w fun e w' => e = .returned (.bool (few5 L)) ∧ w = w' := by
  obtain ⟨a, cap, rfl, h1, h2⟩ := h.slice
  have H3 := Lib.hid h
  clear h
  unfold maxLen at h2
  go_enter Tryz.func8, Tryz.ntmps8
  go_wp2
  go_loop [3, 4] (fun z i => ∃ k m : Nat, k ≤ L.length ∧ k ≤ 60 ∧ i = .int .i64 k ∧ z = .int .i64 m ∧ m ≤ 20000 ∧ fewB 20000 (L.take 60) = fewB m ((L.take 60).drop k)) (fun _ i => L.length - (intOf i).toNat)
  case atStart => exact ⟨0, 20000, Nat.zero_le _, by omega, rfl, rfl, Nat.le_refl _, rfl⟩
  case round =>
    obtain ⟨k, m, hk, hk60, rfl, rfl, hm, hall⟩ := hrel
    have Hall := Lib.hid hall
    clear hall
    by_cases hlt : k < L.length
    · obtain ⟨b, off, rfl, _, _, c1, _⟩ := H3.out.elem k hlt
      by_cases h60 : k < 60
      · have h60i : (k : Int) < 60 := by omega
        have hd : (L.take 60).drop k = L[k] :: (L.take 60).drop (k + 1) := by
          rw [← List.getElem_cons_drop (i := k) (by rw [List.length_take]; omega), List.getElem_take]
        have Hall := Lib.hid (show fewB 20000 (L.take 60) = (decide (L[k].s.length ≤ 5000) && decide (L[k].s.length ≤ m) && fewB (m - L[k].s.length) ((L.take 60).drop (k + 1))) by rw [Hall.out, hd]; rfl)
        clear hd
        obtain ⟨z, hz⟩ : ∃ z, L[k].s.length = z := ⟨_, rfl⟩
        have hze : ((bs L[k].s).size : Int) = (z : Int) := by rw [bs_size, hz]
        have hzl := L[k].hs
        rw [hz] at hzl Hall
        clear hz
        by_cases hs : z ≤ 5000
        · have hsz : ¬ (5000 : Int) < (z : Int) := by omega
          by_cases hs2 : z ≤ m
          · have hsz2 : ¬ (m : Int) < (z : Int) := by omega
            have hsub : IntKind.i64.wrap ((m : Int) - (z : Int)) = ((m - z : Nat) : Int) := by rw [IntWalk.i64_in _ (by omega)]; omega
            go_wp2
            go_round
            case rel => exact ⟨k + 1, m - z, by omega, by omega, by go_num, rfl, by omega, by rw [Hall.out, decide_eq_true hs, decide_eq_true hs2]; rfl⟩
            case measure => simp [intOf]; omega
          · have hsz2 : (m : Int) < (z : Int) := by omega
            go_wp2
            go_ret
            exact ⟨ret_b13 (by unfold few5; rw [Hall.out, decide_eq_false hs2, Bool.and_false]; rfl), rfl⟩
        · have hsz : (5000 : Int) < (z : Int) := by omega
          go_wp2
          go_ret
          exact ⟨ret_b13 (by unfold few5; rw [Hall.out, decide_eq_false hs]; rfl), rfl⟩
      · have h60i : ¬ (k : Int) < 60 := by omega
        go_wp2
        go_ret
        have hL1 : ¬ (L.length : Int) ≤ 50 := by omega
        have hL2 : ¬ L.length ≤ 50 := by omega
        exact ⟨ret_b13 (by unfold few5; rw [decide_eq_false hL1, decide_eq_false hL2, Bool.and_false]), rfl⟩
    · obtain rfl : k = L.length := by omega
      go_wp2
      go_ret
      have hf : fewB 20000 (L.take 60) = true := by
        rw [Hall.out, List.drop_eq_nil_of_le (by rw [List.length_take]; omega)]; rfl
      exact ⟨ret_b13 (by unfold few5; rw [hf, Bool.true_and, decide_eq_decide]; omega), rfl⟩
end Go.Proofs.YtdhnidmeeocajaaGreat
end
section
namespace Go.Proofs.YtdhnidmeeocajaaGreat
open Go.RowKit Go.Shelf

/-- The line is as it was, but for its acts. -/
structure SmL (L L' : LV) : Prop where
  P : L'.P = L.P
  cs : L'.cs = L.cs
  n : L'.D.n = L.D.n
  acts : L'.acts ≤ L.acts + 300
theorem SmL.refl (L : LV) : SmL L L := ⟨rfl, rfl, rfl, Nat.le_add_right _ _⟩
theorem SmL.seq (L : LV) (l : List (DV → DV)) (hl : l.length ≤ 300) (hn : ∀ F ∈ l, ∀ D : DV, (F D).n = D.n) : SmL L (L.seq l).1 := by
  have h := LV.seq_same l L hn
  exact ⟨h.1, h.2.2.2.1, h.2.2.2.2, by have := h.2.1; omega⟩
theorem fmtR_sm {L : LV} (h : L.D.n = 256) (q m : Int) : SmL L (fmtR L q m).1 := by
  unfold fmtR
  split
  · rename_i hc
    have := rgC_ok hc
    exact SmL.seq L _ (by rw [fmtA_len]; omega) (fmtA_n _ _)
  · exact SmL.refl L
theorem actR_sm {R : RV} {L : LV} (h : L.D.n = 256) (hr : R.ok L.D.n) (k gen : Nat) (s : List UInt8) : SmL L (actR R L k gen s).2.1 := by
  unfold actR
  split
  · unfold apR
    split
    · exact SmL.refl L
    · split
      · exact SmL.refl L
      · rename_i hb hf
        have hl : (wrs (R.at_ + 1 + R.used) (blks (R.used + 1) s)).length ≤ 300 := by
          rw [wrs_len, blks_len]
          unfold RV.left at hf
          have := hr.hi
          omega
        split
        · exact SmL.seq L _ hl (wrs_n _ _)
        · exact SmL.seq L _ hl (wrs_n _ _)
  · split
    · unfold flR
      split
      · exact SmL.refl L
      · exact SmL.seq L [DV.flush] (by decide) (fun F hF D => by rw [List.mem_singleton.1 hF]; rfl)
    · unfold slR
      split
      · exact SmL.refl L
      · split
        · exact SmL.refl L
        · refine SmL.seq L [wrD R.at_ (hdB gen), DV.flush] (by simp) (fun F hF D => ?_)
          rcases List.mem_cons.1 hF with rfl | hF
          · exact writeTo_n D _ _
          · rw [List.mem_singleton.1 hF]; rfl
theorem write_sm (L : LV) (q : Int) (s : List UInt8) : SmL L (L.act (L.D.writeTo q s)) := by
  have h := L.act_same (L.D.writeTo q s)
  exact ⟨h.1, h.2.2.2, L.act_n _ (writeTo_n L.D _ _), by have := h.2.1; omega⟩

theorem BothL.start13 {w0 w1 w2 w3 : World} {l b f x r : Nat} {fp : Nat → Prop} {D : DV} {q : Int} {cs : List Int} {v : Value}
    (h1 : DevM w1 b f x D) (o1 : w0.heap.size ≤ b ∧ w0.heap.size ≤ f ∧ w0.heap.size ≤ x) (g1 : Frm (fun _ => False) w0 w1)
    (hr : RefM w2 r D fp) (g2 : Frm (fun _ => False) w1 w2) (nf : ∀ k, fp k → w1.heap.size ≤ k)
    (h3 : LnM w3 l b f x { LV.new D q cs (fun g => w2.heap.size ≤ g) with P := fun g => (LV.new D q cs (fun g => w2.heap.size ≤ g)).P g ∧ g < w3.heap.size ∧ g ≠ l ∧ g ≠ f ∧ g ≠ x }) (hl : w2.heap.size ≤ l) (g3 : Frm (fun _ => False) w2 w3)
    (hz : Zs w0 v cs) (hok : (LV.new D q cs).ok) :
    BothL w0 (w3.alloc (.cells #[.pointer (some ⟨r, 0, none⟩), .int .i64 q, v, .int .i64 0, .bool false] 36)) l b f x w3.heap.size r fp (LV.new D q cs (fun g => (w2.heap.size ≤ g ∧ g < w3.heap.size ∧ g ≠ l ∧ g ≠ f ∧ g ≠ x) ∨ g < w0.heap.size)) := by
  have a1 := h1.lt
  have a3 := h3.lt
  have z1 := g1.size
  have z2 := g2.size
  have z3 := g3.size
  have hfl := hr.lt
  have g6 : Frm (fun _ => False) w3 (w3.alloc (.cells #[.pointer (some ⟨r, 0, none⟩), .int .i64 q, v, .int .i64 0, .bool false] 36)) := (Frm.refl _ w3).alloc _
  have hln := h3.keepF g6
  have hfr : Frm (fun _ => False) w0 w3 := (g1.trans g2).trans g3
  have hsz : (w3.alloc (.cells #[.pointer (some ⟨r, 0, none⟩), .int .i64 q, v, .int .i64 0, .bool false] 36)).heap.size = w3.heap.size + 1 := by simp
  refine ⟨hln.weaken _ fun g hg => .inl hg, ⟨v, Blk.alloc w3 _ _, (hr.keepF g3).keepF g6, h1.ok, ⟨hok.cut, hok.cs, hok.few⟩, (hz.keepF hfr).keepF g6, fun e => by have := hfl _ e; omega, ?_⟩, ⟨by omega, by omega, by omega, by omega⟩, ⟨fun e => by have := hfl _ e; omega, fun e => by have := nf _ e; omega, fun e => by have := nf _ e; omega, fun e => by have := nf _ e; omega⟩, fun g hg => ?_, ⟨by omega, o1.2.1, o1.2.2⟩, ⟨by omega, fun k hk => by have := nf k hk; omega⟩, hfr.trans g6⟩
  · rcases hz.low with h | h
    · exact .inl h
    · exact .inr fun g hg => ⟨fun e => by have := nf _ e; have := h g hg; omega, by have := h g hg; omega, .inr (h g hg)⟩
  · have hg : (w2.heap.size ≤ g ∧ g < w3.heap.size ∧ g ≠ l ∧ g ≠ f ∧ g ≠ x) ∨ g < w0.heap.size := hg
    have hng : ¬ fp g := fun e => by have := nf _ e; have := hfl _ e; rcases hg with h | h <;> omega
    rcases hg with h | h
    · exact ⟨⟨h.2.2.1, h.2.2.2.1, h.2.2.2.2⟩, by omega, hng, by omega⟩
    · exact ⟨⟨by omega, by omega, by omega⟩, by omega, hng, by omega⟩
/-- How both stand: a region and the document's, or none. -/
def PlS (w0 w : World) (l b f x p r : Nat) (L : LV) (rv qv : Value) : Prop :=
  (rv = .pointer none ∧ qv = .pointer none ∧ ∃ fp, BothL w0 w l b f x p r fp L) ∨ (∃ g c R fp, rv = .pointer (some ⟨g, 0, none⟩) ∧ qv = .pointer (some ⟨c, 0, none⟩) ∧ BothG w0 w l b f x p r fp L g c R)
section
variable {w0 w w1 w2 : World} {l b f x p r : Nat} {L L' : LV} {rv qv : Value}
theorem PlS.bl (h : PlS w0 w l b f x p r L rv qv) : ∃ fp, BothL w0 w l b f x p r fp L := by
  rcases h with ⟨_, _, fp, h⟩ | ⟨g, c, R, fp, _, _, h⟩
  · exact ⟨fp, h⟩
  · exact ⟨fp, h.bl⟩
theorem PlS.keepF (h : PlS w0 w l b f x p r L rv qv) (hf : Frm (fun _ => False) w w1) : PlS w0 w1 l b f x p r L rv qv := by
  rcases h with ⟨h1, h2, fp, h⟩ | ⟨g, c, R, fp, h1, h2, h⟩
  · exact .inl ⟨h1, h2, fp, h.keepF hf⟩
  · exact .inr ⟨g, c, R, fp, h1, h2, h.keepF hf⟩
/-- Both lines do something; the regions stand. -/
theorem PlS.wrote (h : PlS w0 w l b f x p r L rv qv) : ∃ fp, BothL w0 w l b f x p r fp L ∧ ∀ (w1 w2 : World) (L' : LV), LnM w1 l b f x L' → Frm (LnX l f x) w w1 → SmL L L' → RLnTo p r fp L' w1 w2 → PlS w0 w2 l b f x p r L' rv qv := by
  rcases h with ⟨e1, e2, fp, h⟩ | ⟨g, c, R, fp, e1, e2, h⟩
  · exact ⟨fp, h, fun w1 w2 L' h1 g1 hs h2 => .inl ⟨e1, e2, h.step h1 g1 hs.P h2⟩⟩
  · refine ⟨fp, h.bl, fun w1 w2 L' h1 g1 hs h2 => ?_⟩
    obtain ⟨fp', h'⟩ := h.wrote h1 g1 hs.P hs.cs hs.n h2
    exact .inr ⟨g, c, R, fp', e1, e2, h'⟩
end
/-- A Format of both. -/
theorem both_format {w0 w w1 w2 : World} {l b f x p r : Nat} {fp : Nat → Prop} {L : LV} {q m : Int} {v v' : Value} {e1 e2 : Int} (h : BothL w0 w l b f x p r fp L) (hn : L.D.n = 256)
    (h1 : FmtTo l b f x L q m w (.returned (.tuple #[v, .int .i64 e1])) w1) (h2 : RFmtTo p r fp L q m w1 (.returned (.tuple #[v', .int .i64 e2])) w2) : e1 = e2 ∧ PlS w0 w2 l b f x p r (fmtR L q m).1 v v' := by
  obtain ⟨u, hu, hln, g1, hok, hno⟩ := h1
  obtain ⟨u', hu', hrl, hok', hno'⟩ := h2
  injection hu with hu
  injection hu with hu
  injection hu with hu
  injection hu with hu1 hu2
  injection hu2 with hu2
  injection hu' with hu'
  injection hu' with hu'
  injection hu' with hu'
  injection hu' with hu1' hu2'
  injection hu2' with hu2'
  subst hu1
  subst hu1'
  injection hu2 with _ hu2
  injection hu2' with _ hu2'
  subst hu2
  subst hu2'
  refine ⟨rfl, ?_⟩
  have hsm := fmtR_sm hn q m
  by_cases hc : (fmtR L q m).2 = 0
  · have hrc : rgC L.D.n q m = 0 := by
      by_cases h0 : rgC L.D.n q m = 0
      · exact h0
      · unfold fmtR at hc
        rw [if_neg h0] at hc
        exact absurd hc h0
    have hb := rgC_ok hrc
    obtain ⟨g, rfl, hg, hrg⟩ := hok hc
    obtain ⟨c, fp', rfl, hcl, hblk, hrln, g2, n2, n3⟩ := hok' hc
    have eq1 : q = (q.toNat : Int) := by omega
    have eq2 : m = (m.toNat : Int) := by omega
    exact .inr ⟨g, c, _, fp', rfl, rfl, h.formed hrg hg g1 hsm.P (by omega) (by omega) (by rw [← eq1, ← eq2]; exact hblk) hcl hrln g2 n2 n3⟩
  · rw [hno hc, hno' hc]
    exact .inl ⟨rfl, rfl, h.step hln g1 hsm.P hrl⟩
end Go.Proofs.YtdhnidmeeocajaaGreat
end
