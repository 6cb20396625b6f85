/- The document's own Read of a stretch, over its line. No condition. -/
import Derived.Test.YtdhnidmeeocajaaGreatRefN
import Derived.Test.YtdhnidmeeocajaaGreatRgPb
namespace Go.Proofs.YtdhnidmeeocajaaGreat
open Go.RowKit Go.Shelf

theorem own_lt {w : World} {v : Value} {l : List (List UInt8)} (h : OwnS w v l) : ∀ k, v.ownBlock = some k → k < w.heap.size := fun k hk => by
  rcases h.2 with ⟨rfl, _⟩ | ⟨g, cap, rfl, _, _, ⟨o, ho, _⟩, _, _⟩
  · cases hk
  · cases hk
    exact (Array.getElem?_eq_some_iff.1 ho).1
theorem byte_at {s : List UInt8} {j : Nat} (h : j < s.length) : UInt8.ofNat (beN ((s.drop j).take 1)) = s[j] := by
  rw [List.drop_eq_getElem_cons h]
  show UInt8.ofNat (256 * 0 + s[j].toNat) = s[j]
  simp
theorem piece_part {s : List UInt8} {z : Nat} (hz : fSize s = z) (h : z ≤ 58) : (bs s).extract 4 (4 + z) = bs (pieceB s) := by
  rw [bs_part]
  congr 1
  unfold pieceB fBytes
  rw [hz, List.take_take, List.drop_take, Nat.min_eq_left h]
  congr 1
  omega
/-- How far the loop is: k blocks are read. -/
def RdI (L : LV) (A n : Nat) (w : World) (k : Nat) (gv sv cv gov : Value) (W : World) : Prop :=
  ∃ (going : Bool) (cur : List UInt8) (gs : List (List UInt8)), cv = .string (bs cur) ∧ gov = .bool going ∧ OwnS W sv gs ∧ (∀ g, sv.ownBlock = some g → w.heap.size ≤ g) ∧ stR (L.D.logs A n) (k - 1) going cur gs ∧
    gv = .int .u32 ((if k = 0 then 0 else genOf (L.D.read A) : Nat) : Int) ∧ cur.length ≤ 58 * k ∧ gs.length ≤ k ∧ Frm (fun _ => False) w W
set_option maxRecDepth 100000 in
set_option maxHeartbeats 8000000 in
theorem refread_any (p r : Nat) (fp : Nat → Prop) (L : LV) (q m : Int) (w : World) (h : RLn w p r fp L) (hq : Z64 q) (hm : Z64 m) :
    Calls Tryz.prog 42 #[.pointer (some ⟨p, 0, none⟩), .int .i64 q, .int .i64 m] w (ReadTo (rdR L q m) w) := by
  have HTh := refthere_any p r fp L q m w h hq hm
  unfold rdR ReadTo
  by_cases hc : rgC L.D.n q m = 0
  · rw [if_pos hc]
    rw [decide_eq_true hc] at HTh
    have HTh := Lib.hid HTh
    obtain ⟨hq0, hm2, hm6, hqm⟩ := rgC_ok hc
    obtain ⟨A, rfl⟩ := Int.eq_ofNat_of_zero_le hq0
    obtain ⟨n, rfl⟩ := Int.eq_ofNat_of_zero_le (show 0 ≤ m by omega)
    have hdk := h.dok.hi
    rw [Int.toNat_natCast, Int.toNat_natCast]
    have hn2 : 2 ≤ n := by omega
    have hAn : A + n ≤ L.D.n := by omega
    have hRd : ∀ k, k < n → ∀ W, Frm (fun _ => False) w W → Calls Tryz.prog 77 #[.pointer (some ⟨p, 0, none⟩), .int .i64 ((A + k : Nat) : Int)] W fun e w' => e = .returned (.tuple #[.string (bs (if L.down then [] else L.D.read (A + k))), .int .i64 (if L.down then 8 else 0)]) ∧ Frm (fun _ => False) W w' := fun k hk W gW => by
      have hb : L.D.bad ((A + k : Nat) : Int) = false := by
        unfold DV.bad
        simp
        omega
      have := rlread_any p r fp L ((A + k : Nat) : Int) W (h.keepF gW) (by unfold Z64; omega)
      rw [hb, Int.toNat_natCast, Bool.or_false] at this
      refine this.mono fun e w' ⟨h1, h2⟩ => ⟨?_, h2⟩
      rw [h1]
      rfl
    cases hd : L.down with
    | true =>
      rw [if_pos rfl]
      have HR0 := hRd 0 (by omega) w (Frm.refl _ _)
      rw [hd, if_pos rfl, if_pos rfl] at HR0
      have HR0 := Lib.hid HR0
      have hn0 : (0 : Int) < (n : Int) := by omega
      have v6 : IntKind.i64.wrap ((A : Int) + 0) = ((A + 0 : Nat) : Int) := by rw [IntWalk.i64_in _ (by omega)]; omega
      have v7 : IntKind.i64.wrap (A : Int) = (A : Int) := IntWalk.i64_in _ (by omega)
      clear hRd h hc hm2 hm6 hqm hq hm hd
      go_enter Tryz.func42, Tryz.ntmps42
      go_wp2_with fail
      refine HTh.out.mono ?_
      rintro e w1 ⟨rfl, rfl⟩
      go_wp2_with fail
      refine wp_loop_rounds 1 ?_
      rw [rounds_succ]
      go_wp2_with fail
      refine HR0.out.mono ?_
      rintro e w2 ⟨rfl, g2⟩
      have G2 := Lib.hid g2
      clear g2
      go_wp2_with fail
      go_ret3
      exact ⟨_, rfl, OwnS.nil_ _, (fun g e => by cases e), G2.out⟩
    | false =>
      rw [if_neg (by decide)]
      have HRd := Lib.hid (show ∀ k, k < n → ∀ W, Frm (fun _ => False) w W → Calls Tryz.prog 77 #[.pointer (some ⟨p, 0, none⟩), .int .i64 ((A + k : Nat) : Int)] W fun e w' => e = .returned (.tuple #[.string (bs (L.D.read (A + k))), .int .i64 0]) ∧ Frm (fun _ => False) W w' from fun k hk W gW => by
        have := hRd k hk W gW
        rw [hd] at this
        exact this)
      have HLn := Lib.hid (fun k => h.dok.rlen k)
      have HAn := Lib.hid (And.intro hAn (And.intro hn2 hdk))
      have HG : Hid (genOf (L.D.read A) < 4294967296) := Lib.hid (by unfold genOf; split; exact beN_lt 4 _ (by rw [List.length_take]; omega); decide)
      obtain ⟨tt, htt⟩ : ∃ tt, (genOf (L.D.read A), L.D.groups A n, 0) = tt := ⟨_, rfl⟩
      rw [htt]
      have HTT := Lib.hid htt
      have hsv0 : (Value.slice none 0 0) = (Value.slice none 0 0) := rfl
      clear hRd h hc hm2 hm6 hqm hq hm hd htt hsv0 hAn hn2 hdk hq0
      go_enter Tryz.func42, Tryz.ntmps42
      go_wp2_with fail
      refine HTh.out.mono ?_
      rintro e w1 ⟨rfl, rfl⟩
      go_wp2_with fail
      go_loopw [9, 10, 11, 12, 13] (fun gv sv cv gov i wr => ∃ (k : Nat) (mv : Value), mv = sv ∧ k ≤ n ∧ i = .int .i64 (k : Nat) ∧ RdI L A n w k gv mv cv gov wr) (fun _ _ _ _ i _ => n - (intOf i).toNat)
      case atStart => exact ⟨0, _, rfl, Nat.zero_le _, rfl, true, [], [], rfl, rfl, OwnS.nil_ _, (fun g e => by cases e), stR_start _, rfl, Nat.zero_le _, Nat.zero_le _, Frm.refl _ _⟩
      case round =>
        obtain ⟨k, mv, rfl, hk, rfl, going, cur, gs, rfl, rfl, hO, hN, hst, rfl, hcl, hgl, gr⟩ := hrel
        have HI := Lib.hid (And.intro hO (And.intro hN (And.intro hst (And.intro hcl (And.intro hgl gr)))))
        clear hO hN hst hcl hgl gr
        by_cases hlt : k < n
        · have hki : (k : Int) < (n : Int) := by omega
          have hAk := HAn.out
          have v6 : IntKind.i64.wrap ((A : Int) + (k : Int)) = ((A + k : Nat) : Int) := by rw [IntWalk.i64_in _ (by omega)]; omega
          have vk : IntKind.i64.wrap ((k : Int) + 1) = (k : Int) + 1 := IntWalk.i64_in _ (by omega)
          have HR := Lib.hid (HRd.out k hlt wr HI.out.2.2.2.2.2)
          obtain ⟨s, hs⟩ : ∃ s, L.D.read (A + k) = s := ⟨_, rfl⟩
          have hsl : s.length = 64 := by rw [← hs]; exact HLn.out (A + k)
          rw [hs] at HR
          obtain ⟨Ak, hAk2⟩ : ∃ Ak, A + k = Ak := ⟨_, rfl⟩
          rw [hAk2] at v6 HR
          have HS := Lib.hid (And.intro hs hsl)
          clear hs hAk
          by_cases hk0 : k = 0
          · subst hk0
            have HGq := Lib.hid (gen_eq HS.out.2 (beN_lt 4 _ (by rw [List.length_take]; omega)))
            obtain ⟨g, hg⟩ : ∃ g, beN (s.take 4) = g := ⟨_, rfl⟩
            have hnum : numS 4 s 0 = (g, s.drop 4, 0) := by unfold numS nextS; rw [if_pos (by rw [HS.out.2]; decide), hg]
            have hgl : g < 4294967296 := by rw [← hg]; exact beN_lt 4 _ (by rw [List.length_take]; omega)
            have HH := Lib.hid (fun W => refheader_any g W hgl)
            have hsA : L.D.read A = s := HS.out.1
            rw [hg] at HGq
            obtain ⟨B, hB⟩ : ∃ B, hdB g = B := ⟨_, rfl⟩
            rw [hB] at HH HGq
            have HN4 := Lib.hid (And.intro hnum (And.intro hsA hgl))
            clear hg hB hnum hsA hgl v6 vk
            obtain rfl : Ak = A := by omega
            have v7 : IntKind.i64.wrap (Ak : Int) = (Ak : Int) := IntWalk.i64_in _ (by have := HAn.out; omega)
            have hn0 : (0 : Int) < (n : Int) := by omega
            go_wp2_with fail
            with_reducible refine HR.out.mono ?_
            rintro e w2 ⟨rfl, g2⟩
            have G2 := Lib.hid (HI.out.2.2.2.2.2.trans g2)
            have O2 := Lib.hid (HI.out.1.keep g2 (fun _ _ h => h))
            clear g2 HR
            obtain ⟨wS, hwS⟩ : ∃ wS, w2.alloc (.cells #[.string (bs s), .int .i64 0, .int .i64 0] 126) = wS := ⟨_, rfl⟩
            have gS : Frm (fun _ => False) w2 wS := by rw [← hwS]; exact (Frm.refl _ w2).alloc _
            have bS : Blk wS w2.heap.size 126 #[.string (bs s), .int .i64 0, .int .i64 0] := by rw [← hwS]; exact Blk.alloc w2 _ _
            obtain ⟨b0, hb0⟩ : ∃ b0, w2.heap.size = b0 := ⟨_, rfl⟩
            rw [hb0] at bS
            have hRq : Rq wS b0 s s 0 := ⟨0, bS, Nat.zero_le _, by rw [HS.out.2]; decide, by decide, fun _ => rfl, fun h => absurd rfl h⟩
            have hq := q_number 4 b0 s s 0 wS hRq (by decide)
            rw [HN4.out.1] at hq
            have HNm : Hid (Calls Tryz.prog 78 #[.pointer (some ⟨b0, 0, none⟩), .int .i64 4] wS fun e w' => e = .returned (.int .u32 (g : Nat)) ∧ Frm (· = b0) wS w') := Lib.hid (hq.mono fun e w' ⟨h1, _, h3⟩ => ⟨h1, h3⟩)
            have hov : ∀ k, mv.ownBlock = some k → k ≠ b0 := fun k hk e => by have := own_lt O2.out k hk; omega
            have GS := Lib.hid (And.intro (G2.out.trans gS) (And.intro (O2.out.keep gS (fun _ _ h => h)) (And.intro hov (show w.heap.size ≤ b0 by have := G2.out.size; omega))))
            clear gS bS hRq hq hov
            go_wp2_with fail
            clear hwS hb0
            with_reducible refine HNm.out.mono ?_
            rintro e w3 ⟨rfl, g3⟩
            have G3 := Lib.hid (GS.out.1.next g3 fun k hk e => by have := GS.out.2.2.2; omega)
            have O3 := Lib.hid (GS.out.2.1.keep g3 (fun k hk e => GS.out.2.2.1 k hk e))
            clear g3 HNm
            go_wp2_with fail
            with_reducible refine (HH.out w3).mono ?_
            rintro e w4 ⟨rfl, g4⟩
            have G4 := Lib.hid (G3.out.trans g4)
            have O4 := Lib.hid (O3.out.keep g4 (fun _ _ h => h))
            clear g4 HH
            by_cases hsB : s = B
            · have hq : ((bs s).toList != (bs B).toList) = false := by rw [hsB]; simp
              have hq' : ((bs s).toList == (bs B).toList) = true := by rw [hsB]; simp
              have HX : Hid (RdI L Ak n w 1 (.int .u32 (g : Nat)) mv (.string (bs cur)) (.bool going) w4) := Lib.hid ⟨going, cur, gs, rfl, rfl, O4.out, HI.out.2.1, HI.out.2.2.1, by rw [if_neg (by decide), HN4.out.2.1, HGq.out, if_pos hsB], by have := HI.out.2.2.2.1; omega, by have := HI.out.2.2.2.2.1; omega, G4.out⟩
              clear hsB
              go_wp2_with fail
              first
                | exact ⟨⟨1, _, rfl, by omega, by go_num, HX.out⟩, by simp [intOf]; omega⟩
                | (refine ⟨?_, ?measure⟩
                   (repeat apply Exists.intro)
                   refine ⟨?rel, rfl⟩
                   case rel => exact ⟨1, _, rfl, by omega, by go_num, HX.out⟩
                   case measure => simp [intOf]; omega)
            · have hq : ((bs s).toList == (bs B).toList) = false := by rw [bs_toList, bs_toList]; simpa using hsB
              have HX : Hid (RdI L Ak n w 1 (.int .u32 0) mv (.string (bs cur)) (.bool going) w4) := Lib.hid ⟨going, cur, gs, rfl, rfl, O4.out, HI.out.2.1, HI.out.2.2.1, by rw [if_neg (by decide), HN4.out.2.1, HGq.out, if_neg hsB]; rfl, by have := HI.out.2.2.2.1; omega, by have := HI.out.2.2.2.2.1; omega, G4.out⟩
              clear hsB
              go_wp2_with fail
              first
                | exact ⟨⟨1, _, rfl, by omega, by go_num, HX.out⟩, by simp [intOf]; omega⟩
                | (refine ⟨?_, ?measure⟩
                   (repeat apply Exists.intro)
                   refine ⟨?rel, rfl⟩
                   case rel => exact ⟨1, _, rfl, by omega, by go_num, HX.out⟩
                   case measure => simp [intOf]; omega)
          · have hk0i : ((k : Int) == 0) = false := by rw [beq_eq_false_iff_ne]; omega
            go_wp2_with fail
            refine HR.out.mono ?_
            rintro e w2 ⟨rfl, g2⟩
            have G2 := Lib.hid (HI.out.2.2.2.2.2.trans g2)
            have O2 := Lib.hid (HI.out.1.keep g2 (fun _ _ h => h))
            clear g2 HR
            have hfl1 : fEnd s < 256 := by unfold fEnd; exact beN_lt 1 _ (by rw [List.length_take]; omega)
            have hsz1 : fSize s < 256 := by unfold fSize; exact beN_lt 1 _ (by rw [List.length_take]; omega)
            obtain ⟨fl, hfl⟩ : ∃ fl, fEnd s = fl := ⟨_, rfl⟩
            obtain ⟨sz, hsz⟩ : ∃ sz, fSize s = sz := ⟨_, rfl⟩
            rw [hfl] at hfl1
            rw [hsz] at hsz1
            have hb2 : 2 < (bs s).size := by rw [bs_size]; omega
            have hb3 : 3 < (bs s).size := by rw [bs_size]; omega
            have hi2 : (bs s)[2]'hb2 = UInt8.ofNat fl := by rw [← hfl]; exact (byte_at (by rw [HS.out.2]; decide)).symm
            have hi3 : (bs s)[3]'hb3 = UInt8.ofNat sz := by rw [← hsz]; exact (byte_at (by rw [HS.out.2]; decide)).symm
            have u2 : (2 : Int) < ((bs s).size : Int) := by omega
            have u3 : (3 : Int) < ((bs s).size : Int) := by omega
            have f1 : (fl : Int) % 256 = (fl : Int) := by omega
            have f2 : (sz : Int) % 256 = (sz : Int) := by omega
            have f3 : IntKind.i64.wrap (fl : Int) = (fl : Int) := IntWalk.i64_in _ (by omega)
            have f4 : IntKind.i64.wrap (sz : Int) = (sz : Int) := IntWalk.i64_in _ (by omega)
            have hK : k - 1 + 1 = k := by omega
            have hCk : (L.D.logs A n)[k - 1]? = some s := by
              rw [DV.logs_at, if_pos (by omega), show A + 1 + (k - 1) = A + k by omega, HS.out.1]
            have hgv : ∀ x, (if k = 0 then 0 else x) = (if k + 1 = 0 then 0 else x : Nat) := fun x => by rw [if_neg hk0, if_neg (by omega)]
            have hok := okB_iff (i := k) HS.out.2 (by have := HAn.out; omega)
            rw [hfl, hsz] at hok
            obtain ⟨P, hP⟩ : ∃ P, pieceB s = P := ⟨_, rfl⟩
            have hps : sz ≤ 58 → (bs s).extract 4 (4 + sz) = bs P := fun h => by rw [← hP]; exact piece_part hsz h
            have hPl : sz ≤ 58 → P.length = sz := fun h => by rw [← hP, ← hsz]; exact pieceB_len HS.out.2 (by omega)
            rw [hP] at hok
            have HOk := Lib.hid (And.intro hok (And.intro hCk (And.intro hgv (And.intro hP (And.intro hfl hK)))))
            clear hok hCk hgv hP hfl hsz hK v6 hAk2
            go_upto_region 18 with fail
            refine wp_region_canon (fun W => Frm (fun _ => False) w2 W) (by kernel_rfl) rfl (by kernel_rfl) (by kernel_rfl) ((Frm.refl _ w2).drew) ?_
            repeat' first
              | (refine CanonL.skip (by rfl) ?_; (try simp only [Act.put, List.setIfInBounds_toArray, List.set_cons_zero, List.set_cons_succ]))
              | (refine CanonL.val (v := ?_) (by rfl) ?_ ?_; rotate_left 1; (focus (intro w hSw; (try dsimp only at hSw); go_simp; (try (with_reducible rfl)); done)); (try simp only [Act.put, List.setIfInBounds_toArray, List.set_cons_zero, List.set_cons_succ]))
            refine CanonL.done ?_
            intro w9 hS9
            have G9 := Lib.hid (G2.out.trans hS9)
            have O9 := Lib.hid (O2.out.keep hS9 (fun _ _ h => h))
            clear hS9 hi2 hi3 u2 u3 f1 f2 f3 f4 hb2 hb3
            by_cases hgood : fl ≤ 1 ∧ sz ≤ 58 ∧ ¬ (fl = 0 ∧ sz < 58)
            · obtain ⟨d1, d2, d3⟩ := hgood
              have e1 : ¬ (1 : Int) < (fl : Int) := by omega
              have e2 : ¬ (58 : Int) < (sz : Int) := by omega
              have hPl2 := hPl d2
              have hps2 := hps d2
              have v1 : IntKind.i64.wrap (4 + (sz : Int)) = ((4 + sz : Nat) : Int) := by rw [IntWalk.i64_in _ (by omega)]; omega
              have v2 : IntKind.i64.wrap (4 + (sz : Int)) = 4 + (sz : Int) := IntWalk.i64_in _ (by omega)
              have w1' : 4 + sz ≤ (bs s).size := by rw [bs_size]; omega
              have w2' : 4 + (sz : Int) ≤ ((bs s).size : Int) := by omega
              have HB := Lib.hid (fun W => refblock_any k fl P W (by have := HAn.out; omega) (by omega) (by omega))
              obtain ⟨B, hB⟩ : ∃ B, logB k fl P = B := ⟨_, rfl⟩
              rw [hB] at HB
              have HBe := Lib.hid hB
              have hf01 : fl = 0 ∨ fl = 1 := by omega
              have hs58 : fl = 0 → sz = 58 := by omega
              clear hB hPl hps d3
              rcases hf01 with rfl | rfl
              · have hs58 := hs58 rfl
                subst hs58
                have HB0 : Hid (∀ W, Calls Tryz.prog 80 #[.int .i64 (k : Nat), .int .i64 0, .string (bs P)] W fun e w' => e = .returned (.string (bs B)) ∧ Frm (fun _ => False) W w') := HB
                clear HB
                by_cases hsB : s = B
                · have hq : ((bs s).toList != (bs B).toList) = false := by rw [hsB]; simp
                  have hq' : ((bs s).toList == (bs B).toList) = true := by rw [hsB]; simp
                  have hoK : okB (k - 1 + 1) s := by rw [HOk.out.2.2.2.2.2]; exact HOk.out.1.2 ⟨by omega, d2, by omega, hsB.trans HBe.out.symm⟩
                  have HOK := Lib.hid hoK
                  clear hsB hoK
                  cases going with
                  | false =>
                    have htr : True := trivial
                    go_wp2_with fail
                    refine (HB0.out _).mono ?_
                    rintro e w10 ⟨rfl, g10⟩
                    have G10 := Lib.hid (G9.out.trans g10)
                    have O10 := Lib.hid (O9.out.keep g10 (fun _ _ h => h))
                    clear g10 HB0 htr
                    have HX : Hid (RdI L A n w (k + 1) (.int .u32 (genOf (L.D.read A) : Nat)) mv (.string (bs cur)) (.bool false) w10) := Lib.hid ⟨false, cur, gs, rfl, rfl, O10.out, HI.out.2.1, by have h := stR_off HI.out.2.2.1; rw [HOk.out.2.2.2.2.2] at h; exact h, by rw [if_neg (Nat.succ_ne_zero k)], by have := HI.out.2.2.2.1; omega, by have := HI.out.2.2.2.2.1; omega, G10.out⟩
                    go_wp2_with fail
                    first
                      | exact ⟨⟨k + 1, _, rfl, by omega, by go_num, HX.out⟩, by simp [intOf]; omega⟩
                      | (refine ⟨?_, ?measure⟩
                         (repeat apply Exists.intro)
                         refine ⟨?rel, rfl⟩
                         case rel => exact ⟨k + 1, _, rfl, by omega, by go_num, HX.out⟩
                         case measure => simp [intOf]; omega)
                  | true =>
                    have htr : True := trivial
                    have ht1 : ¬ 9223372036854775807 < (bs cur).size + (bs P).size := by rw [bs_size, bs_size]; have := HI.out.2.2.2.1; have := HAn.out; omega
                    obtain ⟨C2, hC2⟩ : ∃ C2, cur ++ P = C2 := ⟨_, rfl⟩
                    have htq : bs cur ++ bs P = bs C2 := by rw [bs_append, hC2]
                    have hcl2 : C2.length ≤ 58 * (k + 1) := by rw [← hC2, List.length_append]; have := HI.out.2.2.2.1; omega
                    have HC2 := Lib.hid (And.intro hC2 hcl2)
                    clear hC2 hcl2
                    go_wp2_with fail
                    refine (HB0.out _).mono ?_
                    rintro e w10 ⟨rfl, g10⟩
                    have G10 := Lib.hid (G9.out.trans g10)
                    have O10 := Lib.hid (O9.out.keep g10 (fun _ _ h => h))
                    clear g10 HB0 htr
                    have HX : Hid (RdI L A n w (k + 1) (.int .u32 (genOf (L.D.read A) : Nat)) mv (.string (bs C2)) (.bool true) w10) := Lib.hid ⟨true, C2, gs, rfl, rfl, O10.out, HI.out.2.1, by have h := stR_more HI.out.2.2.1 HOk.out.2.1 HOK.out (by rw [HOk.out.2.2.2.2.1]; decide); rw [HOk.out.2.2.2.2.2, HOk.out.2.2.2.1, HC2.out.1] at h; exact h, by rw [if_neg (Nat.succ_ne_zero k)], HC2.out.2, by have := HI.out.2.2.2.2.1; omega, G10.out⟩
                    go_wp2_with fail
                    first
                      | exact ⟨⟨k + 1, _, rfl, by omega, by go_num, HX.out⟩, by simp [intOf]; omega⟩
                      | (refine ⟨?_, ?measure⟩
                         (repeat apply Exists.intro)
                         refine ⟨?rel, rfl⟩
                         case rel => exact ⟨k + 1, _, rfl, by omega, by go_num, HX.out⟩
                         case measure => simp [intOf]; omega)
                · have hq : ((bs s).toList == (bs B).toList) = false := by rw [bs_toList, bs_toList]; simpa using hsB
                  have hno : ¬ okB (k - 1 + 1) s := fun h => by
                    rw [HOk.out.2.2.2.2.2] at h
                    exact hsB ((HOk.out.1.1 h).2.2.2.trans HBe.out)
                  have HNO := Lib.hid hno
                  clear hno hsB
                  go_wp2_with fail
                  refine (HB0.out _).mono ?_
                  rintro e w10 ⟨rfl, g10⟩
                  have G10 := Lib.hid (G9.out.trans g10)
                  have O10 := Lib.hid (O9.out.keep g10 (fun _ _ h => h))
                  clear g10 HB0
                  have HX : Hid (RdI L A n w (k + 1) (.int .u32 (genOf (L.D.read A) : Nat)) mv (.string (bs cur)) (.bool false) w10) := Lib.hid ⟨false, cur, gs, rfl, rfl, O10.out, HI.out.2.1, by have h := stR_no HI.out.2.2.1 HOk.out.2.1 HNO.out; rw [HOk.out.2.2.2.2.2] at h; exact h, by rw [if_neg (Nat.succ_ne_zero k)], by have := HI.out.2.2.2.1; omega, by have := HI.out.2.2.2.2.1; omega, G10.out⟩
                  go_wp2_with fail
                  first
                    | exact ⟨⟨k + 1, _, rfl, by omega, by go_num, HX.out⟩, by simp [intOf]; omega⟩
                    | (refine ⟨?_, ?measure⟩
                       (repeat apply Exists.intro)
                       refine ⟨?rel, rfl⟩
                       case rel => exact ⟨k + 1, _, rfl, by omega, by go_num, HX.out⟩
                       case measure => simp [intOf]; omega)
              · clear hs58
                have HB0 : Hid (∀ W, Calls Tryz.prog 80 #[.int .i64 (k : Nat), .int .i64 1, .string (bs P)] W fun e w' => e = .returned (.string (bs B)) ∧ Frm (fun _ => False) W w') := HB
                clear HB
                by_cases hsB : s = B
                · have hq : ((bs s).toList != (bs B).toList) = false := by rw [hsB]; simp
                  have hq' : ((bs s).toList == (bs B).toList) = true := by rw [hsB]; simp
                  have hoK : okB (k - 1 + 1) s := by rw [HOk.out.2.2.2.2.2]; exact HOk.out.1.2 ⟨by omega, d2, by omega, hsB.trans HBe.out.symm⟩
                  have HOK := Lib.hid hoK
                  clear hsB hoK
                  cases going with
                  | false =>
                    have htr : True := trivial
                    go_wp2_with fail
                    refine (HB0.out _).mono ?_
                    rintro e w10 ⟨rfl, g10⟩
                    have G10 := Lib.hid (G9.out.trans g10)
                    have O10 := Lib.hid (O9.out.keep g10 (fun _ _ h => h))
                    clear g10 HB0 htr
                    have HX : Hid (RdI L A n w (k + 1) (.int .u32 (genOf (L.D.read A) : Nat)) mv (.string (bs cur)) (.bool false) w10) := Lib.hid ⟨false, cur, gs, rfl, rfl, O10.out, HI.out.2.1, by have h := stR_off HI.out.2.2.1; rw [HOk.out.2.2.2.2.2] at h; exact h, by rw [if_neg (Nat.succ_ne_zero k)], by have := HI.out.2.2.2.1; omega, by have := HI.out.2.2.2.2.1; omega, G10.out⟩
                    go_wp2_with fail
                    first
                      | exact ⟨⟨k + 1, _, rfl, by omega, by go_num, HX.out⟩, by simp [intOf]; omega⟩
                      | (refine ⟨?_, ?measure⟩
                         (repeat apply Exists.intro)
                         refine ⟨?rel, rfl⟩
                         case rel => exact ⟨k + 1, _, rfl, by omega, by go_num, HX.out⟩
                         case measure => simp [intOf]; omega)
                  | true =>
                    have htr : True := trivial
                    have ht1 : ¬ 9223372036854775807 < (bs cur).size + (bs P).size := by rw [bs_size, bs_size]; have := HI.out.2.2.2.1; have := HAn.out; omega
                    obtain ⟨C2, hC2⟩ : ∃ C2, cur ++ P = C2 := ⟨_, rfl⟩
                    have htq : bs cur ++ bs P = bs C2 := by rw [bs_append, hC2]
                    have hcl2 : C2.length ≤ 58 * (k + 1) := by rw [← hC2, List.length_append]; have := HI.out.2.2.2.1; omega
                    have HC2 := Lib.hid (And.intro hC2 hcl2)
                    clear hC2 hcl2
                    go_wp2_with fail
                    refine (HB0.out _).mono ?_
                    rintro e w10 ⟨rfl, g10⟩
                    have G10 := Lib.hid (G9.out.trans g10)
                    have O10 := Lib.hid (O9.out.keep g10 (fun _ _ h => h))
                    clear g10 HB0 htr
                    have gS : Frm (fun _ => False) w10 (w10.alloc (.cells #[.string (bs C2)] 9)) := (Frm.refl _ w10).alloc _
                    obtain ⟨v2, w2', hr2, ho2, hg2, hn2⟩ := rappend_strs (w10.alloc (.cells #[.string (bs C2)] 9)) mv (.slice (some ⟨w10.heap.size, 0, none⟩) 1 1) gs [C2] (O10.out.keep gS (fun _ _ h => h)) (rstrs_one w10 C2) (by have := HI.out.2.2.2.2.1; have := HAn.out; simp; omega)
                    have HR2 := Lib.hid hr2
                    have hnw : ∀ g, v2.ownBlock = some g → w.heap.size ≤ g := fun g hg => by
                      rcases hn2 g hg with e | e
                      · exact HI.out.2.1 g e
                      · have := gS.size; have := G10.out.size; omega
                    have hfr : Frm (fun _ => False) w w2' := (G10.out.trans gS).grown hg2 (fun k hk e => by have := HI.out.2.1 k e; omega)
                    have HX : Hid (RdI L A n w (k + 1) (.int .u32 (genOf (L.D.read A) : Nat)) v2 (.string ⟨#[]⟩) (.bool true) w2') := Lib.hid ⟨true, [], gs ++ [C2], rfl, rfl, ho2, hnw, by have h := stR_end HI.out.2.2.1 HOk.out.2.1 HOK.out HOk.out.2.2.2.2.1; rw [HOk.out.2.2.2.2.2, HOk.out.2.2.2.1, HC2.out.1] at h; exact h, by rw [if_neg (Nat.succ_ne_zero k)], Nat.zero_le _, by rw [List.length_append]; have := HI.out.2.2.2.2.1; simp; omega, hfr⟩
                    clear hr2 ho2 hg2 hn2 hnw hfr gS
                    go_wp2_with (first | (at_builtin; refine Lib.wpList_append_run _ rfl _ _ _ _ rfl _ _ rfl rfl _ _ HR2.out ?_) | fail)
                    first
                      | exact ⟨⟨k + 1, _, rfl, by omega, by go_num, HX.out⟩, by simp [intOf]; omega⟩
                      | (refine ⟨?_, ?measure⟩
                         (repeat apply Exists.intro)
                         refine ⟨?rel, rfl⟩
                         case rel => exact ⟨k + 1, _, rfl, by omega, by go_num, HX.out⟩
                         case measure => simp [intOf]; omega)
                · have hq : ((bs s).toList == (bs B).toList) = false := by rw [bs_toList, bs_toList]; simpa using hsB
                  have hno : ¬ okB (k - 1 + 1) s := fun h => by
                    rw [HOk.out.2.2.2.2.2] at h
                    exact hsB ((HOk.out.1.1 h).2.2.2.trans HBe.out)
                  have HNO := Lib.hid hno
                  clear hno hsB
                  go_wp2_with fail
                  refine (HB0.out _).mono ?_
                  rintro e w10 ⟨rfl, g10⟩
                  have G10 := Lib.hid (G9.out.trans g10)
                  have O10 := Lib.hid (O9.out.keep g10 (fun _ _ h => h))
                  clear g10 HB0
                  have HX : Hid (RdI L A n w (k + 1) (.int .u32 (genOf (L.D.read A) : Nat)) mv (.string (bs cur)) (.bool false) w10) := Lib.hid ⟨false, cur, gs, rfl, rfl, O10.out, HI.out.2.1, by have h := stR_no HI.out.2.2.1 HOk.out.2.1 HNO.out; rw [HOk.out.2.2.2.2.2] at h; exact h, by rw [if_neg (Nat.succ_ne_zero k)], by have := HI.out.2.2.2.1; omega, by have := HI.out.2.2.2.2.1; omega, G10.out⟩
                  go_wp2_with fail
                  first
                    | exact ⟨⟨k + 1, _, rfl, by omega, by go_num, HX.out⟩, by simp [intOf]; omega⟩
                    | (refine ⟨?_, ?measure⟩
                       (repeat apply Exists.intro)
                       refine ⟨?rel, rfl⟩
                       case rel => exact ⟨k + 1, _, rfl, by omega, by go_num, HX.out⟩
                       case measure => simp [intOf]; omega)
            · have hno : ¬ okB (k - 1 + 1) s := fun h => by
                rw [HOk.out.2.2.2.2.2] at h
                have := HOk.out.1.1 h
                exact hgood ⟨this.1, this.2.1, this.2.2.1⟩
              have HX : Hid (RdI L A n w (k + 1) (.int .u32 (genOf (L.D.read A) : Nat)) mv (.string (bs cur)) (.bool false) w9) := Lib.hid ⟨false, cur, gs, rfl, rfl, O9.out, HI.out.2.1, by have h := stR_no HI.out.2.2.1 HOk.out.2.1 hno; rw [HOk.out.2.2.2.2.2] at h; exact h, by rw [if_neg (Nat.succ_ne_zero k)], by have := HI.out.2.2.2.1; omega, by have := HI.out.2.2.2.2.1; omega, G9.out⟩
              clear hno
              by_cases d1 : fl ≤ 1
              · have e1 : ¬ (1 : Int) < (fl : Int) := by omega
                by_cases d2 : sz ≤ 58
                · have e2 : ¬ (58 : Int) < (sz : Int) := by omega
                  have e3 : fl = 0 := by omega
                  subst e3
                  have e4 : (sz : Int) < 58 := by omega
                  go_wp2_with fail
                  first
                    | exact ⟨⟨k + 1, _, rfl, by omega, by go_num, HX.out⟩, by simp [intOf]; omega⟩
                    | (refine ⟨?_, ?measure⟩
                       (repeat apply Exists.intro)
                       refine ⟨?rel, rfl⟩
                       case rel => exact ⟨k + 1, _, rfl, by omega, by go_num, HX.out⟩
                       case measure => simp [intOf]; omega)
                · have e2 : (58 : Int) < (sz : Int) := by omega
                  go_wp2_with fail
                  first
                    | exact ⟨⟨k + 1, _, rfl, by omega, by go_num, HX.out⟩, by simp [intOf]; omega⟩
                    | (refine ⟨?_, ?measure⟩
                       (repeat apply Exists.intro)
                       refine ⟨?rel, rfl⟩
                       case rel => exact ⟨k + 1, _, rfl, by omega, by go_num, HX.out⟩
                       case measure => simp [intOf]; omega)
              · have e1 : (1 : Int) < (fl : Int) := by omega
                go_wp2_with fail
                first
                  | exact ⟨⟨k + 1, _, rfl, by omega, by go_num, HX.out⟩, by simp [intOf]; omega⟩
                  | (refine ⟨?_, ?measure⟩
                     (repeat apply Exists.intro)
                     refine ⟨?rel, rfl⟩
                     case rel => exact ⟨k + 1, _, rfl, by omega, by go_num, HX.out⟩
                     case measure => simp [intOf]; omega)
        · obtain rfl : k = n := by omega
          have hki : ¬ (k : Int) < (k : Int) := by omega
          have hk0 : ¬ k = 0 := by have := HAn.out; omega
          rw [if_neg hk0]
          have hgs : L.D.groups A k = gs := stR_done HI.out.2.2.1 (by unfold DV.logs; rw [List.length_map, List.length_range]; omega)
          have ht : tt = (genOf (L.D.read A), gs, 0) := by rw [← HTT.out, hgs]
          have HT2 := Lib.hid ht
          clear hgs ht
          go_wp2_with fail
          go_ret3
          rw [HT2.out]
          exact ⟨_, rfl, HI.out.1, HI.out.2.1, HI.out.2.2.2.2.2⟩
  · rw [if_neg hc]
    rw [decide_eq_false hc] at HTh
    have h2 : rgC L.D.n q m = 2 := by unfold rgC at hc ⊢; split; rfl; rename_i e; rw [if_neg e] at hc; exact absurd rfl hc
    rw [h2]
    have HTh := Lib.hid HTh
    clear h hq hm hc h2
    go_enter Tryz.func42, Tryz.ntmps42
    go_wp2_with fail
    refine HTh.out.mono ?_
    rintro e w1 ⟨rfl, rfl⟩
    go_wp2_with fail
    go_ret3
    exact ⟨_, rfl, OwnS.nil_ _, (fun g e => by cases e), Frm.refl _ _⟩
end Go.Proofs.YtdhnidmeeocajaaGreat

