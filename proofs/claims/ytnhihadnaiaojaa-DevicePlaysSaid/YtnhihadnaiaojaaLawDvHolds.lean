/- DeviceHolds answers true, of any acts, any block, any bytes. No condition. -/
import Derived.Test.YtnhihadnaiaojaaDvL
namespace Go.Proofs.Ytnhihadnaiaojaa
open Go.RowKit Go.Shelf

theorem DV.act_n (D : DV) (x : ActD) : (D.act x).n = D.n := by
  unfold DV.act DV.writeTo
  split
  · rfl
  · split
    · rfl
    · split
      · rfl
      · split <;> rfl
theorem DV.acts_n (D : DV) (L : List ActD) : (D.acts L).n = D.n := by
  unfold DV.acts
  induction L generalizing D with
  | nil => rfl
  | cons x L ih => rw [List.foldl_cons, ih, D.act_n]
theorem new256 (w : World) : Calls Try.prog 8 #[.int .i64 256] w fun e w' => ∃ v, e = .returned v ∧ NewDev (DV.new 256) w v w' := by
  refine (new_any 256 w).mono fun e w' h => ?_
  unfold NewTo at h
  rw [if_pos (by decide)] at h
  exact h
theorem repeatL_zero (n : Nat) : Lib.repeatL [0] n = List.replicate n 0 := by
  induction n with
  | zero => rfl
  | succ n ih => simp [Lib.repeatL, ih, List.replicate_succ]
theorem zeros_any (c : Nat) (w : World) (hc : c ≤ 64) : Calls Try.prog 24 #[.string ⟨#[0]⟩, .int .i64 (c : Int)] w fun e w' => e = .returned (.string (bs (List.replicate c 0))) ∧ Frm (fun _ => False) w w' :=
  (Try.strings_Repeat ⟨#[0]⟩ c w (by omega) (by show 1 * c ≤ _; omega)).mono fun e w' ⟨h1, h2⟩ => ⟨by rw [h1, ← repeatL_zero]; rfl, (Frm.ofBelow h2).mono fun k hk h => by omega⟩
theorem DV.read_write (D : DV) (q : Nat) (s : List UInt8) (k : Nat) : (D.write q s).read k = if k = q then padB s else D.read k := by
  unfold DV.read DV.write
  dsimp only
  by_cases e : k = q
  · simp [e]
  · simp [e]
theorem fewD_cs {L : List ActD} (h : fewD L = true) : ∀ i (hi : i < L.length), L[i].cs.length ≤ 1000000 := fun i hi => by
  have := (fewD_at h i hi).2
  omega
set_option maxRecDepth 100000 in
set_option maxHeartbeats 16000000 in
theorem deviceHolds_any (v : Value) (L : List ActD) (q : Nat) (s : List UInt8) (w : World) (hA : Acs w v L) (hq : q < 256) (hs : s.length ≤ 9223372036854775807) :
    Calls Try.prog 6 #[v, .int .u8 (q : Int), .string (bs s)] w fun e w' => e = .returned (.bool true) ∧ Frm (fun _ => False) w w' := by
  have HN := Lib.hid (new256 w)
  have HA := Lib.hid hA
  have HW := Lib.hid awake_any
  clear hA
  go_enter Try.func6, Try.ntmps6
  go_wp2_with fail
  refine HN.out.mono ?_
  rintro e w1 ⟨_, rfl, b, f, x, rfl, hd, hb, hf, hx, g1⟩
  have HF := Lib.hid (few11_any v L w1 (HA.out.keepF g1))
  have H1 := Lib.hid (And.intro hd g1)
  clear hd g1
  cases hfew : fewD L with
  | false =>
    rw [hfew] at HF
    clear hfew
    go_wp2_with fail
    refine HF.out.mono ?_
    rintro e w2 ⟨rfl, rfl⟩
    go_wp2_with fail
    refine (HW.out _).mono ?_
    rintro e w3 ⟨rfl, g3⟩
    have G3 := Lib.hid (H1.out.2.trans g3)
    clear g3
    go_wp2_with fail
    go_ret
    exact ⟨rfl, G3.out⟩
  | true =>
    rw [hfew] at HF
    have HFE := Lib.hid hfew
    clear hfew
    by_cases hl : s.length ≤ 64
    · have hl2 : ¬ (64 : Int) < ((bs s).size : Int) := by rw [bs_size]; omega
      go_wp2_with fail
      refine HF.out.mono ?_
      rintro e w2 ⟨rfl, rfl⟩
      have HR := Lib.hid (run_any b f x (DV.new 256) v L w w1 HA.out H1.out.2 hf hx H1.out.1 (fewD_cs HFE.out))
      go_wp2_with fail
      refine HR.out.mono ?_
      rintro e w2 ⟨rfl, hd2, g2⟩
      obtain ⟨D1, hD1⟩ : ∃ D1, (DV.new 256).acts L = D1 := ⟨_, rfl⟩
      have hn1 : D1.n = 256 := by rw [← hD1, DV.acts_n]; rfl
      rw [hD1] at hd2
      have H2 := Lib.hid (And.intro hd2 (H1.out.2.addTwo g2 hf hx))
      have HN1 := Lib.hid hn1
      have HC := Lib.hid (copy_any b f x D1 w2 hd2)
      have hlt2 := hd2.lt
      clear hd2 g2 HR hD1 hn1 HN HF
      go_wp2_with fail
      refine HC.out.mono ?_
      rintro e w3 ⟨_, rfl, b2, f2, x2, rfl, hd3, hb2, hf2, hx2, g3⟩
      have h3 := H2.out.1.keepF g3
      have hwr := write_any b f x D1 (q : Int) s w3 h3 (by unfold Z64; omega) hs
      have hbad : D1.bad (q : Int) = false := decide_eq_false (by have := HN1.out; omega)
      have hE : D1.writeE (q : Int) s = 0 := by unfold DV.writeE; rw [hbad, if_neg (by decide), if_neg (by omega)]
      have hT : D1.writeTo (q : Int) s = D1.write q s := by unfold DV.writeTo; rw [if_pos hE]; rfl
      rw [hE, hT] at hwr
      have HWR := Lib.hid hwr
      have H3 := Lib.hid (And.intro hd3 (H2.out.2.trans g3))
      have hlt3 := hd3.lt
      clear hwr hbad hE hT h3 hd3 g3 HC
      go_wp2_with fail
      refine HWR.out.mono ?_
      rintro e w4 ⟨rfl, hd4, g4⟩
      have H4 := Lib.hid (And.intro (H3.out.1.keep g4 (by omega) (by omega) (by omega)) (And.intro hd4 (H3.out.2.toNew g4 hx)))
      have HC := Lib.hid (copy_any b f x (D1.write q s) w4 hd4)
      have hlt4 := And.intro hd4.lt H4.out.1.lt
      clear hd4 g4 HWR
      go_wp2_with fail
      refine HC.out.mono ?_
      rintro e w5 ⟨_, rfl, b3, f3, x3, rfl, hd5, hb3, hf3, hx3, g5⟩
      have HK := Lib.hid (crash_any b3 f3 x3 (D1.write q s) (.slice none 0 0) [] w5 hd5 (Sl.nil_ w5 1 none 0 (by decide)) (fun z hz => by cases hz) (by decide) (.inl rfl))
      have h5 := And.intro (H4.out.1.keepF g5) (And.intro (H4.out.2.1.keepF g5) (H4.out.2.2.trans g5))
      have H5 := Lib.hid h5
      have hsz4 := H4.out.2.2.size
      have hsz5 := g5.size
      clear hd5 g5 h5 HC
      go_wp2_with fail
      refine HK.out.mono ?_
      rintro e w6 ⟨rfl, hd6, g6⟩
      have g06 := H5.out.2.2.addTwo g6 (by omega) (by omega)
      have HR := Lib.hid (run_any b3 f3 x3 ((D1.write q s).crash []) v L w w6 HA.out g06 (by omega) (by omega) hd6 (fewD_cs HFE.out))
      have H6 := Lib.hid (And.intro (H5.out.1.keep g6 (by omega) (by omega) (by omega)) (And.intro (H5.out.2.1.keep g6 (by omega) (by omega) (by omega)) g06))
      clear hd6 g6 g06 HK
      go_wp2_with fail
      refine HR.out.mono ?_
      rintro e w7 ⟨rfl, hd7, g7⟩
      have H7 := Lib.hid (And.intro (H6.out.1.keep g7 (by omega) (by omega) (by omega)) (And.intro (H6.out.2.1.keep g7 (by omega) (by omega) (by omega)) (H6.out.2.2.addTwo g7 (by omega) (by omega))))
      clear hd7 g7 HR
      go_wp2_with fail
      go_loopw [10] (fun i wr => ∃ k : Nat, k ≤ 256 ∧ i = .int .i64 k ∧ Frm (fun _ => False) w7 wr) (fun i _ => 256 - (intOf i).toNat)
      case atStart => exact ⟨0, Nat.zero_le _, rfl, Frm.refl _ _⟩
      case round =>
        obtain ⟨k, hk, rfl, gr⟩ := hrel
        by_cases hlt : k < 256
        · have hki : (k : Int) < 256 := by omega
          have hz : Z64 (k : Int) := by unfold Z64; omega
          have hbad1 : D1.bad (k : Int) = false := decide_eq_false (by have := HN1.out; omega)
          have hbad2 : (D1.write q s).bad (k : Int) = false := hbad1
          have hR1 : ∀ W, Frm (fun _ => False) w7 W → Calls Try.prog 26 #[.pointer (some ⟨b2, 0, none⟩), .int .i64 (k : Int)] W fun e w' => e = .returned (.tuple #[.string (bs (D1.read k)), .int .i64 0]) ∧ Frm (fun _ => False) W w' := fun W g => by
            have := read_any b2 f2 x2 D1 (k : Int) W (H7.out.1.keepF g) hz
            rw [hbad1] at this
            exact this
          have hR2 : ∀ W, Frm (fun _ => False) w7 W → Calls Try.prog 26 #[.pointer (some ⟨b, 0, none⟩), .int .i64 (k : Int)] W fun e w' => e = .returned (.tuple #[.string (bs ((D1.write q s).read k)), .int .i64 0]) ∧ Frm (fun _ => False) W w' := fun W g => by
            have := read_any b f x (D1.write q s) (k : Int) W (H7.out.2.1.keepF g) hz
            rw [hbad2] at this
            exact this
          obtain ⟨r, hr⟩ : ∃ r, D1.read k = r := ⟨_, rfl⟩
          rw [hr] at hR1
          have GR := Lib.hid gr
          have HR1 := Lib.hid (hR1 wr gr)
          clear hR1 gr hbad1 hbad2 hz
          by_cases hkq : k = q
          · have hrw : (D1.write q s).read k = padB s := by rw [DV.read_write, if_pos hkq]
            rw [hrw] at hR2
            have HR2 := Lib.hid hR2
            clear hR2 hrw hr
            subst hkq
            have hz64 : IntKind.i64.wrap ((64 : Int) - ((bs s).size : Int)) = ((64 - s.length : Nat) : Int) := by rw [bs_size, IntKind.wrap_i64]; omega
            have HZ := Lib.hid (fun W => zeros_any (64 - s.length) W (by omega))
            have hsum : (bs s).size + (bs (List.replicate (64 - s.length) 0)).size ≤ 9223372036854775807 := by rw [bs_size, bs_size, List.length_replicate]; omega
            have hcat : ((bs (padB s)).toList == (bs s ++ bs (List.replicate (64 - s.length) 0)).toList) = true := by rw [bs_append, list_beq, bs_toList, bs_toList]; exact decide_eq_true rfl
            go_wp2_with fail
            refine HR1.out.mono ?_
            rintro e w8 ⟨rfl, g8⟩
            have G8 := Lib.hid (GR.out.trans g8)
            clear g8
            go_wp2_with fail
            refine (HR2.out _ G8.out).mono ?_
            rintro e w9 ⟨rfl, g9⟩
            have G9 := Lib.hid (G8.out.trans g9)
            clear g9
            go_wp2_with fail
            refine (HZ.out _).mono ?_
            rintro e w10 ⟨rfl, g10⟩
            have G10 := Lib.hid (G9.out.trans g10)
            clear g10
            go_wp2_with fail
            go_roundw
            case rel => exact ⟨k + 1, by omega, by go_num, G10.out⟩
            case measure => simp [intOf]; omega
          · have hrw : (D1.write q s).read k = r := by rw [DV.read_write, if_neg hkq, hr]
            rw [hrw] at hR2
            have HR2 := Lib.hid hR2
            clear hR2 hrw hr
            have hkqi : ¬ (k : Int) = (q : Int) := by omega
            have hkqb : ((k : Int) == (q : Int)) = false := by rw [beq_eq_false_iff_ne]; exact hkqi
            go_wp2_with fail
            refine HR1.out.mono ?_
            rintro e w8 ⟨rfl, g8⟩
            have G8 := Lib.hid (GR.out.trans g8)
            clear g8
            go_wp2_with fail
            refine (HR2.out _ G8.out).mono ?_
            rintro e w9 ⟨rfl, g9⟩
            have G9 := Lib.hid (G8.out.trans g9)
            clear g9
            go_wp2_with fail
            go_roundw
            case rel => exact ⟨k + 1, by omega, by go_num, G9.out⟩
            case measure => simp [intOf]; omega
        · obtain rfl : k = 256 := by omega
          have GR := Lib.hid gr
          clear gr
          go_wp2_with fail
          refine (HW.out _).mono ?_
          rintro e w8 ⟨rfl, g8⟩
          have G8 := Lib.hid ((H7.out.2.2.trans GR.out).trans g8)
          clear g8
          go_wp2_with fail
          go_ret
          exact ⟨rfl, G8.out⟩
    · have hl2 : (64 : Int) < ((bs s).size : Int) := by rw [bs_size]; omega
      go_wp2_with fail
      refine HF.out.mono ?_
      rintro e w2 ⟨rfl, rfl⟩
      go_wp2_with fail
      refine (HW.out _).mono ?_
      rintro e w3 ⟨rfl, g3⟩
      have G3 := Lib.hid (H1.out.2.trans g3)
      clear g3
      go_wp2_with fail
      go_ret
      exact ⟨rfl, G3.out⟩
end Go.Proofs.Ytnhihadnaiaojaa
