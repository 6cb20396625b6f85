/- PathBack: what the law's call answers. Conditions: the tables and errors of strconv lie as the program's text lays them (Vars). -/
import Derived.Test.YtffhakomnkicoaaDoorFew
namespace Go.Proofs.YtffhakomnkicoaaDoor
open Go.RowKit

/-- What is read wrongly has no names. -/
theorem parse_bad {p : List UInt8} (h : (parse p).2 ≠ 0) : (parse p).1 = [] := by
  unfold parse at *
  split
  · rfl
  · split
    · rfl
    · split
      · rfl
      · split
        · rfl
        · rename_i h1 h2 h3 h4; rw [if_neg h1, if_neg h2, if_neg h3, if_neg h4] at h; exact absurd rfl h
set_option maxRecDepth 100000 in
set_option maxHeartbeats 2000000 in
theorem pathBack_any (v : Value) (l : List (List UInt8)) (p : List UInt8) (w : World) (hv : Vars w) (h : Strs w v l) :
    Calls Tryd.prog 6 #[v, .string (bs p)] w fun e w' => e = .returned (.bool true) ∧ Fr w w' := by
  have hsl := h.slice
  have hfew := fun w1 (f : Fr w w1) => few_any v l w1 (h.keepF f)
  cases hf : fewb l with
  | false =>
    rw [hf] at hfew
    have Hfew := Lib.hid hfew
    clear hfew hf
    obtain ⟨a, cap, rfl, _, _⟩ := hsl
    go_enter Tryd.func6, Tryd.ntmps6
    go_wp2_with fail
    refine (Hfew.out _ (Frm.refl _ _)).mono ?_
    rintro e w1 ⟨rfl, rfl⟩
    go_wp2_with fail
    refine (works_any _ hv).mono ?_
    rintro e wB ⟨rfl, fB⟩
    go_wp2_with fail
    go_ret
    exact ⟨rfl, fB⟩
  | true =>
    have hlen := fewb_len hf
    rw [hf] at hfew
    have Hfew := Lib.hid hfew
    clear hfew hf
    by_cases h300 : p.length ≤ 300
    · have hps : ((bs p).size : Int) ≤ 300 := by rw [bs_size]; omega
      have HT0 := text_any v l
      have HPp := Lib.hid (fun w => parse_any p w (by omega))
      by_cases hg : good l
      · have ht := text_good hg
        have hpt := parse_txt hg
        have hst := seen_txt hg
        have hle := txt_len hg
        have hT := HT0 w h (by omega)
        rw [ht] at hT
        unfold TextTo at hT
        dsimp only at hT
        have HT := Lib.hid hT
        clear hT
        have HP1 := Lib.hid (fun w => by have := parse_any (txt l) w (by omega); rw [hpt] at this; exact this)
        have HS1 := Lib.hid (fun w (hv : Vars w) => by have := seen_any (txt l) w hv; rw [hst] at this; exact this)
        have hsz : ((bs (txt l)).size : Int) ≤ 36 := by rw [bs_size]; omega
        generalize bs (txt l) = TX at *
        clear HT0 ht hpt hst hg hle
        by_cases hp0 : (parse p).2 = 0
        · obtain ⟨hm, hmt⟩ := parse_ok hp0
          have hpe : parse p = ((parse p).1, 0) := by rw [← hp0]
          have HTm := Lib.hid (fun vm wm (o : OwnS wm vm (parse p).1) => by have := text_any vm (parse p).1 wm o.reads (by have := hm.2; omega); rw [text_good hm, hmt] at this; unfold TextTo at this; dsimp only at this; exact this)
          rw [hpe] at HPp
          have q1 : ((bs p).toList == (bs p).toList) = true := beq_self_eq_true _
          generalize (parse p).1 = m at *
          clear hp0 hm hmt hpe
          obtain ⟨a, cap, rfl, _, _⟩ := hsl
          go_enter Tryd.func6, Tryd.ntmps6
          go_wp2_with fail
          refine (Hfew.out _ (Frm.refl _ _)).mono ?_
          rintro e w1 ⟨rfl, rfl⟩
          go_wp2_with fail
          refine HT.out.mono ?_
          rintro e w1 ⟨rfl, f1⟩
          go_wp2_with fail
          refine (HP1.out _).mono ?_
          rintro e w2 ⟨v2, rfl, o2, f2, _⟩
          have g2 := f1.trans f2
          go_wp2_with fail
          refine (HS1.out _ (hv.keep g2)).mono ?_
          rintro e w3 ⟨v3, rfl, o3, f3, _⟩
          simp only [dotO, dotV] at o3 ⊢
          have g3 := g2.trans f3
          have hB3 := Blk.alloc w3 31 #[.int .u8 0, .int .u32 0]
          have fa : Fr w3 (w3.alloc (.cells #[.int .u8 0, .int .u32 0] 31)) := (Frm.refl _ w3).alloc _
          have s2 := (o2.reads.keepF f3).keepF fa
          have s3 := o3.reads.keepF fa
          have sl := h.keepF (g3.trans fa)
          have HSA := Lib.hid (same_yes _ v2 l _ sl s2)
          have HSB := Lib.hid (fun w4 (f : Fr (w3.alloc (.cells #[.int .u8 0, .int .u32 0] 31)) w4) => same_yes _ v3 l w4 (sl.keepF f) (s3.keepF f))
          obtain ⟨x2, cap2, rfl, _, _⟩ := Row.slice o2
          obtain ⟨x3, cap3, rfl, _, _⟩ := Row.slice o3
          have ga := g3.trans fa
          clear s2 s3 sl o2 o3 fa f1 f2 f3 g2 g3
          go_wp2_with fail
          refine HSA.out.mono ?_
          rintro e w4 ⟨rfl, f4⟩
          go_wp2_with fail
          refine (HSB.out _ f4).mono ?_
          rintro e w5 ⟨rfl, f5⟩
          have hB5 := (hB3.keep f4 (fun h => h)).keep f5 (fun h => h)
          have c0 := hB5.cell 0 rfl
          have c1 := hB5.cell 1 rfl
          have GB := (ga.trans f4).trans f5
          clear hB3 hB5 f4 f5 ga HSA HSB
          go_wp2_with fail
          refine (HPp.out _).mono ?_
          rintro e wA ⟨vA, rfl, oA, fA, _⟩
          have hTm := HTm.out vA wA oA
          have HTm2 := Lib.hid hTm
          obtain ⟨xA, capA, rfl, _, _⟩ := Row.slice oA
          have gA := GB.trans fA
          clear hTm HTm
          go_wp2_with fail
          refine HTm2.out.mono ?_
          rintro e wC ⟨rfl, fC⟩
          have gC := gA.trans fC
          go_wp2_with fail
          refine (works_any _ (hv.keep gC)).mono ?_
          rintro e wB ⟨rfl, fB⟩
          go_wp2_with fail
          go_ret
          exact ⟨rfl, gC.trans fB⟩
        · have hl0 : (parse p).1 = [] := parse_bad hp0
          rw [hl0] at HPp
          have q1 : (((parse p).2 : Int) != 0) = true := by simp; exact hp0
          generalize (parse p).2 = n at *
          clear hp0 hl0
          obtain ⟨a, cap, rfl, _, _⟩ := hsl
          go_enter Tryd.func6, Tryd.ntmps6
          go_wp2_with fail
          refine (Hfew.out _ (Frm.refl _ _)).mono ?_
          rintro e w1 ⟨rfl, rfl⟩
          go_wp2_with fail
          refine HT.out.mono ?_
          rintro e w1 ⟨rfl, f1⟩
          go_wp2_with fail
          refine (HP1.out _).mono ?_
          rintro e w2 ⟨v2, rfl, o2, f2, _⟩
          have g2 := f1.trans f2
          go_wp2_with fail
          refine (HS1.out _ (hv.keep g2)).mono ?_
          rintro e w3 ⟨v3, rfl, o3, f3, _⟩
          simp only [dotO, dotV] at o3 ⊢
          have g3 := g2.trans f3
          have hB3 := Blk.alloc w3 31 #[.int .u8 0, .int .u32 0]
          have fa : Fr w3 (w3.alloc (.cells #[.int .u8 0, .int .u32 0] 31)) := (Frm.refl _ w3).alloc _
          have s2 := (o2.reads.keepF f3).keepF fa
          have s3 := o3.reads.keepF fa
          have sl := h.keepF (g3.trans fa)
          have HSA := Lib.hid (same_yes _ v2 l _ sl s2)
          have HSB := Lib.hid (fun w4 (f : Fr (w3.alloc (.cells #[.int .u8 0, .int .u32 0] 31)) w4) => same_yes _ v3 l w4 (sl.keepF f) (s3.keepF f))
          obtain ⟨x2, cap2, rfl, _, _⟩ := Row.slice o2
          obtain ⟨x3, cap3, rfl, _, _⟩ := Row.slice o3
          have ga := g3.trans fa
          clear s2 s3 sl o2 o3 fa f1 f2 f3 g2 g3
          go_wp2_with fail
          refine HSA.out.mono ?_
          rintro e w4 ⟨rfl, f4⟩
          go_wp2_with fail
          refine (HSB.out _ f4).mono ?_
          rintro e w5 ⟨rfl, f5⟩
          have hB5 := (hB3.keep f4 (fun h => h)).keep f5 (fun h => h)
          have c0 := hB5.cell 0 rfl
          have c1 := hB5.cell 1 rfl
          have GB := (ga.trans f4).trans f5
          clear hB3 hB5 f4 f5 ga HSA HSB
          go_wp2_with fail
          refine (HPp.out _).mono ?_
          rintro e wA ⟨vA, rfl, oA, fA, _⟩
          obtain ⟨xA, capA, rfl, _, _⟩ := Row.slice oA
          have gA := GB.trans fA
          go_wp2_with fail
          refine (works_any _ (hv.keep gA)).mono ?_
          rintro e wB ⟨rfl, fB⟩
          go_wp2_with fail
          go_ret
          exact ⟨rfl, gA.trans fB⟩
      · have hte : (text l).2 ≠ 0 := fun e => hg (text_ok.1 e)
        have hq : (((text l).2 : Int) == 0) = false := by simp; exact hte
        have hT := HT0 w h (by omega)
        unfold TextTo at hT
        generalize (text l) = TL at *
        obtain ⟨tx, tn⟩ := TL
        dsimp only at hte hq hT
        have HT := Lib.hid hT
        clear hT HT0 hg hte
        by_cases hp0 : (parse p).2 = 0
        · obtain ⟨hm, hmt⟩ := parse_ok hp0
          have hpe : parse p = ((parse p).1, 0) := by rw [← hp0]
          have HTm := Lib.hid (fun vm wm (o : OwnS wm vm (parse p).1) => by have := text_any vm (parse p).1 wm o.reads (by have := hm.2; omega); rw [text_good hm, hmt] at this; unfold TextTo at this; dsimp only at this; exact this)
          rw [hpe] at HPp
          have q1 : ((bs p).toList == (bs p).toList) = true := beq_self_eq_true _
          generalize (parse p).1 = m at *
          clear hp0 hm hmt hpe
          obtain ⟨a, cap, rfl, _, _⟩ := hsl
          go_enter Tryd.func6, Tryd.ntmps6
          go_wp2_with fail
          refine (Hfew.out _ (Frm.refl _ _)).mono ?_
          rintro e w1 ⟨rfl, rfl⟩
          go_wp2_with fail
          refine HT.out.mono ?_
          rintro e w1 ⟨rfl, GB⟩
          go_wp2_with fail
          refine (HPp.out _).mono ?_
          rintro e wA ⟨vA, rfl, oA, fA, _⟩
          have hTm := HTm.out vA wA oA
          have HTm2 := Lib.hid hTm
          obtain ⟨xA, capA, rfl, _, _⟩ := Row.slice oA
          have gA := GB.trans fA
          clear hTm HTm
          go_wp2_with fail
          refine HTm2.out.mono ?_
          rintro e wC ⟨rfl, fC⟩
          have gC := gA.trans fC
          go_wp2_with fail
          refine (works_any _ (hv.keep gC)).mono ?_
          rintro e wB ⟨rfl, fB⟩
          go_wp2_with fail
          go_ret
          exact ⟨rfl, gC.trans fB⟩
        · have hl0 : (parse p).1 = [] := parse_bad hp0
          rw [hl0] at HPp
          have q1 : (((parse p).2 : Int) != 0) = true := by simp; exact hp0
          generalize (parse p).2 = n at *
          clear hp0 hl0
          obtain ⟨a, cap, rfl, _, _⟩ := hsl
          go_enter Tryd.func6, Tryd.ntmps6
          go_wp2_with fail
          refine (Hfew.out _ (Frm.refl _ _)).mono ?_
          rintro e w1 ⟨rfl, rfl⟩
          go_wp2_with fail
          refine HT.out.mono ?_
          rintro e w1 ⟨rfl, GB⟩
          go_wp2_with fail
          refine (HPp.out _).mono ?_
          rintro e wA ⟨vA, rfl, oA, fA, _⟩
          obtain ⟨xA, capA, rfl, _, _⟩ := Row.slice oA
          have gA := GB.trans fA
          go_wp2_with fail
          refine (works_any _ (hv.keep gA)).mono ?_
          rintro e wB ⟨rfl, fB⟩
          go_wp2_with fail
          go_ret
          exact ⟨rfl, gA.trans fB⟩
    · have hps : (300 : Int) < ((bs p).size : Int) := by rw [bs_size]; omega
      clear h300
      obtain ⟨a, cap, rfl, _, _⟩ := hsl
      go_enter Tryd.func6, Tryd.ntmps6
      go_wp2_with fail
      refine (Hfew.out _ (Frm.refl _ _)).mono ?_
      rintro e w1 ⟨rfl, rfl⟩
      go_wp2_with fail
      refine (works_any _ hv).mono ?_
      rintro e wB ⟨rfl, fB⟩
      go_wp2_with fail
      go_ret
      exact ⟨rfl, fB⟩
end Go.Proofs.YtffhakomnkicoaaDoor
