/- Load of a table. No condition. -/
import Derived.Test.YtjodkgbpbibfbaaDdE
namespace Go.Proofs.Ytjodkgbpbibfbaa
open Go.RowKit

theorem TbV.load_arg {T : TbV} {i : Nat} (s : List UInt8) (z q : Int) (h : i = 0 ∨ i = 4294967295) : T.load i s z q = (T, 2) := by unfold TbV.load; rw [if_pos h]
theorem TbV.load_form {T : TbV} {i : Nat} {s : List UInt8} (z : Int) {q : Int} (h : ¬ (i = 0 ∨ i = 4294967295)) (h2 : fitS s = false ∨ q < 1 ∨ 65535 < q) : T.load i s z q = (T, 4) := by unfold TbV.load; rw [if_neg h, if_pos h2]
theorem TbV.load_there {T : TbV} {i : Nat} {s : List UInt8} (z : Int) {q : Int} (h : ¬ (i = 0 ∨ i = 4294967295)) (h2 : ¬ (fitS s = false ∨ q < 1 ∨ 65535 < q)) (h3 : (T.at i).isSome ∨ (T.find s).isSome) : T.load i s z q = (T, 6) := by unfold TbV.load; rw [if_neg h, if_neg h2, if_pos h3]
theorem TbV.load_yes {T : TbV} {i : Nat} {s : List UInt8} (z : Int) {q : Int} (h : ¬ (i = 0 ∨ i = 4294967295)) (h2 : ¬ (fitS s = false ∨ q < 1 ∨ 65535 < q)) (h3 : ¬ ((T.at i).isSome ∨ (T.find s).isSome)) : T.load i s z q = (T.put ⟨i, s, z, q.toNat⟩, 0) := by unfold TbV.load; rw [if_neg h, if_neg h2, if_neg h3]
theorem TbV.get_isSome {T : TbV} (h : T.ok) (i : Nat) : (T.get i).isSome = (T.at i).isSome := by
  rw [TbV.get_at h]
  cases e : T.at i with
  | none => rfl
  | some k =>
    obtain ⟨hk, _⟩ := TbV.at_some e
    show (T.L[k]?).isSome = true
    rw [List.getElem?_eq_getElem hk]
    rfl
set_option maxRecDepth 100000 in
set_option maxHeartbeats 4000000 in
theorem tload_any (b i : Nat) (s : List UInt8) (z q : Int) (T : TbV) (fp : Nat → Prop) (hi : i ≤ 4294967295) (hs : s.length ≤ 9223372036854775807) (hz : -9223372036854775808 ≤ z ∧ z ≤ 9223372036854775807) (hq : -9223372036854775808 ≤ q ∧ q ≤ 9223372036854775807) (hl : T.L.length ≤ 900000) (w : World) (h : TabM w b T fp) :
    Calls Try.prog 27 #[.pointer (some ⟨b, 0, none⟩), .int .u32 (i : Nat), .string (bs s), .int .i64 z, .int .i64 q] w fun e w' => e = .returned (.int .i64 ((T.load i s z q).2 : Nat)) ∧ TabTo b fp (T.load i s z q).1 w w' := by
  have HM : Hid (Calls Try.prog 35 #[.pointer (some ⟨b, 0, none⟩)] w fun e w' => e = .returned (.bool true) ∧ w = w') := by
    obtain ⟨m, x, I, fq, h⟩ := h
    exact Lib.hid (tmade_any b m x I T fq fp w h)
  have HFt := Lib.hid (fits_any s hs w)
  have H := Lib.hid h
  have hok := h.ok
  by_cases ha : i = 0 ∨ i = 4294967295
  · rw [TbV.load_arg s z q ha]
    rcases ha with rfl | rfl
    · clear h hok
      go_enter Try.func27, Try.ntmps27
      go_wp2_with fail
      refine HM.out.mono ?_
      rintro e w1 ⟨rfl, rfl⟩
      go_wp2_with fail
      go_ret
      exact ⟨rfl, TabTo.same H.out (Frm.refl _ _)⟩
    · clear h hok
      go_enter Try.func27, Try.ntmps27
      go_wp2_with fail
      refine HM.out.mono ?_
      rintro e w1 ⟨rfl, rfl⟩
      go_wp2_with fail
      go_ret
      exact ⟨rfl, TabTo.same H.out (Frm.refl _ _)⟩
  · have hi0 : ((i : Int) == 0) = false := by rw [beq_eq_false_iff_ne]; omega
    have hi1 : ((i : Int) == 4294967295) = false := by rw [beq_eq_false_iff_ne]; omega
    by_cases hf : fitS s = false ∨ q < 1 ∨ 65535 < q
    · rw [TbV.load_form z ha hf]
      cases hff : fitS s with
      | false =>
        rw [hff] at HFt
        clear h hok hf hff ha
        go_enter Try.func27, Try.ntmps27
        go_wp2_with fail
        refine HM.out.mono ?_
        rintro e w1 ⟨rfl, rfl⟩
        go_wp2_with fail
        refine HFt.out.mono ?_
        rintro e w1 ⟨rfl, rfl⟩
        go_wp2_with fail
        go_ret
        exact ⟨rfl, TabTo.same H.out (Frm.refl _ _)⟩
      | true =>
        rw [hff] at HFt hf
        by_cases hq1 : q < 1
        · clear h hok hf hff ha
          go_enter Try.func27, Try.ntmps27
          go_wp2_with fail
          refine HM.out.mono ?_
          rintro e w1 ⟨rfl, rfl⟩
          go_wp2_with fail
          refine HFt.out.mono ?_
          rintro e w1 ⟨rfl, rfl⟩
          go_wp2_with fail
          go_ret
          exact ⟨rfl, TabTo.same H.out (Frm.refl _ _)⟩
        · have hq2 : 65535 < q := hf.elim (fun e => by cases e) (fun e => e.elim (fun e => absurd e hq1) id)
          clear h hok hf hff ha
          go_enter Try.func27, Try.ntmps27
          go_wp2_with fail
          refine HM.out.mono ?_
          rintro e w1 ⟨rfl, rfl⟩
          go_wp2_with fail
          refine HFt.out.mono ?_
          rintro e w1 ⟨rfl, rfl⟩
          go_wp2_with fail
          go_ret
          exact ⟨rfl, TabTo.same H.out (Frm.refl _ _)⟩
    · have hff : fitS s = true := by cases e : fitS s with
        | true => rfl
        | false => exact absurd (.inl e) hf
      have hq1 : ¬ q < 1 := fun e => hf (.inr (.inl e))
      have hq2 : ¬ 65535 < q := fun e => hf (.inr (.inr e))
      have hgs := TbV.get_isSome hok i
      obtain ⟨y, hy⟩ : ∃ y, (T.get i).getD zCh = y := ⟨_, rfl⟩
      have HH := Lib.hid fun (W : World) (f : Frm (fun _ => False) w W) => thas_any b s T fp hs hl W (h.keepF f)
      obtain ⟨m, x, I, fq, h0⟩ := h
      have H0 := Lib.hid h0
      have c1 := h0.mc
      rw [hff] at HFt
      have bw := Blk.alloc w 79 #[.string ⟨#[]⟩, .int .i64 0, .int .i64 0]
      have G1 := Lib.hid ((Frm.refl (fun _ => False) w).alloc (.cells #[.string ⟨#[]⟩, .int .i64 0, .int .i64 0] 79))
      by_cases hth : (T.at i).isSome ∨ (T.find s).isSome
      · rw [TbV.load_there z ha hf hth]
        cases hat : (T.at i).isSome with
        | true =>
          rw [hat] at hgs
          clear h0 hok hf hff ha hth hat
          go_enter Try.func27, Try.ntmps27
          go_wp2_with fail
          refine HM.out.mono ?_
          rintro e w1 ⟨rfl, rfl⟩
          go_wp2_with fail
          refine HFt.out.mono ?_
          rintro e w1 ⟨rfl, rfl⟩
          go_wp2_with (first
            | (at_lookup; refine wpl_lookOk_ch rfl _ _ rfl m i T.get rfl rfl H0.out.map hi ?_; rw [hgs, hy])
            | (refine wpl_store_ch rfl (.tmp 11) (.tmp 43) rfl w.heap.size y _ rfl rfl bw rfl ?_; intro w3 b3 g3 s3)
            | fail)
          go_ret
          exact ⟨rfl, TabTo.same H.out (G1.out.next g3 (fun k hk e => by omega))⟩
        | false =>
          rw [hat] at hgs
          have hfd : (T.find s).isSome = true := hth.elim (fun e => by rw [hat] at e; cases e) id
          rw [hfd] at HH
          clear h0 hok hf hff ha hth hat hfd
          go_enter Try.func27, Try.ntmps27
          go_wp2_with fail
          refine HM.out.mono ?_
          rintro e w1 ⟨rfl, rfl⟩
          go_wp2_with fail
          refine HFt.out.mono ?_
          rintro e w1 ⟨rfl, rfl⟩
          go_wp2_with (first
            | (at_lookup; refine wpl_lookOk_ch rfl _ _ rfl m i T.get rfl rfl H0.out.map hi ?_; rw [hgs, hy])
            | (refine wpl_store_ch rfl (.tmp 11) (.tmp 43) rfl w.heap.size y _ rfl rfl bw rfl ?_; intro w3 b3 g3 s3; have HH3 := Lib.hid (HH.out w3 (G1.out.next g3 (fun k hk e => by omega))); clear HH)
            | fail)
          refine HH3.out.mono ?_
          rintro e w1 ⟨rfl, g4⟩
          go_wp2_with fail
          go_ret
          exact ⟨rfl, TabTo.same H.out ((G1.out.next g3 (fun k hk e => by omega)).trans g4)⟩
      · rw [TbV.load_yes z ha hf hth]
        have hat : T.at i = none := by cases e : T.at i with
          | none => rfl
          | some k => exact absurd (.inl (by rw [e]; rfl)) hth
        have hfd : T.find s = none := by cases e : T.find s with
          | none => rfl
          | some k => exact absurd (.inr (by rw [e]; rfl)) hth
        have hfit := (fitS_iff s).1 hff
        have hqn : ((q.toNat : Nat) : Int) = q := Int.toNat_of_nonneg (by omega)
        have hP := fun (W : World) (f : Frm (fun _ => False) w W) => tput_any b ⟨i, s, z, q.toNat⟩ T fp ⟨by show 1 ≤ i; omega, by show i < _; omega, hfit.1, hfit.2, hz, by show 1 ≤ q.toNat; omega, by show q.toNat ≤ 65535; omega⟩ (TbV.at_none hat) (TbV.find_none hfd) hl W (H.out.keepF f)
        simp only [chv, hqn] at hP
        have HP := Lib.hid hP
        rw [hat] at hgs
        rw [hfd] at HH
        clear h0 hok hf hff ha hth hat hfd hP hqn hfit
        go_enter Try.func27, Try.ntmps27
        go_wp2_with fail
        refine HM.out.mono ?_
        rintro e w1 ⟨rfl, rfl⟩
        go_wp2_with fail
        refine HFt.out.mono ?_
        rintro e w1 ⟨rfl, rfl⟩
        go_wp2_with (first
          | (at_lookup; refine wpl_lookOk_ch rfl _ _ rfl m i T.get rfl rfl H0.out.map hi ?_; rw [hgs, hy])
          | (refine wpl_store_ch rfl (.tmp 11) (.tmp 43) rfl w.heap.size y _ rfl rfl bw rfl ?_; intro w3 b3 g3 s3; have HG3 := Lib.hid (G1.out.next g3 (fun k hk e => by omega)); have HH3 := Lib.hid (HH.out w3 HG3.out); clear HH)
          | fail)
        refine HH3.out.mono ?_
        rintro e w1 ⟨rfl, g4⟩
        have HP1 := Lib.hid (HP.out w1 (HG3.out.trans g4))
        have G4 := Lib.hid (HG3.out.trans g4)
        clear HP g4 g3 b3
        go_wp2_with fail
        refine HP1.out.mono ?_
        rintro e w5 ⟨rfl, h5⟩
        go_wp2_with fail
        go_ret
        exact ⟨rfl, TabTo.from_ G4.out h5⟩
end Go.Proofs.Ytjodkgbpbibfbaa
