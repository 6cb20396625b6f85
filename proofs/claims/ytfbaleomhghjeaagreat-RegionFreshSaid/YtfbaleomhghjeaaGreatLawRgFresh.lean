/- How long the groups are that a region tells; strings.Join over them. No condition. -/
import Derived.Test.YtfbaleomhghjeaaGreatRgY
import Derived.Test.YtfbaleomhghjeaaGreatShelf
section
namespace Go.Proofs.YtfbaleomhghjeaaGreat
open Go.RowKit Go.Shelf

theorem piece_len (s : List UInt8) : (pieceB s).length ≤ 58 := by
  unfold pieceB fBytes
  simp only [List.length_take]
  omega
theorem scan_lens : ∀ (C : List (List UInt8)) (i : Nat) (cur : List UInt8), (scan i cur C).length ≤ C.length ∧ Lib.lens (scan i cur C) ≤ cur.length + 58 * C.length := by
  intro C
  induction C with
  | nil => intro i cur; exact ⟨Nat.le_refl _, Nat.zero_le _⟩
  | cons s r ih =>
    intro i cur
    rw [scan_cons]
    have hp := piece_len s
    split
    · split
      · have h := ih (i + 1) []
        simp only [Lib.lens, List.length_cons, List.map_cons, List.sum_cons, List.length_append, List.length_nil] at h ⊢
        omega
      · have h := ih (i + 1) (cur ++ pieceB s)
        simp only [List.length_cons, List.length_append] at h ⊢
        omega
    · exact ⟨Nat.zero_le _, Nat.zero_le _⟩
theorem groups_lens (D : DV) (p n : Nat) : (D.groups p n).length ≤ n - 1 ∧ Lib.lens (D.groups p n) ≤ 58 * (n - 1) := by
  have h := scan_lens (D.logs p n) 1 []
  have hl : (D.logs p n).length = n - 1 := by simp [DV.logs]
  rw [hl] at h
  simp only [List.length_nil] at h
  unfold DV.groups
  omega
theorem rjoin_any (v : Value) (gs : List (List UInt8)) (w : World) (h : Strs w v gs) (hn : gs.length ≤ 100000) (hl : Lib.lens gs ≤ 100000000) :
    Calls Tryz.prog 33 #[v, .string ⟨#[124]⟩] w fun e w' => e = .returned (.string (bs (Lib.join gs [124]))) ∧ Frm (fun _ => False) w w' := by
  cases gs with
  | nil =>
    obtain ⟨a, cap, rfl, _, _⟩ := h.slice
    refine (Tryz.strings_Join_none a cap ⟨#[124]⟩ w).mono ?_
    rintro e w' ⟨rfl, rfl⟩
    exact ⟨rfl, Frm.refl _ _⟩
  | cons x r =>
    obtain ⟨a, cap, rfl, hc, _⟩ := h.slice
    obtain ⟨g, off, rfl, hg, _⟩ := Strs.at h 0 (by simp)
    have hm : ((x :: r).map bs).map (·.data.toList) = x :: r := by
      rw [List.map_map]
      have : ((fun b : ByteArray => b.data.toList) ∘ bs) = id := by
        funext s; simp [bs]
      rw [this, List.map_id]
    have hlen : ((x :: r).map bs).length = (x :: r).length := by simp
    have hj := Tryz.strings_Join g off cap ((x :: r).map bs) ⟨#[124]⟩ w (fun j y hy => by
      rw [List.getElem?_map] at hy
      obtain ⟨s, hs, rfl⟩ : ∃ s, (x :: r)[j]? = some s ∧ bs s = y := by
        cases hq : (x :: r)[j]? with
        | none => rw [hq] at hy; cases hy
        | some s => rw [hq] at hy; exact ⟨s, rfl, by simpa using hy⟩
      obtain ⟨hj, hs⟩ := List.getElem?_eq_some_iff.1 hs
      obtain ⟨g', off', e, _, c0⟩ := Strs.at h j hj
      cases e
      rw [c0, hs]) hg (by rw [hlen]; omega) (by rw [hlen]; exact hc) (by
      rw [hm]
      have := Lib.join_length x r [124]
      show (Lib.join (x :: r) [124]).length ≤ _
      rw [this]
      simp only [List.length_cons, List.length_nil] at hn ⊢
      omega)
    rw [hm, hlen] at hj
    refine hj.mono ?_
    rintro e w' ⟨rfl, hb⟩
    exact ⟨rfl, (Frm.ofBelow hb).mono fun k hk h => by omega⟩
/-- An act over a line that no act cuts. -/
theorem Uc.act {L : LV} (h : Uc L) (D' : DV) : Uc (L.act D') ∧ (L.act D').acts = L.acts + 1 ∧ (L.act D').cs = L.cs ∧ (L.act D').P = L.P ∧ (L.act D').D = D' := by
  rw [LV.act_live D' h.1 (by have := h.2; omega)]
  exact ⟨⟨h.1, h.2⟩, rfl, rfl, rfl, rfl⟩
/-- A Read of the 64 blocks from 64 on, of a device of 256. -/
theorem rdR_256 {L : LV} (h : L.down = false) (hn : L.D.n = 256) : ∃ g gs, rdR L 64 64 = (g, gs, 0) ∧ gs.length ≤ 63 ∧ Lib.lens gs ≤ 3654 :=
  ⟨_, _, rdR_live (A := 64) (n := 64) h (by decide) (by decide) (by rw [hn]; decide), (groups_lens L.D 64 64).1, (groups_lens L.D 64 64).2⟩
end Go.Proofs.YtfbaleomhghjeaaGreat
end
section
namespace Go.Proofs.YtfbaleomhghjeaaGreat
open Go.RowKit Go.Shelf

set_option maxRecDepth 100000 in
set_option maxHeartbeats 16000000 in
theorem regionFresh_any (v : Value) (l0 : List (List UInt8)) (w : World) (hv : Strs w v l0) (hs : ∀ s ∈ l0, s.length ≤ 9223372036854775807) :
    Calls Tryz.prog 6 #[v] w fun e w' => e = .returned (.bool true) ∧ Frm (fun _ => False) w w' := by
  obtain ⟨a, cap, rfl, hc1, hc2⟩ := hv.slice
  unfold maxLen at hc2
  have HWK := Lib.hid (fun W => awake13_any W)
  have HN := Lib.hid (new256 w)
  have HV := Lib.hid hv
  by_cases h60 : l0.length ≤ 60
  · have h60i : ¬ (60 : Int) < (l0.length : Int) := by omega
    clear hv
    go_enter Tryz.func6, Tryz.ntmps6
    go_wp2_with fail
    refine HN.out.mono ?_
    rintro e w1 ⟨_, rfl, b, f, x, rfl, hd, hb, hf, hx, g1⟩
    have HL := Lib.hid (lnew_any b f x _ (-1) _ [] w1 hd (by unfold Z64; decide) (nil_zs (w := w1)) (fun _ h => by cases h) (show 0 ≤ 1000000 by decide))
    have H1 := Lib.hid (And.intro (And.intro hb (And.intro hf hx)) g1)
    clear hd hb hf hx g1 HN
    go_wp2_with fail
    refine HL.out.mono ?_
    rintro e w2 ⟨_, rfl, l, rfl, hl, hlo, g2⟩
    have H2 := Lib.hid (And.intro (show w.heap.size ≤ l from Nat.le_trans H1.out.2.size hlo) (H1.out.2.trans g2))
    have HL2 := Lib.hid hl
    clear hl hlo g2 HL
    go_wp2_with fail
    go_loopw [5] (fun i wr => ∃ (j : Nat) (L : LV), j ≤ l0.length ∧ i = .int .i64 j ∧ LnM wr l b f x L ∧ Uc L ∧ L.D.n = 256 ∧ L.acts = j ∧ L.cs = [] ∧ Frm (fun _ => False) w wr) (fun i _ => l0.length - (intOf i).toNat)
    case atStart => exact ⟨0, _, Nat.zero_le _, rfl, HL2.out, new_uc, rfl, rfl, rfl, H2.out.2⟩
    case round =>
      obtain ⟨j, L, hj, rfl, hL, hu, hn, hac, hcs, gr⟩ := hrel
      by_cases hlt : j < l0.length
      · have hji : (j : Int) < (l0.length : Int) := by omega
        obtain ⟨g, off, rfl, _, c0⟩ := Strs.at (HV.out.keepF gr) j hlt
        have hsl := hs l0[j] (List.getElem_mem hlt)
        obtain ⟨s, hse⟩ : ∃ s, l0[j] = s := ⟨_, rfl⟩
        rw [hse] at c0 hsl
        have hS := Lib.hid (And.intro hL (And.intro hu (And.intro hn (And.intro hac (And.intro hcs gr)))))
        clear hL hu hn hac hcs gr hse
        have hsi : ((bs s).size : Int) = (s.length : Int) := by simp [bs, ByteArray.size]
        by_cases hs64 : s.length ≤ 64
        · have h64i : ¬ (64 : Int) < (s.length : Int) := by omega
          have ha : IntKind.i64.wrap (64 + (j : Int)) = 64 + (j : Int) := IntWalk.i64_in _ (by omega)
          have HW := Lib.hid (lwrite_any l b f x L (64 + (j : Int)) s wr hS.out.1 (by rw [hS.out.2.2.2.1]; omega) (by unfold Z64; omega) hsl)
          go_wp2_with fail
          refine HW.out.mono ?_
          rintro e W ⟨rfl, hW, gW⟩
          have hA := hS.out.2.1.act (L.D.writeTo (64 + (j : Int)) s)
          have hr := Lib.hid (And.intro hW (And.intro hA (hS.out.2.2.2.2.2.toNewX gW ⟨H2.out.1, H1.out.1.2.1, H1.out.1.2.2⟩)))
          clear hA hW gW HW
          go_wp2_with fail
          go_roundw
          case rel =>
            obtain ⟨hW, hA, g9⟩ := hr.out
            exact ⟨j + 1, _, by omega, by go_num, hW, hA.1, by rw [hA.2.2.2.2, writeTo_n]; exact hS.out.2.2.1, by rw [hA.2.1, hS.out.2.2.2.1], by rw [hA.2.2.1]; exact hS.out.2.2.2.2.1, g9⟩
          case measure => simp [intOf]; omega
        · have h64i : (64 : Int) < (s.length : Int) := by omega
          go_wp2_with fail
          refine (HWK.out _).mono ?_
          rintro e W ⟨rfl, gW⟩
          have hr := Lib.hid (hS.out.2.2.2.2.2.trans gW)
          clear gW
          go_wp2_with fail
          go_ret
          exact ⟨rfl, hr.out⟩
      · obtain rfl : j = l0.length := by omega
        obtain ⟨gn, gs, hrd, hg1, hg2⟩ := rdR_256 hu.1 hn
        have hok : L.D.ok := hL.dev.ok
        obtain ⟨L2, f2, s2, u2, a2, c2, p2, n2, _⟩ := fmtR_64 hu hok hn
        have r2 := s2.read64 (L' := L2) u2.1 rfl
        have HR := Lib.hid (fun (W : World) (g : Frm (fun _ => False) wr W) => rgread_any l b f x L 64 64 W (hL.keepF g) (by unfold Z64; decide) (by unfold Z64; decide))
        rw [hrd] at HR
        unfold ReadTo at HR
        have HF := Lib.hid (fun (W : World) (g : Frm (fun _ => False) wr W) => format_any l b f x L 64 64 W (hL.keepF g) (by omega) (by unfold Z64; decide) (by unfold Z64; decide) (.inl (by rw [hcs]; rfl)))
        unfold FmtTo at HF
        rw [f2] at HF
        have HT := Lib.hid (fun (W : World) (h : LnM W l b f x L2) => tells_true l b f x L2 0 [] (.slice none 0 0) W h (Strs.none_ W) r2)
        have HG := Lib.hid (And.intro hg1 hg2)
        have G0 := Lib.hid gr
        clear hu hn hac hcs gr hL hok f2 s2 u2 a2 c2 p2 n2 r2 hrd hg1 hg2
        go_wp2_with fail
        refine (HR.out _ (Frm.refl _ wr)).mono ?_
        rintro e w3 ⟨v3, rfl, h3⟩
        have H3 := Lib.hid h3
        clear h3
        go_wp2_with fail
        refine (HR.out _ H3.out.frm).mono ?_
        rintro e w4 ⟨v4, rfl, h4⟩
        have H4 := Lib.hid h4
        clear h4 HR
        obtain ⟨a3, cap3, rfl, hd1, hd2⟩ := (OwnS.reads H3.out.own).slice
        obtain ⟨a4, cap4, rfl, he1, he2⟩ := (OwnS.reads H4.out.own).slice
        unfold maxLen at hd2 he2
        have HJ1 := Lib.hid (fun (W : World) (g : Frm (fun _ => False) w4 W) => rjoin_any _ gs W (((OwnS.reads H3.out.own).keepF H4.out.frm).keepF g) (by have := HG.out; omega) (by have := HG.out; omega))
        have HJ2 := Lib.hid (fun (W : World) (g : Frm (fun _ => False) w4 W) => rjoin_any _ gs W ((OwnS.reads H4.out.own).keepF g) (by have := HG.out; omega) (by have := HG.out; omega))
        obtain ⟨js, hjs⟩ : ∃ js, bs (Lib.join gs [124]) = js := ⟨_, rfl⟩
        rw [hjs] at HJ1 HJ2
        have hq : (js.toList != js.toList) = false := by simp
        clear hjs
        go_wp2_with fail
        refine (HJ1.out _ (Frm.refl _ _)).mono ?_
        rintro e w5 ⟨rfl, g5⟩
        have G5 := Lib.hid g5
        clear g5
        go_wp2_with fail
        refine (HJ2.out _ G5.out).mono ?_
        rintro e w6 ⟨rfl, g6⟩
        have G6 := Lib.hid ((H3.out.frm.trans H4.out.frm).trans (G5.out.trans g6))
        clear g6 HJ1 HJ2 G5
        go_wp2_with fail
        refine (HF.out _ G6.out).mono ?_
        rintro e w7 ⟨v7, rfl, h7, g7, _⟩
        have HT7 := Lib.hid (HT.out _ h7)
        have G7 := Lib.hid ((G0.out.trans G6.out).toNewX g7 ⟨H2.out.1, H1.out.1.2.1, H1.out.1.2.2⟩)
        clear h7 g7 HF HT G6 H3 H4
        go_wp2_with fail
        refine HT7.out.mono ?_
        rintro e w8 ⟨rfl, g8⟩
        have G8 := Lib.hid (G7.out.trans g8)
        clear g8 HT7
        go_wp2_with fail
        refine (HWK.out _).mono ?_
        rintro e w9 ⟨rfl, g9⟩
        have G9 := Lib.hid (G8.out.trans g9)
        clear g9
        go_wp2_with fail
        go_ret
        exact ⟨rfl, G9.out⟩
  · have h60i : (60 : Int) < (l0.length : Int) := by omega
    clear hv
    go_enter Tryz.func6, Tryz.ntmps6
    go_wp2_with fail
    refine (HWK.out _).mono ?_
    rintro e w1 ⟨rfl, g1⟩
    go_wp2_with fail
    go_ret
    exact ⟨rfl, g1⟩
end Go.Proofs.YtfbaleomhghjeaaGreat
end
