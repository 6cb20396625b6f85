/- What alike answers: both devices are the same where acts were. No condition. -/
import Derived.Test.YtdhngbfigklaoaaLnN
import Derived.Deep.RegionHeld3
namespace Go.Proofs.Ytdhngbfigklaoaa
open Go.RowKit Go.Shelf

theorem fresh_len_any (b f x : Nat) (D : DV) (w : World) (h : DevM w b f x D) :
    Calls Try.prog 20 #[.pointer (some ⟨b, 0, none⟩)] w fun e w' => ∃ a c, e = .returned (.slice a D.fresh.length c) ∧ Frm (fun _ => False) w w' :=
  (fresh_any b f x D w h).mono fun e w' ⟨v, h1, h2, _, h3⟩ => by
    obtain ⟨a, c, rfl, _, _⟩ := h2.zs.slice
    rw [List.length_map] at h1
    exact ⟨a, c, h1, h3⟩
set_option maxRecDepth 100000 in
set_option maxHeartbeats 8000000 in
theorem alike12_any (b f x r : Nat) (D : DV) (fp : Nat → Prop) (v : Value) (B : List A3) (w : World) (hd : DevM w b f x D) (hr : RefM w r D fp) (hB : A3L w v B) :
    Calls Try.prog 16 #[.pointer (some ⟨b, 0, none⟩), .pointer (some ⟨r, 0, none⟩), v] w fun e w' => e = .returned (.bool true) ∧ Frm (fun _ => False) w w' := by
  obtain ⟨a, cap, rfl, h1, h2⟩ := hB.slice
  unfold maxLen at h2
  have HB := Lib.hid hB
  have H1 := Lib.hid (fun (q : Int) (hq : Z64 q) W (g : Frm (fun _ => False) w W) => read_any b f x D q W (hd.keepF g) hq)
  have H2 := Lib.hid (fun (q : Int) (hq : Z64 q) W (g : Frm (fun _ => False) w W) => read_ref r D fp q W (hr.keepF g) hd.ok hq)
  have H3 := Lib.hid (fun (q : Int) (hq : Z64 q) W (g : Frm (fun _ => False) w W) => firm_any b f x D q W (hd.keepF g) hq)
  have H4 := Lib.hid (fun (q : Int) (hq : Z64 q) W (g : Frm (fun _ => False) w W) => sure_ref r D fp q W (hr.keepF g) hd.ok hq)
  have H5 := Lib.hid (fun W (g : Frm (fun _ => False) w W) => fresh_len_any b f x D W (hd.keepF g))
  have HR := Lib.hid hr
  clear hB hd hr
  go_enter Try.func16, Try.ntmps16
  go_wp2_with fail
  go_loopw [7] (fun i wr => ∃ k : Nat, k ≤ B.length ∧ i = .int .i64 k ∧ Frm (fun _ => False) w wr) (fun i _ => B.length - (intOf i).toNat)
  case atStart => exact ⟨0, Nat.zero_le _, rfl, Frm.refl _ _⟩
  case round =>
    obtain ⟨i, hi, rfl, gr⟩ := hrel
    by_cases hlt : i < B.length
    · obtain ⟨p, off, rfl, hp, _, c1, _⟩ := A3L.elem (show A3L wr (.slice _ B.length _) B from HB.out.keepF gr) i hlt
      have hq := B[i].hq
      obtain ⟨q, hqq⟩ : ∃ q, B[i].q = q := ⟨_, rfl⟩
      rw [hqq] at c1 hq
      have H1q := H1.out q hq
      have H2q := H2.out q hq
      have H3q := H3.out q hq
      have H4q := H4.out q hq
      obtain ⟨s1, hs1⟩ : ∃ s1, bs (if D.bad q = true then [] else D.read q.toNat) = s1 := ⟨_, rfl⟩
      obtain ⟨s2, hs2⟩ : ∃ s2, bs (if D.bad q = true then [] else D.F q.toNat) = s2 := ⟨_, rfl⟩
      obtain ⟨e1, he1⟩ : ∃ e1 : Int, (if D.bad q = true then 2 else 0) = e1 := ⟨_, rfl⟩
      simp only [hs1, he1] at H1q H2q
      simp only [hs2, he1] at H3q H4q
      have l1 : (s1.toList == s1.toList) = true := by rw [beq_iff_eq]
      have l2 : (s2.toList == s2.toList) = true := by rw [beq_iff_eq]
      have l3 : (e1 == e1) = true := by rw [beq_iff_eq]
      have J1 := Lib.hid H1q
      have J2 := Lib.hid H2q
      have J3 := Lib.hid H3q
      have J4 := Lib.hid H4q
      have GR := Lib.hid gr
      have C1 := Lib.hid c1
      have hii : (i : Int) < (B.length : Int) := by omega
      clear hs1 hs2 he1 hqq hq gr H1q H2q H3q H4q
      go_wp2_with fail
      refine (J1.out _ GR.out).mono ?_
      rintro e w1 ⟨rfl, g1⟩
      have G1 := Lib.hid g1
      clear c1
      have c1 := dFrm_cell g1 C1.out
      clear g1
      go_wp2_with fail
      refine (J2.out _ (GR.out.trans G1.out)).mono ?_
      rintro e w2 ⟨rfl, g2⟩
      have G2 := Lib.hid (G1.out.trans g2)
      clear g2 c1
      have c1 := dFrm_cell G2.out C1.out
      go_wp2_with fail
      refine (J3.out _ (GR.out.trans G2.out)).mono ?_
      rintro e w3 ⟨rfl, g3⟩
      have G3 := Lib.hid (G2.out.trans g3)
      clear g3 c1
      have c1 := dFrm_cell G3.out C1.out
      go_wp2_with fail
      refine (J4.out _ (GR.out.trans G3.out)).mono ?_
      rintro e w4 ⟨rfl, g4⟩
      have G4 := Lib.hid (GR.out.trans (G3.out.trans g4))
      clear g4 c1
      go_wp2_with fail
      go_roundw
      case rel => exact ⟨i + 1, by omega, by go_num, G4.out⟩
      case measure => simp [intOf]; omega
    · obtain rfl : i = B.length := by omega
      obtain ⟨va, vb, hR⟩ := HR.out.keepF gr
      obtain ⟨al, cl, rfl, hl1, hl2⟩ := hR.list.frl.slice
      have hll := FLs_len D
      have d1 := hR.blk.cell 1 rfl
      obtain ⟨N, hN⟩ : ∃ N, D.fresh.length = N := ⟨_, rfl⟩
      rw [hll, hN] at d1
      have H5r := fun W (g : Frm (fun _ => False) wr W) => H5.out W (gr.trans g)
      simp only [hN] at H5r
      have J5 := Lib.hid H5r
      have GR := Lib.hid gr
      have hnn : ((N : Int) == (N : Int)) = true := by rw [beq_iff_eq]
      clear hR hl1 hl2 hll hN gr H1 H2 H3 H4 H5 H5r
      go_upto_region 10 with fail
      have f0 := Frm.refl (fun _ => False) wr
      go_region_held3 (fun w' => w'.cell? ⟨r, 1, none⟩ = some (.slice al N cl) ∧ Frm (fun _ => False) wr w')
        (((try dsimp only); (try go_split_ands); (repeat' apply And.intro) <;> (first
          | assumption
          | exact Frm.drew (by assumption)
          | exact dFrm_cell gg (by assumption)
          | (refine Frm.trans ?_ gg; assumption)
          | go_keep)))
        (first
          | (go_at_call 20; (with_reducible refine (J5.out _ (And.right (by assumption))).mono ?_); rintro e ww ⟨aF, cF, rfl, gg⟩))
      all_goals
        go_wp2_with fail
        go_ret
        exact ⟨rfl, GR.out.trans (f0.drew.trans gg)⟩
end Go.Proofs.Ytdhngbfigklaoaa

