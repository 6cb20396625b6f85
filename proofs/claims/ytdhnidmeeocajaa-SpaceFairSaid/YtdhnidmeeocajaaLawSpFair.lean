/- SpaceFair: what is taken was free, and none below it was; it is not taken again until it is given; Load of what is used is the same space. No condition. -/
import Derived.Test.YtdhnidmeeocajaaSpI
namespace Go.Proofs.Ytdhnidmeeocajaa
open Go.RowKit Go.Shelf

set_option maxRecDepth 100000 in
set_option maxHeartbeats 64000000 in
theorem spaceFair_any (m0 m1 : Nat) (v : Value) (A : List A2) (w : World) (hm0 : m0 < 256) (hm1 : m1 < 65536) (hA : A2L w v A) :
    Calls Try.prog 5 #[.int .u8 (m0 : Nat), .int .u16 (m1 : Nat), v] w fun e w' => e = .returned (.bool true) ∧ Frm (fun _ => False) w w' := by
  have HWK := Lib.hid (fun W => awake15_any W)
  obtain ⟨a, cap, rfl, hc1, hc2⟩ := hA.slice
  unfold maxLen at hc2
  by_cases h200 : A.length ≤ 200
  · have h200i : ¬ (200 : Int) < (A.length : Int) := by omega
    obtain ⟨f, hf⟩ : ∃ f, m0 % 100 = f := ⟨_, rfl⟩
    obtain ⟨r, hr⟩ : ∃ r, m1 % 300 = r := ⟨_, rfl⟩
    obtain ⟨n, hn⟩ : ∃ n, f + 1 + r = n := ⟨_, rfl⟩
    have hf1 : f < 100 := by omega
    have hn1 : n ≤ 400 := by omega
    have hfn : f < n := by omega
    have hmay : maySp (f : Int) (n : Int) = true := by
      unfold maySp
      simp only [Bool.and_eq_true, decide_eq_true_eq]
      exact ⟨⟨Int.natCast_nonneg f, Int.ofNat_lt.2 hfn⟩, by omega⟩
    have HN := Lib.hid (spnew_yes f n w hmay (by omega) (by omega))
    have HMAY := Lib.hid hmay
    clear hmay
    have t1 : (m0 : Int) % 100 = (f : Int) := by omega
    have t1' : (m0 : Int).tmod 100 = (f : Int) := by rw [Int.tmod_eq_emod_of_nonneg (by omega)]; exact t1
    have t2 : (m1 : Int) % 300 = (r : Int) := by omega
    have t2' : (m1 : Int).tmod 300 = (r : Int) := by rw [Int.tmod_eq_emod_of_nonneg (by omega)]; exact t2
    have t3 : IntKind.u8.wrap (f : Int) = (f : Int) := IntWalk.u8_in _ (by omega)
    have t4 : IntKind.u16.wrap (r : Int) = (r : Int) := by rw [IntKind.wrap_u16]; omega
    have t5 : IntKind.i64.wrap (f : Int) = (f : Int) := IntWalk.i64_in _ (by omega)
    have t6 : IntKind.i64.wrap (r : Int) = (r : Int) := IntWalk.i64_in _ (by omega)
    have t7 : (f : Int) + 1 + (r : Int) = (n : Int) := by omega
    have t8 : IntKind.i64.wrap (n : Int) = (n : Int) := IntWalk.i64_in _ (by omega)
    have HA := Lib.hid hA
    clear hA hf hr hn
    go_enter Try.func5, Try.ntmps5
    go_wp2_with fail
    refine HN.out.mono ?_
    rintro e w1 ⟨s, g, rfl, h1⟩
    obtain ⟨cs, hcs, hcz, hmk⟩ := run_makeI w1 n (by omega)
    have gm : Frm (fun _ => False) w1 (w1.alloc (.cells cs 3)) := (Frm.refl _ w1).alloc _
    have bm := Blk.alloc w1 3 cs
    have hI : FrI w (w1.alloc (.cells cs 3)) s g w1.heap.size f n (w1.heap.size + 1) (SpV.new f n) 0 := by
      refine ⟨rfl, rfl, h1.sp.keepF gm, ⟨bm.lt, fun j hj => ⟨?_, bm.free j⟩⟩, by rw [SpV.new_all]; rfl, h1.frm.trans gm, by simp⟩
      have hj : j < n := hj
      rw [bm.cell j (hcz j hj)]
      by_cases h : f ≤ j
      · rw [ucS_free (SpV.new_F h hj)]
      · unfold ucS
        rw [if_neg (fun e => h e.1)]
    have hsg := And.intro h1.os (And.intro h1.og (And.intro h1.sp.slt h1.sp.lt))
    obtain ⟨u, hu⟩ : ∃ u, w1.heap.size = u := ⟨_, rfl⟩
    rw [hu] at hI hsg hmk
    have HU := Lib.hid (And.intro hsg (And.intro hu h1.frm.size))
    have HI := Lib.hid hI
    obtain ⟨w2, hw2⟩ : ∃ w2, w1.alloc (.cells cs 3) = w2 := ⟨_, rfl⟩
    rw [hw2] at HI hmk
    clear h1 gm bm hcs hcz hI hsg HN hu hw2
    have hus : u ≠ s := by have := HU.out; omega
    have hug : u ≠ g := by have := HU.out; omega
    have hgw : w.heap.size ≤ g := HU.out.1.2.1
    have huw : w.heap.size ≤ u := by have := HU.out; omega
    have HX := Lib.hid (And.intro hgw (And.intro hug (And.intro hus huw)))
    clear hus hug hgw huw
    go_wp2_with fail
    clear hmk
    go_loopw [12, 11] (fun i c wr => ∃ (j cc : Nat) (S : SpV), j ≤ A.length ∧ i = .int .i64 (j : Nat) ∧ c = .int .i64 (cc : Nat) ∧ FrI w wr s g u f n (u + 1) S cc) (fun i _ _ => A.length - (intOf i).toNat)
    case atStart => exact ⟨0, 0, _, Nat.zero_le _, rfl, rfl, HI.out⟩
    case round =>
      clear HI
      obtain ⟨j, cc, S, hj, rfl, rfl, hI⟩ := hrel
      have hSa := hI.ea
      have hSn := hI.en
      have hlen := hI.len
      have hcc : cc ≤ 400 := by omega
      by_cases hlt : j < A.length
      · have hki : (j : Int) < (A.length : Int) := by omega
        obtain ⟨gb, off, rfl, hgb, c0, c1⟩ := A2L.elem (HA.out.keepF hI.frm) j hlt
        obtain ⟨y, hy⟩ : ∃ y, A[j] = y := ⟨_, rfl⟩
        rw [hy] at c0 c1
        obtain ⟨z, hz⟩ : ∃ z, y.q = z := ⟨_, rfl⟩
        rw [hz] at c1
        have hyk := y.hk
        obtain ⟨kk, hkk⟩ : ∃ kk, y.k = kk := ⟨_, rfl⟩
        rw [hkk] at c0 hyk
        obtain ⟨m, hm⟩ : ∃ m, kk % 5 = m := ⟨_, rfl⟩
        have hm5 : m < 5 := by omega
        have s1 : (kk : Int) % 5 = (m : Int) := by omega
        have s1' : (kk : Int).tmod 5 = (m : Int) := by rw [Int.tmod_eq_emod_of_nonneg (by omega)]; exact s1
        have s3 : IntKind.u8.wrap (m : Int) = (m : Int) := IntWalk.u8_in _ (by omega)
        have HI := Lib.hid hI
        have HJ := Lib.hid hj
        have HL := Lib.hid hlen
        have HS := Lib.hid (And.intro hSa hSn)
        clear hI hy hz hkk hm hj hlen hSa hSn

        by_cases m2 : m = 2
        · subst m2
          rcases (show z < (f : Int) ∨ ((f : Int) ≤ z ∧ (n : Int) ≤ z) ∨ ∃ k : Nat, z = (k : Int) ∧ f ≤ k ∧ k < n by
            by_cases h1 : z < (f : Int)
            · exact .inl h1
            · by_cases h2 : (n : Int) ≤ z
              · exact .inr (.inl ⟨by omega, h2⟩)
              · exact .inr (.inr ⟨z.toNat, by omega, by omega, by omega⟩)) with hz1 | ⟨hz1, hz2⟩ | ⟨k, rfl, hk1, hk2⟩
          · have hi : S.inn z = false := by
              unfold SpV.inn
              rw [HS.out.1, HS.out.2]
              rw [decide_eq_false (by omega : ¬ (f : Int) ≤ z), Bool.false_and]
            have q1 : ¬ (f : Int) ≤ z := by omega
            have hu := spuse_any s g S z wr HI.out.sp
            rw [use_out hi] at hu
            unfold SpTo at hu
            have HV := Lib.hid hu
            clear hu hi
            go_wp2_with fail
            refine HV.out.mono ?_
            rintro e w5 ⟨rfl, h5, g5⟩
            have H5 := Lib.hid (HI.out.same HX.out.1 HX.out.2.1 h5 g5)
            clear h5 g5 HV
            go_wp2_with fail
            have hc := spcount_any s g S w5 H5.out.sp
            rw [show ((S.all.length : Nat) : Int) = (n : Int) - (f : Int) - (cc : Int) by have := H5.out.len; have := HL.out; omega] at hc
            have HC := Lib.hid hc
            clear hc
            go_wp2_with fail
            refine HC.out.mono ?_
            rintro e wq ⟨rfl, gq⟩
            have HQ := Lib.hid (H5.out.keepF gq)
            clear gq HC
            go_wp2_with fail
            go_roundw
            case rel => exact ⟨j + 1, cc, S, by omega, by go_num, by go_num, HQ.out⟩
            case measure => simp [intOf]; omega
          · have hi : S.inn z = false := by
              unfold SpV.inn
              rw [HS.out.1, HS.out.2]
              rw [decide_eq_false (by omega : ¬ z < (n : Int)), Bool.and_false]
            have q1 : ¬ z < (f : Int) := by omega
            have q2 : ¬ z < (n : Int) := by omega
            have hu := spuse_any s g S z wr HI.out.sp
            rw [use_out hi] at hu
            unfold SpTo at hu
            have HV := Lib.hid hu
            clear hu hi
            go_wp2_with fail
            refine HV.out.mono ?_
            rintro e w5 ⟨rfl, h5, g5⟩
            have H5 := Lib.hid (HI.out.same HX.out.1 HX.out.2.1 h5 g5)
            clear h5 g5 HV
            go_wp2_with fail
            have hc := spcount_any s g S w5 H5.out.sp
            rw [show ((S.all.length : Nat) : Int) = (n : Int) - (f : Int) - (cc : Int) by have := H5.out.len; have := HL.out; omega] at hc
            have HC := Lib.hid hc
            clear hc
            go_wp2_with fail
            refine HC.out.mono ?_
            rintro e wq ⟨rfl, gq⟩
            have HQ := Lib.hid (H5.out.keepF gq)
            clear gq HC
            go_wp2_with fail
            go_roundw
            case rel => exact ⟨j + 1, cc, S, by omega, by go_num, by go_num, HQ.out⟩
            case measure => simp [intOf]; omega
          · cases hF : S.F k with
            | true =>
              have p1 : S.a ≤ k := by rw [HS.out.1]; exact hk1
              have p2 : k < S.n := by rw [HS.out.2]; exact hk2
              have hu := spuse_any s g S (k : Int) wr HI.out.sp
              rw [use_free p1 p2 hF] at hu
              unfold SpTo at hu
              have HV := Lib.hid hu
              have q1 : ¬ (k : Int) < (f : Int) := by omega
              have q2 : (k : Int) < (n : Int) := by omega
              have q3 : (f : Int) ≤ (k : Int) := by omega
              have q4 : min (k : Int) ((n : Int) - 1) = (k : Int) := by omega
              have q5 : (if 0 < k then (k : Int) else 0) = (k : Int) := by split <;> omega
              have q6 : (if (0 : Int) < (k : Int) then (k : Int) else 0) = (k : Int) := by split <;> omega
              have hcell := HI.out.us.at_ k p2
              rw [ucS_free hF] at hcell
              have hfl := SpV.flip_less p2 hF
              have huc : ucS (S.flip k) k = 1 := ucS_used p1 (by rw [SpV.flip_at, hF]; rfl)
              have HFL := Lib.hid (And.intro hfl huc)
              clear hu hF hfl huc p1 p2
              have e1 := hcell.1
              have z1 := hcell.2
              clear hcell
              go_wp2_with fail
              refine HV.out.mono ?_
              rintro e w5 ⟨rfl, h5, g5⟩
              have e1 := (World.cell?_of_block (a := ⟨u, k, none⟩) (g5.block u HI.out.us.lt HX.out.2.1)).trans e1
              have z1 := (World.frozen?_of_block (a := ⟨u, k, none⟩) (g5.block u HI.out.us.lt HX.out.2.1)).trans z1
              have H5 := Lib.hid (HI.out.turn (c' := (cc + 1)) HX.out.1 HX.out.2.1 HX.out.2.2.1 HX.out.2.2.2 k 1 hk2 h5 g5 HFL.out.2 (by have := HFL.out.1; have := HL.out; omega))
              clear h5 g5 HV
              go_wp2_with fail
              have hc := spcount_any s g (S.flip k) (w5.setCell ⟨u, k, none⟩ (.int .i64 1)) H5.out.sp
              rw [show (((S.flip k).all.length : Nat) : Int) = (n : Int) - (f : Int) - ((cc : Int) + 1) by have := H5.out.len; have := HL.out; omega] at hc
              have HC := Lib.hid hc
              clear hc
              go_wp2_with fail
              refine HC.out.mono ?_
              rintro e wq ⟨rfl, gq⟩
              have HQ := Lib.hid (H5.out.keepF gq)
              clear gq HC
              go_wp2_with fail
              go_roundw
              case rel => exact ⟨j + 1, (cc + 1), (S.flip k), by omega, by go_num, by go_num, HQ.out⟩
              case measure => simp [intOf]; omega
            | false =>
              have p1 : S.a ≤ k := by rw [HS.out.1]; exact hk1
              have p2 : k < S.n := by rw [HS.out.2]; exact hk2
              have hu := spuse_any s g S (k : Int) wr HI.out.sp
              rw [use_used p1 p2 hF] at hu
              unfold SpTo at hu
              have HV := Lib.hid hu
              have q1 : ¬ (k : Int) < (f : Int) := by omega
              have q2 : (k : Int) < (n : Int) := by omega
              have q3 : (f : Int) ≤ (k : Int) := by omega
              have q4 : min (k : Int) ((n : Int) - 1) = (k : Int) := by omega
              have q5 : (if 0 < k then (k : Int) else 0) = (k : Int) := by split <;> omega
              have q6 : (if (0 : Int) < (k : Int) then (k : Int) else 0) = (k : Int) := by split <;> omega
              have hcell := HI.out.us.at_ k p2
              rw [ucS_used p1 hF] at hcell
              clear hu hF p1 p2
              have e1 := hcell.1
              have z1 := hcell.2
              clear hcell
              go_wp2_with fail
              refine HV.out.mono ?_
              rintro e w5 ⟨rfl, h5, g5⟩
              have e1 := (World.cell?_of_block (a := ⟨u, k, none⟩) (g5.block u HI.out.us.lt HX.out.2.1)).trans e1
              have z1 := (World.frozen?_of_block (a := ⟨u, k, none⟩) (g5.block u HI.out.us.lt HX.out.2.1)).trans z1
              have H5 := Lib.hid (HI.out.same HX.out.1 HX.out.2.1 h5 g5)
              clear h5 g5 HV
              go_wp2_with fail
              have hc := spcount_any s g S w5 H5.out.sp
              rw [show ((S.all.length : Nat) : Int) = (n : Int) - (f : Int) - (cc : Int) by have := H5.out.len; have := HL.out; omega] at hc
              have HC := Lib.hid hc
              clear hc
              go_wp2_with fail
              refine HC.out.mono ?_
              rintro e wq ⟨rfl, gq⟩
              have HQ := Lib.hid (H5.out.keepF gq)
              clear gq HC
              go_wp2_with fail
              go_roundw
              case rel => exact ⟨j + 1, cc, S, by omega, by go_num, by go_num, HQ.out⟩
              case measure => simp [intOf]; omega
        · have m2i : ((m : Int) == 2) = false := by rw [beq_eq_false_iff_ne]; omega
          by_cases m3 : m = 3
          · subst m3
            rcases (show z < (f : Int) ∨ ((f : Int) ≤ z ∧ (n : Int) ≤ z) ∨ ∃ k : Nat, z = (k : Int) ∧ f ≤ k ∧ k < n by
              by_cases h1 : z < (f : Int)
              · exact .inl h1
              · by_cases h2 : (n : Int) ≤ z
                · exact .inr (.inl ⟨by omega, h2⟩)
                · exact .inr (.inr ⟨z.toNat, by omega, by omega, by omega⟩)) with hz1 | ⟨hz1, hz2⟩ | ⟨k, rfl, hk1, hk2⟩
            · have hi : S.inn z = false := by
                unfold SpV.inn
                rw [HS.out.1, HS.out.2]
                rw [decide_eq_false (by omega : ¬ (f : Int) ≤ z), Bool.false_and]
              have q1 : ¬ (f : Int) ≤ z := by omega
              have hu := spgive_any s g S z wr HI.out.sp
              rw [give_out hi] at hu
              unfold SpTo at hu
              have HV := Lib.hid hu
              clear hu hi
              go_wp2_with fail
              refine HV.out.mono ?_
              rintro e w5 ⟨rfl, h5, g5⟩
              have H5 := Lib.hid (HI.out.same HX.out.1 HX.out.2.1 h5 g5)
              clear h5 g5 HV
              go_wp2_with fail
              have hc := spcount_any s g S w5 H5.out.sp
              rw [show ((S.all.length : Nat) : Int) = (n : Int) - (f : Int) - (cc : Int) by have := H5.out.len; have := HL.out; omega] at hc
              have HC := Lib.hid hc
              clear hc
              go_wp2_with fail
              refine HC.out.mono ?_
              rintro e wq ⟨rfl, gq⟩
              have HQ := Lib.hid (H5.out.keepF gq)
              clear gq HC
              go_wp2_with fail
              go_roundw
              case rel => exact ⟨j + 1, cc, S, by omega, by go_num, by go_num, HQ.out⟩
              case measure => simp [intOf]; omega
            · have hi : S.inn z = false := by
                unfold SpV.inn
                rw [HS.out.1, HS.out.2]
                rw [decide_eq_false (by omega : ¬ z < (n : Int)), Bool.and_false]
              have q1 : ¬ z < (f : Int) := by omega
              have q2 : ¬ z < (n : Int) := by omega
              have hu := spgive_any s g S z wr HI.out.sp
              rw [give_out hi] at hu
              unfold SpTo at hu
              have HV := Lib.hid hu
              clear hu hi
              go_wp2_with fail
              refine HV.out.mono ?_
              rintro e w5 ⟨rfl, h5, g5⟩
              have H5 := Lib.hid (HI.out.same HX.out.1 HX.out.2.1 h5 g5)
              clear h5 g5 HV
              go_wp2_with fail
              have hc := spcount_any s g S w5 H5.out.sp
              rw [show ((S.all.length : Nat) : Int) = (n : Int) - (f : Int) - (cc : Int) by have := H5.out.len; have := HL.out; omega] at hc
              have HC := Lib.hid hc
              clear hc
              go_wp2_with fail
              refine HC.out.mono ?_
              rintro e wq ⟨rfl, gq⟩
              have HQ := Lib.hid (H5.out.keepF gq)
              clear gq HC
              go_wp2_with fail
              go_roundw
              case rel => exact ⟨j + 1, cc, S, by omega, by go_num, by go_num, HQ.out⟩
              case measure => simp [intOf]; omega
            · cases hF : S.F k with
              | true =>
                have p1 : S.a ≤ k := by rw [HS.out.1]; exact hk1
                have p2 : k < S.n := by rw [HS.out.2]; exact hk2
                have hu := spgive_any s g S (k : Int) wr HI.out.sp
                rw [give_free p1 p2 hF] at hu
                unfold SpTo at hu
                have HV := Lib.hid hu
                have q1 : ¬ (k : Int) < (f : Int) := by omega
                have q2 : (k : Int) < (n : Int) := by omega
                have q3 : (f : Int) ≤ (k : Int) := by omega
                have q4 : min (k : Int) ((n : Int) - 1) = (k : Int) := by omega
                have q5 : (if 0 < k then (k : Int) else 0) = (k : Int) := by split <;> omega
                have q6 : (if (0 : Int) < (k : Int) then (k : Int) else 0) = (k : Int) := by split <;> omega
                have hcell := HI.out.us.at_ k p2
                rw [ucS_free hF] at hcell
                clear hu hF p1 p2
                have e1 := hcell.1
                have z1 := hcell.2
                clear hcell
                go_wp2_with fail
                refine HV.out.mono ?_
                rintro e w5 ⟨rfl, h5, g5⟩
                have e1 := (World.cell?_of_block (a := ⟨u, k, none⟩) (g5.block u HI.out.us.lt HX.out.2.1)).trans e1
                have z1 := (World.frozen?_of_block (a := ⟨u, k, none⟩) (g5.block u HI.out.us.lt HX.out.2.1)).trans z1
                have H5 := Lib.hid (HI.out.same HX.out.1 HX.out.2.1 h5 g5)
                clear h5 g5 HV
                go_wp2_with fail
                have hc := spcount_any s g S w5 H5.out.sp
                rw [show ((S.all.length : Nat) : Int) = (n : Int) - (f : Int) - (cc : Int) by have := H5.out.len; have := HL.out; omega] at hc
                have HC := Lib.hid hc
                clear hc
                go_wp2_with fail
                refine HC.out.mono ?_
                rintro e wq ⟨rfl, gq⟩
                have HQ := Lib.hid (H5.out.keepF gq)
                clear gq HC
                go_wp2_with fail
                go_roundw
                case rel => exact ⟨j + 1, cc, S, by omega, by go_num, by go_num, HQ.out⟩
                case measure => simp [intOf]; omega
              | false =>
                have p1 : S.a ≤ k := by rw [HS.out.1]; exact hk1
                have p2 : k < S.n := by rw [HS.out.2]; exact hk2
                have hu := spgive_any s g S (k : Int) wr HI.out.sp
                rw [give_used p1 p2 hF] at hu
                unfold SpTo at hu
                have HV := Lib.hid hu
                have q1 : ¬ (k : Int) < (f : Int) := by omega
                have q2 : (k : Int) < (n : Int) := by omega
                have q3 : (f : Int) ≤ (k : Int) := by omega
                have q4 : min (k : Int) ((n : Int) - 1) = (k : Int) := by omega
                have q5 : (if 0 < k then (k : Int) else 0) = (k : Int) := by split <;> omega
                have q6 : (if (0 : Int) < (k : Int) then (k : Int) else 0) = (k : Int) := by split <;> omega
                have hcell := HI.out.us.at_ k p2
                rw [ucS_used p1 hF] at hcell
                have hfl := SpV.flip_more p2 hF
                have huc : ucS (S.flip k) k = 0 := ucS_free (by rw [SpV.flip_at, hF]; rfl)
                have HFL := Lib.hid (And.intro hfl huc)
                have hcp : 0 < cc := by have := HL.out; have h9 := SpV.full_len HI.out.sp.ok k p1 p2 hF; rw [HS.out.1, HS.out.2] at h9; omega
                clear hu hF hfl huc p1 p2
                have e1 := hcell.1
                have z1 := hcell.2
                clear hcell
                go_wp2_with fail
                refine HV.out.mono ?_
                rintro e w5 ⟨rfl, h5, g5⟩
                have e1 := (World.cell?_of_block (a := ⟨u, k, none⟩) (g5.block u HI.out.us.lt HX.out.2.1)).trans e1
                have z1 := (World.frozen?_of_block (a := ⟨u, k, none⟩) (g5.block u HI.out.us.lt HX.out.2.1)).trans z1
                have H5 := Lib.hid (HI.out.turn (c' := (cc - 1)) HX.out.1 HX.out.2.1 HX.out.2.2.1 HX.out.2.2.2 k 0 hk2 h5 g5 HFL.out.2 (by have := HFL.out.1; have := HL.out; omega))
                clear h5 g5 HV
                go_wp2_with fail
                have hc := spcount_any s g (S.flip k) (w5.setCell ⟨u, k, none⟩ (.int .i64 0)) H5.out.sp
                rw [show (((S.flip k).all.length : Nat) : Int) = (n : Int) - (f : Int) - ((cc : Int) - 1) by have := H5.out.len; have := HL.out; omega] at hc
                have HC := Lib.hid hc
                clear hc
                go_wp2_with fail
                refine HC.out.mono ?_
                rintro e wq ⟨rfl, gq⟩
                have HQ := Lib.hid (H5.out.keepF gq)
                clear gq HC
                go_wp2_with fail
                go_roundw
                case rel => exact ⟨j + 1, (cc - 1), (S.flip k), by omega, by go_num, by (congr 1; omega), HQ.out⟩
                case measure => simp [intOf]; omega
          · have m3i : ((m : Int) == 3) = false := by rw [beq_eq_false_iff_ne]; omega
            rcases (show z < (f : Int) ∨ ((f : Int) ≤ z ∧ (n : Int) ≤ z) ∨ ∃ k : Nat, z = (k : Int) ∧ f ≤ k ∧ k < n by
              by_cases h1 : z < (f : Int)
              · exact .inl h1
              · by_cases h2 : (n : Int) ≤ z
                · exact .inr (.inl ⟨by omega, h2⟩)
                · exact .inr (.inr ⟨z.toNat, by omega, by omega, by omega⟩)) with hz1 | ⟨hz1, hz2⟩ | ⟨k, rfl, hk1, hk2⟩
            · skip
              have q1 : ¬ (f : Int) ≤ z := by omega
              cases hal : S.all with
              | nil =>
                have ht := sptake_any s g S wr HI.out.sp
                rw [take_none hal] at ht
                unfold TakeTo at ht
                have hl0 : cc = n - f := by have := HL.out; rw [hal] at this; simp at this; omega
                have hq1 : ((cc : Int) != (n : Int) - (f : Int)) = false := by rw [bne_eq_false_iff_eq]; omega
                have hq2 : ((cc : Int) == (n : Int) - (f : Int)) = true := by rw [beq_iff_eq]; omega
                have HV := Lib.hid ht
                clear ht hal hl0
                go_wp2_with fail
                refine HV.out.mono ?_
                rintro e w5 ⟨rfl, h5, g5⟩
                have H5 := Lib.hid (HI.out.same HX.out.1 HX.out.2.1 h5 g5)
                clear h5 g5 HV
                go_wp2_with fail
                go_roundw
                case rel => exact ⟨j + 1, cc, S, by omega, by go_num, rfl, H5.out⟩
                case measure => simp [intOf]; omega
              | cons k2 l =>
                obtain ⟨hF, p1, p2, hbel⟩ := SpV.all_head HI.out.sp.ok hal
                have ht := sptake_any s g S wr HI.out.sp
                rw [take_some hal] at ht
                unfold TakeTo at ht
                have HV := Lib.hid ht
                have hfl := SpV.flip_less p2 hF
                have huc : ucS (S.flip k2) k2 = 1 := ucS_used p1 (by rw [SpV.flip_at, hF]; rfl)
                have HFL := Lib.hid (And.intro hfl huc)
                have hcell := HI.out.us.at_ k2 p2
                rw [ucS_free hF] at hcell
                have HBE := Lib.hid (show ∀ b, f ≤ b → b < k2 → ucS S b = 1 from fun b hb1 hb2 => ucS_used (by rw [HS.out.1]; exact hb1) (hbel b hb2))
                have hk1' : f ≤ k2 := by rw [← HS.out.1]; exact p1
                have hk2' : k2 < n := by rw [← HS.out.2]; exact p2
                have r1 : ¬ (k2 : Int) < (f : Int) := by omega
                have r2 : ¬ (n : Int) ≤ (k2 : Int) := by omega
                have e1 := hcell.1
                have z1 := hcell.2
                clear ht hal hF hfl huc p1 p2 hbel hcell
                go_wp2_with fail
                refine HV.out.mono ?_
                rintro e w5 ⟨rfl, h5, g5⟩
                have e1 := (World.cell?_of_block (a := ⟨u, k2, none⟩) (g5.block u HI.out.us.lt HX.out.2.1)).trans e1
                have z1 := (World.frozen?_of_block (a := ⟨u, k2, none⟩) (g5.block u HI.out.us.lt HX.out.2.1)).trans z1
                have HU5 := Lib.hid (HI.out.us.keep g5 HX.out.2.1)
                have H5 := Lib.hid (HI.out.turn (c' := cc + 1) HX.out.1 HX.out.2.1 HX.out.2.2.1 HX.out.2.2.2 k2 1 hk2' h5 g5 HFL.out.2 (by have := HFL.out.1; have := HL.out; omega))
                clear h5 g5 HV
                go_wp2_with fail
                go_loopw [17] (fun i wb => ∃ b : Nat, f ≤ b ∧ b ≤ k2 ∧ i = .int .i64 (b : Nat) ∧ w5 = wb) (fun i _ => k2 - (intOf i).toNat)
                case atStart => exact ⟨f, Nat.le_refl _, hk1', rfl, rfl⟩
                case round =>
                  obtain ⟨b, hb1, hb2, rfl, rfl⟩ := hrel
                  by_cases hblt : b < k2
                  · have hbi : (b : Int) < (k2 : Int) := by omega
                    have eb := (HU5.out.at_ b (by rw [HS.out.2]; omega)).1
                    rw [HBE.out b hb1 hblt] at eb
                    go_wp2_with fail
                    go_roundw
                    case rel => exact ⟨b + 1, by omega, by omega, by go_num, (by first | trivial | rfl)⟩
                    case measure => simp [intOf]; omega
                  · obtain rfl : b = k2 := by omega
                    go_wp2_with fail
                    have hc := spcount_any s g (S.flip b) (w5.setCell ⟨u, b, none⟩ (.int .i64 1)) H5.out.sp
                    rw [show (((S.flip b).all.length : Nat) : Int) = (n : Int) - (f : Int) - ((cc : Int) + 1) by have := H5.out.len; have := HL.out; omega] at hc
                    have HC := Lib.hid hc
                    clear hc
                    go_wp2_with fail
                    refine HC.out.mono ?_
                    rintro e wq ⟨rfl, gq⟩
                    have HQ := Lib.hid (H5.out.keepF gq)
                    clear gq HC
                    go_wp2_with fail
                    go_roundw
                    case rel => exact ⟨j + 1, (cc + 1), (S.flip b), by omega, by go_num, by go_num, HQ.out⟩
                    case measure => simp [intOf]; omega
            · skip
              have q1 : ¬ z < (f : Int) := by omega
              have q2 : ¬ z < (n : Int) := by omega
              cases hal : S.all with
              | nil =>
                have ht := sptake_any s g S wr HI.out.sp
                rw [take_none hal] at ht
                unfold TakeTo at ht
                have hl0 : cc = n - f := by have := HL.out; rw [hal] at this; simp at this; omega
                have hq1 : ((cc : Int) != (n : Int) - (f : Int)) = false := by rw [bne_eq_false_iff_eq]; omega
                have hq2 : ((cc : Int) == (n : Int) - (f : Int)) = true := by rw [beq_iff_eq]; omega
                have HV := Lib.hid ht
                clear ht hal hl0
                go_wp2_with fail
                refine HV.out.mono ?_
                rintro e w5 ⟨rfl, h5, g5⟩
                have H5 := Lib.hid (HI.out.same HX.out.1 HX.out.2.1 h5 g5)
                clear h5 g5 HV
                go_wp2_with fail
                go_roundw
                case rel => exact ⟨j + 1, cc, S, by omega, by go_num, rfl, H5.out⟩
                case measure => simp [intOf]; omega
              | cons k2 l =>
                obtain ⟨hF, p1, p2, hbel⟩ := SpV.all_head HI.out.sp.ok hal
                have ht := sptake_any s g S wr HI.out.sp
                rw [take_some hal] at ht
                unfold TakeTo at ht
                have HV := Lib.hid ht
                have hfl := SpV.flip_less p2 hF
                have huc : ucS (S.flip k2) k2 = 1 := ucS_used p1 (by rw [SpV.flip_at, hF]; rfl)
                have HFL := Lib.hid (And.intro hfl huc)
                have hcell := HI.out.us.at_ k2 p2
                rw [ucS_free hF] at hcell
                have HBE := Lib.hid (show ∀ b, f ≤ b → b < k2 → ucS S b = 1 from fun b hb1 hb2 => ucS_used (by rw [HS.out.1]; exact hb1) (hbel b hb2))
                have hk1' : f ≤ k2 := by rw [← HS.out.1]; exact p1
                have hk2' : k2 < n := by rw [← HS.out.2]; exact p2
                have r1 : ¬ (k2 : Int) < (f : Int) := by omega
                have r2 : ¬ (n : Int) ≤ (k2 : Int) := by omega
                have e1 := hcell.1
                have z1 := hcell.2
                clear ht hal hF hfl huc p1 p2 hbel hcell
                go_wp2_with fail
                refine HV.out.mono ?_
                rintro e w5 ⟨rfl, h5, g5⟩
                have e1 := (World.cell?_of_block (a := ⟨u, k2, none⟩) (g5.block u HI.out.us.lt HX.out.2.1)).trans e1
                have z1 := (World.frozen?_of_block (a := ⟨u, k2, none⟩) (g5.block u HI.out.us.lt HX.out.2.1)).trans z1
                have HU5 := Lib.hid (HI.out.us.keep g5 HX.out.2.1)
                have H5 := Lib.hid (HI.out.turn (c' := cc + 1) HX.out.1 HX.out.2.1 HX.out.2.2.1 HX.out.2.2.2 k2 1 hk2' h5 g5 HFL.out.2 (by have := HFL.out.1; have := HL.out; omega))
                clear h5 g5 HV
                go_wp2_with fail
                go_loopw [17] (fun i wb => ∃ b : Nat, f ≤ b ∧ b ≤ k2 ∧ i = .int .i64 (b : Nat) ∧ w5 = wb) (fun i _ => k2 - (intOf i).toNat)
                case atStart => exact ⟨f, Nat.le_refl _, hk1', rfl, rfl⟩
                case round =>
                  obtain ⟨b, hb1, hb2, rfl, rfl⟩ := hrel
                  by_cases hblt : b < k2
                  · have hbi : (b : Int) < (k2 : Int) := by omega
                    have eb := (HU5.out.at_ b (by rw [HS.out.2]; omega)).1
                    rw [HBE.out b hb1 hblt] at eb
                    go_wp2_with fail
                    go_roundw
                    case rel => exact ⟨b + 1, by omega, by omega, by go_num, (by first | trivial | rfl)⟩
                    case measure => simp [intOf]; omega
                  · obtain rfl : b = k2 := by omega
                    go_wp2_with fail
                    have hc := spcount_any s g (S.flip b) (w5.setCell ⟨u, b, none⟩ (.int .i64 1)) H5.out.sp
                    rw [show (((S.flip b).all.length : Nat) : Int) = (n : Int) - (f : Int) - ((cc : Int) + 1) by have := H5.out.len; have := HL.out; omega] at hc
                    have HC := Lib.hid hc
                    clear hc
                    go_wp2_with fail
                    refine HC.out.mono ?_
                    rintro e wq ⟨rfl, gq⟩
                    have HQ := Lib.hid (H5.out.keepF gq)
                    clear gq HC
                    go_wp2_with fail
                    go_roundw
                    case rel => exact ⟨j + 1, (cc + 1), (S.flip b), by omega, by go_num, by go_num, HQ.out⟩
                    case measure => simp [intOf]; omega
            · skip
              have q1 : ¬ (k : Int) < (f : Int) := by omega
              have q2 : (k : Int) < (n : Int) := by omega
              have q3 : (f : Int) ≤ (k : Int) := by omega
              cases hal : S.all with
              | nil =>
                have ht := sptake_any s g S wr HI.out.sp
                rw [take_none hal] at ht
                unfold TakeTo at ht
                have hl0 : cc = n - f := by have := HL.out; rw [hal] at this; simp at this; omega
                have hq1 : ((cc : Int) != (n : Int) - (f : Int)) = false := by rw [bne_eq_false_iff_eq]; omega
                have hq2 : ((cc : Int) == (n : Int) - (f : Int)) = true := by rw [beq_iff_eq]; omega
                have HV := Lib.hid ht
                clear ht hal hl0
                go_wp2_with fail
                refine HV.out.mono ?_
                rintro e w5 ⟨rfl, h5, g5⟩
                have H5 := Lib.hid (HI.out.same HX.out.1 HX.out.2.1 h5 g5)
                clear h5 g5 HV
                go_wp2_with fail
                go_roundw
                case rel => exact ⟨j + 1, cc, S, by omega, by go_num, rfl, H5.out⟩
                case measure => simp [intOf]; omega
              | cons k2 l =>
                obtain ⟨hF, p1, p2, hbel⟩ := SpV.all_head HI.out.sp.ok hal
                have ht := sptake_any s g S wr HI.out.sp
                rw [take_some hal] at ht
                unfold TakeTo at ht
                have HV := Lib.hid ht
                have hfl := SpV.flip_less p2 hF
                have huc : ucS (S.flip k2) k2 = 1 := ucS_used p1 (by rw [SpV.flip_at, hF]; rfl)
                have HFL := Lib.hid (And.intro hfl huc)
                have hcell := HI.out.us.at_ k2 p2
                rw [ucS_free hF] at hcell
                have HBE := Lib.hid (show ∀ b, f ≤ b → b < k2 → ucS S b = 1 from fun b hb1 hb2 => ucS_used (by rw [HS.out.1]; exact hb1) (hbel b hb2))
                have hk1' : f ≤ k2 := by rw [← HS.out.1]; exact p1
                have hk2' : k2 < n := by rw [← HS.out.2]; exact p2
                have r1 : ¬ (k2 : Int) < (f : Int) := by omega
                have r2 : ¬ (n : Int) ≤ (k2 : Int) := by omega
                have e1 := hcell.1
                have z1 := hcell.2
                clear ht hal hF hfl huc p1 p2 hbel hcell
                go_wp2_with fail
                refine HV.out.mono ?_
                rintro e w5 ⟨rfl, h5, g5⟩
                have e1 := (World.cell?_of_block (a := ⟨u, k2, none⟩) (g5.block u HI.out.us.lt HX.out.2.1)).trans e1
                have z1 := (World.frozen?_of_block (a := ⟨u, k2, none⟩) (g5.block u HI.out.us.lt HX.out.2.1)).trans z1
                have HU5 := Lib.hid (HI.out.us.keep g5 HX.out.2.1)
                have H5 := Lib.hid (HI.out.turn (c' := cc + 1) HX.out.1 HX.out.2.1 HX.out.2.2.1 HX.out.2.2.2 k2 1 hk2' h5 g5 HFL.out.2 (by have := HFL.out.1; have := HL.out; omega))
                clear h5 g5 HV
                go_wp2_with fail
                go_loopw [17] (fun i wb => ∃ b : Nat, f ≤ b ∧ b ≤ k2 ∧ i = .int .i64 (b : Nat) ∧ w5 = wb) (fun i _ => k2 - (intOf i).toNat)
                case atStart => exact ⟨f, Nat.le_refl _, hk1', rfl, rfl⟩
                case round =>
                  obtain ⟨b, hb1, hb2, rfl, rfl⟩ := hrel
                  by_cases hblt : b < k2
                  · have hbi : (b : Int) < (k2 : Int) := by omega
                    have eb := (HU5.out.at_ b (by rw [HS.out.2]; omega)).1
                    rw [HBE.out b hb1 hblt] at eb
                    go_wp2_with fail
                    go_roundw
                    case rel => exact ⟨b + 1, by omega, by omega, by go_num, (by first | trivial | rfl)⟩
                    case measure => simp [intOf]; omega
                  · obtain rfl : b = k2 := by omega
                    go_wp2_with fail
                    have hc := spcount_any s g (S.flip b) (w5.setCell ⟨u, b, none⟩ (.int .i64 1)) H5.out.sp
                    rw [show (((S.flip b).all.length : Nat) : Int) = (n : Int) - (f : Int) - ((cc : Int) + 1) by have := H5.out.len; have := HL.out; omega] at hc
                    have HC := Lib.hid hc
                    clear hc
                    go_wp2_with fail
                    refine HC.out.mono ?_
                    rintro e wq ⟨rfl, gq⟩
                    have HQ := Lib.hid (H5.out.keepF gq)
                    clear gq HC
                    go_wp2_with fail
                    go_roundw
                    case rel => exact ⟨j + 1, (cc + 1), (S.flip b), by omega, by go_num, by go_num, HQ.out⟩
                    case measure => simp [intOf]; omega
      · obtain rfl : j = A.length := by omega
        clear hj hlen
        have HS := Lib.hid (And.intro hSa hSn)
        have HI := Lib.hid hI
        have HB := Lib.hid (show s < u + 1 ∧ g < u + 1 by have := HU.out; omega)
        clear hSa hSn hI
        go_wp2_with fail
        go_loopw [19, 18] (fun i lv wr => ∃ k : Nat, f ≤ k ∧ k ≤ n ∧ i = .int .i64 (k : Nat) ∧ OwnI wr lv (S.usd k) ∧ (∀ b, lv.ownBlock = some b → u + 1 ≤ b) ∧ FrI w wr s g u f n (u + 1) S cc) (fun i _ _ => n - (intOf i).toNat)
        case atStart => exact ⟨f, Nat.le_refl _, by omega, rfl, by rw [S.usd_low f (by rw [HS.out.1]; exact Nat.le_refl _)]; exact OwnI.nil_ _, (fun b hb => by cases hb), HI.out⟩
        case round =>
          clear HI
          obtain ⟨k, hk1, hk2, rfl, hown, hfresh, hI⟩ := hrel
          have hulen := S.usd_len k
          obtain ⟨la, lc, rfl, hl1, hl2⟩ := hown.slice
          unfold maxLen at hl2
          by_cases hkn : k < n
          · have hki : (k : Int) < (n : Int) := by omega
            have p1 : S.a ≤ k := by rw [HS.out.1]; exact hk1
            have p2 : k < S.n := by rw [HS.out.2]; exact hkn
            have HFr : ∀ W, (W.cell? ⟨u, k, none⟩ = some (.int .i64 (ucS S k)) ∧ Frm (fun _ => False) wr W) → Calls Try.prog 15 #[.pointer (some ⟨s, 0, none⟩), .int .i64 (k : Nat)] W fun e w' => e = .returned (.bool (S.F k)) ∧ Frm (fun _ => False) W w' := fun W hW =>
              (spfree_any s g S (k : Int) W (hI.sp.keepF hW.2)).mono fun e w' ⟨h1, h2⟩ => ⟨by rw [h1]; unfold SpV.isF; rw [SpV.inn_of p1 p2, Int.toNat_natCast, Bool.true_and], by rw [← h2]; exact Frm.refl _ _⟩
            have e1 := (hI.us.at_ k p2).1
            have HI := Lib.hid (And.intro hI (And.intro hown hfresh))
            have hst := S.usd_succ k
            cases hF : S.F k with
            | true =>
              rw [hF] at HFr
              rw [ucS_free hF] at HFr e1
              rw [if_neg (fun h => by rw [hF] at h; cases h.2), List.append_nil] at hst
              have HST := Lib.hid hst
              have HUL := Lib.hid hulen
              clear hst hF hI hown hfresh p1 p2 hulen
              go_upto_region 47 with fail
              refine wp_region_canon (fun W => W.cell? ⟨u, k, none⟩ = some (.int .i64 0) ∧ Frm (fun _ => False) wr W) (by kernel_rfl) rfl (by kernel_rfl) (by kernel_rfl) (⟨e1, (Frm.refl _ wr).drew⟩) ?_
              repeat' first
                | (refine CanonL.skip (by rfl) ?_; (try simp only [Act.put, List.setIfInBounds_toArray, List.set_cons_zero, List.set_cons_succ]))
                | (refine CanonL.callS (by rfl) (by rfl) ?_ HFr ?_ ?_; (focus (intro w; go_simp; (try (with_reducible rfl)); done)); (focus (rintro w ww hs gg; exact ⟨gg.cellF hs.1, hs.2.trans gg⟩)); (try simp only [Act.put, List.setIfInBounds_toArray, List.set_cons_zero, List.set_cons_succ]))
                | (refine CanonL.val (v := ?_) (by rfl) ?_ ?_; rotate_left 1; (focus (intro w hSw; (try dsimp only at hSw); go_simp; (try (with_reducible rfl)); done)); (try simp only [Act.put, List.setIfInBounds_toArray, List.set_cons_zero, List.set_cons_succ]))
              refine CanonL.done ?_
              intro w9 hS9
              obtain ⟨e2, g9⟩ := hS9
              have H9 := Lib.hid (And.intro (HI.out.1.keepF g9) (And.intro (HI.out.2.1.keepF g9) HI.out.2.2))
              clear g9 HI HFr
              go_wp2_with fail
              go_roundw
              case rel => exact ⟨k + 1, by omega, by omega, by go_num, by rw [HST.out]; exact H9.out.2.1, H9.out.2.2, H9.out.1⟩
              case measure => simp [intOf]; omega
            | false =>
              rw [hF] at HFr
              rw [ucS_used p1 hF] at HFr e1
              rw [if_pos ⟨p1, hF⟩] at hst
              have HST := Lib.hid hst
              have HUL := Lib.hid hulen
              clear hst hF hI hown hfresh p1 p2 hulen
              go_upto_region 47 with fail
              refine wp_region_canon (fun W => W.cell? ⟨u, k, none⟩ = some (.int .i64 1) ∧ Frm (fun _ => False) wr W) (by kernel_rfl) rfl (by kernel_rfl) (by kernel_rfl) (⟨e1, (Frm.refl _ wr).drew⟩) ?_
              repeat' first
                | (refine CanonL.skip (by rfl) ?_; (try simp only [Act.put, List.setIfInBounds_toArray, List.set_cons_zero, List.set_cons_succ]))
                | (refine CanonL.callS (by rfl) (by rfl) ?_ HFr ?_ ?_; (focus (intro w; go_simp; (try (with_reducible rfl)); done)); (focus (rintro w ww hs gg; exact ⟨gg.cellF hs.1, hs.2.trans gg⟩)); (try simp only [Act.put, List.setIfInBounds_toArray, List.set_cons_zero, List.set_cons_succ]))
                | (refine CanonL.val (v := ?_) (by rfl) ?_ ?_; rotate_left 1; (focus (intro w hSw; (try dsimp only at hSw); go_simp; (try (with_reducible rfl)); done)); (try simp only [Act.put, List.setIfInBounds_toArray, List.set_cons_zero, List.set_cons_succ]))
              refine CanonL.done ?_
              intro w9 hS9
              obtain ⟨e2, g9⟩ := hS9
              have H9 := Lib.hid (And.intro (HI.out.1.keepF g9) (And.intro (HI.out.2.1.keepF g9) HI.out.2.2))
              have ga : Frm (fun _ => False) w9 (w9.alloc (.cells #[.int .i64 (k : Nat)] 3)) := (Frm.refl _ w9).alloc _
              obtain ⟨v', w10, hrun, hrow, hgr, hnew⟩ := append_is (w9.alloc (.cells #[.int .i64 (k : Nat)] 3)) _ _ (S.usd k) [(k : Int)] (H9.out.2.1.keepF ga) (Zs.lit w9 (k : Int)) (by have := HUL.out; simp; omega)
              have hz : w9.heap.size ≤ (w9.alloc (.cells #[.int .i64 (k : Nat)] 3)).heap.size := ga.size
              have g10 : Frm (fun q => u + 1 ≤ q) w9 w10 := (ga.mono fun _ _ h => h.elim).grown hgr (fun q hq e => H9.out.2.2 q e)
              have hI10 : FrI w w10 s g u f n (u + 1) S cc := ⟨H9.out.1.ea, H9.out.1.en, H9.out.1.sp.keep g10 (by have := HB.out; omega) (by have := HB.out; omega), H9.out.1.us.keep g10 (by omega), H9.out.1.len, H9.out.1.frm.next g10 (fun q hq e => by have := HX.out.2.2.2; omega), Nat.le_trans H9.out.1.hi g10.size⟩
              have H10 := Lib.hid (And.intro hI10 (And.intro hrow (show ∀ b, v'.ownBlock = some b → u + 1 ≤ b from fun b hb => (hnew b hb).elim (H9.out.2.2 b) (fun h => by have := H9.out.1.hi; omega))))
              have Hrun := Lib.hid hrun
              have hlen1 : (S.usd k ++ [(k : Int)]).length = (S.usd k).length + 1 := by simp
              obtain ⟨la', lc', rfl, _, _⟩ := hrow.slice
              rw [hlen1] at H10 Hrun
              clear g9 HI HFr ga hrow hgr hnew hz g10 hI10 hrun
              go_wp2_with (first | (at_builtin; refine Lib.wpList_append_run _ rfl _ _ _ _ rfl _ _ rfl rfl _ _ Hrun.out ?_) | fail)
              go_roundw
              case rel => exact ⟨k + 1, by omega, by omega, by go_num, by rw [HST.out]; exact H10.out.2.1, H10.out.2.2, H10.out.1⟩
              case measure => simp [intOf]; omega
          · obtain rfl : k = n := by omega
            have hld : (SpV.new f k).loadU (S.usd k) = some S := by
              have := SpV.loadU_all hI.sp.ok
              rw [HS.out.1, HS.out.2] at this
              exact this
            have HLd := Lib.hid (spload_ok f k _ (S.usd k) S wr (by omega) (by omega) HMAY.out hld hown.zs)
            have HI := Lib.hid hI
            clear hI hown hfresh hld hulen
            go_wp2_with fail
            refine HLd.out.mono ?_
            rintro e w11 ⟨s2, g2, rfl, h11⟩
            have H11 := Lib.hid (And.intro (HI.out.keepF h11.frm) h11.sp)
            have hct := Lib.hid (spcount_any s2 g2 S w11 h11.sp)
            clear h11 HLd HI
            go_wp2_with fail
            refine hct.out.mono ?_
            rintro e w12 ⟨rfl, g12⟩
            have H12 := Lib.hid (And.intro (H11.out.1.keepF g12) (H11.out.2.keepF g12))
            have hct := Lib.hid (spcount_any s g S w12 H12.out.1.sp)
            clear g12 H11
            go_wp2_with fail
            refine hct.out.mono ?_
            rintro e w13 ⟨rfl, g13⟩
            have H13 := Lib.hid (And.intro (H12.out.1.keepF g13) (H12.out.2.keepF g13))
            clear g13 H12 hct
            go_wp2_with fail
            go_loopw [22] (fun i wz => ∃ b : Nat, f ≤ b ∧ b ≤ k ∧ i = .int .i64 (b : Nat) ∧ w13 = wz) (fun i _ => k - (intOf i).toNat)
            case atStart => exact ⟨f, Nat.le_refl _, by omega, rfl, rfl⟩
            case round =>
              obtain ⟨b, hb1, hb2, rfl, rfl⟩ := hrel
              by_cases hbn : b < k
              · have hbi : (b : Int) < (k : Int) := by omega
                have HF1 := Lib.hid (spfree_any s2 g2 S (b : Int) w13 H13.out.2)
                have HF2 := Lib.hid (spfree_any s g S (b : Int) w13 H13.out.1.sp)
                go_wp2_with fail
                refine HF1.out.mono ?_
                rintro e wy ⟨rfl, rfl⟩
                go_wp2_with fail
                refine HF2.out.mono ?_
                rintro e wy ⟨rfl, rfl⟩
                clear HF1 HF2
                go_wp2_with fail
                go_roundw
                case rel => exact ⟨b + 1, by omega, by omega, by go_num, (by first | trivial | rfl)⟩
                case measure => simp [intOf]; omega
              · obtain rfl : b = k := by omega
                have HZ := Lib.hid H13.out.1.frm
                clear H13
                go_wp2_with fail
                refine (HWK.out _).mono ?_
                rintro e w14 ⟨rfl, g14⟩
                have G14 := Lib.hid (HZ.out.trans g14)
                clear g14
                go_wp2_with fail
                go_ret
                exact ⟨rfl, G14.out⟩
  · have h200i : (200 : Int) < (A.length : Int) := by omega
    clear hA h200
    go_enter Try.func5, Try.ntmps5
    go_wp2_with fail
    refine (HWK.out _).mono ?_
    rintro e w1 ⟨rfl, g1⟩
    go_wp2_with fail
    go_ret
    exact ⟨rfl, g1⟩
end Go.Proofs.Ytdhnidmeeocajaa
