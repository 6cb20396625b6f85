/- DeviceKnown answers true: the chapter's examples; devices that are none. No condition. -/
import Derived.Test.YtnhihadnaiaojaaDvN
import Derived.Test.YtnhihadnaiaojaaDvP
namespace Go.Proofs.Ytnhihadnaiaojaa
open Go.RowKit Go.Shelf

theorem left_at (q : Int) (r : List UInt8) (hr : (D5.left [q] 5).take 3 = r) (hq : Z64 q) (W : World) (m : Nat) (hm : W.heap.size = m) :
    Calls Try.prog 23 #[.slice (some ⟨m, 0, none⟩) 1 1] (W.alloc (.cells #[.int .i64 q] 3)) fun e w' => e = .returned (.string (bs r)) ∧ Frm (fun _ => False) W w' := by
  rw [← hm]
  exact left_one q r hr hq W
theorem new_bad (n : Int) (h : ¬ (256 ≤ n ∧ n ≤ 2048)) (W : World) : Calls Try.prog 8 #[.int .i64 n] W fun e w' => e = .returned (.pointer none) ∧ W = w' :=
  (new_any n W).mono fun e w' hN => by
    unfold NewTo at hN
    rw [if_neg h] at hN
    exact hN
theorem new_good (n : Int) (h : 256 ≤ n ∧ n ≤ 2048) (W : World) : Calls Try.prog 8 #[.int .i64 n] W fun e w' => ∃ v, e = .returned v ∧ NewDev (DV.new n.toNat) W v w' :=
  (new_any n W).mono fun e w' hN => by
    unfold NewTo at hN
    rw [if_pos h] at hN
    exact hN
theorem repeatL_one (c : UInt8) (n : Nat) : Lib.repeatL [c] n = List.replicate n c := by
  induction n with
  | zero => rfl
  | succ n ih => simp [Lib.repeatL, ih, List.replicate_succ]
theorem xs_any (w : World) : Calls Try.prog 24 #[.string ⟨#[120]⟩, .int .i64 65] w fun e w' => e = .returned (.string (bs (List.replicate 65 120))) ∧ Frm (fun _ => False) w w' :=
  (Try.strings_Repeat ⟨#[120]⟩ 65 w (by decide) (by decide)).mono fun e w' ⟨h1, h2⟩ => ⟨by rw [h1, ← repeatL_one]; rfl, (Frm.ofBelow h2).mono fun k hk h => by omega⟩
set_option maxRecDepth 100000 in
set_option maxHeartbeats 16000000 in
theorem deviceKnown_any (w : World) : Calls Try.prog 4 #[] w fun e w' => e = .returned (.bool true) ∧ Frm (fun _ => False) w w' := by
  have HG := Lib.hid (given_any w)
  have hmk : ∀ W : World, (Instr.makeSlice 50 (.int .i64 64) (.int .i64 64)).run Try.prog W = .ok (.slice (some ⟨W.heap.size, 0, none⟩) 64 64) (W.alloc (.cells (u8s zb).toArray 5)) := fun W => run_makeZ 64 (by decide) W
  have hcv : ∀ W : World, (convert 50 9 (.slice (some ⟨W.heap.size, 0, none⟩) 64 64)).run Try.prog (W.alloc (.cells (u8s zb).toArray 5)) = .ok (.string (bs zb)) (W.alloc (.cells (u8s zb).toArray 5)) := fun W => run_textZ 64 W
  have hs0 : ((bs [0, 0, 0]).toList == [0, 0, 0]) = true := by rw [bs_toList]; rfl
  have hs1 : ((bs [97, 98, 0]).toList == [97, 98, 0]) = true := by rw [bs_toList]; rfl
  go_enter Try.func4, Try.ntmps4
  go_wp2_with fail
  refine HG.out.mono ?_
  rintro e w1 ⟨_, rfl, b, f, x, rfl, hd, hb, hf, hx, g1⟩
  have HD := Lib.hid (And.intro hd g1)
  clear hd g1 HG
  have HC := Lib.hid (firm_any b f x D5 5 w1 HD.out.1 (by unfold Z64; decide))
  go_wp2_with fail
  refine HC.out.mono ?_
  rintro e w2 ⟨rfl, g2⟩
  have HD := Lib.hid (And.intro (HD.out.1.keepF g2) (HD.out.2.trans g2))
  clear g2
  clear HC
  have e0 : (if D5.bad 5 then [] else D5.F (5 : Int).toNat) = zb := rfl
  rw [e0]
  clear e0
  have ga : Frm (fun _ => False) w2 (w2.alloc (.cells (u8s zb).toArray 5)) := (Frm.refl _ w2).alloc _
  have HC := Lib.hid (left_at 66 [0, 0, 0] rfl (by unfold Z64; decide) (w2.alloc (.cells (u8s zb).toArray 5)) (w2.heap.size + 1) (by simp))
  go_wp2_with fail
  refine HC.out.mono ?_
  rintro e w3 ⟨rfl, g3⟩
  have gb := ga.trans g3
  have HD := Lib.hid (And.intro (HD.out.1.keepF gb) (HD.out.2.trans gb))
  clear HC ga gb g3
  have HC := Lib.hid (fun W => left_one (-1) [97, 98, 0] rfl (by unfold Z64; decide) W)
  go_wp2_with fail
  refine (HC.out _).mono ?_
  rintro e w4 ⟨rfl, g4⟩
  have HD := Lib.hid (And.intro (HD.out.1.keepF g4) (HD.out.2.trans g4))
  clear HC g4
  have HC := Lib.hid (fun W => left_one 64 [97, 98, 0] rfl (by unfold Z64; decide) W)
  go_wp2_with fail
  refine (HC.out _).mono ?_
  rintro e w5 ⟨rfl, g5⟩
  have HD := Lib.hid (And.intro (HD.out.1.keepF g5) (HD.out.2.trans g5))
  clear HC g5
  have HC := Lib.hid (fun W => left_one 65 [97, 98, 0] rfl (by unfold Z64; decide) W)
  go_wp2_with fail
  refine (HC.out _).mono ?_
  rintro e w6 ⟨rfl, g6⟩
  have HD := Lib.hid (And.intro (HD.out.1.keepF g6) (HD.out.2.trans g6))
  clear HC g6
  have HC := Lib.hid (fresh_any b f x (D5) w6 HD.out.1)
  go_wp2_with fail
  refine HC.out.mono ?_
  rintro e w7 ⟨u, rfl, hu, _, g7⟩
  obtain ⟨au, cu, rfl, hc1, hc2⟩ := hu.zs.slice
  rw [show (D5.fresh.map Int.ofNat).length = 1 from rfl] at hc1 hu ⊢
  have HD := Lib.hid (And.intro (HD.out.1.keepF g7) (HD.out.2.trans g7))
  clear HC g7 hu
  have HC := Lib.hid (fresh_any b f x (D5) w7 HD.out.1)
  go_wp2_with fail
  refine HC.out.mono ?_
  rintro e w8 ⟨u, rfl, hu, _, g8⟩
  obtain ⟨au, cu, rfl, hc1, hc2⟩ := hu.zs.slice
  rw [show (D5.fresh.map Int.ofNat).length = 1 from rfl] at hc1 hu ⊢
  obtain ⟨gz, oz, rfl, _, cz⟩ := hu.zs.at 0 (by decide)
  have cz : w8.cell? ⟨gz, oz + 0, none⟩ = some (.int .i64 5) := cz
  rw [Nat.add_zero] at cz
  have HD := Lib.hid (And.intro (HD.out.1.keepF g8) (HD.out.2.trans g8))
  clear HC g8 hu
  have HC := Lib.hid (blocks_any b f x D5 w8 HD.out.1)
  go_wp2_with fail
  refine HC.out.mono ?_
  rintro e w_ ⟨rfl, rfl⟩
  clear HC
  rw [show D5.n = 256 from rfl]
  have hfl := flush_any b f x (D5) w8 HD.out.1
  rw [show (D5).fresh.length = 1 from rfl] at hfl
  have HC := Lib.hid hfl
  clear hfl
  go_wp2_with fail
  refine HC.out.mono ?_
  rintro e w9 ⟨rfl, hd, g9⟩
  have HD := Lib.hid (And.intro hd (HD.out.2.addTwo g9 hf hx))
  clear hd HC g9
  have hfl := flush_any b f x (D5.flush) w9 HD.out.1
  rw [show (D5.flush).fresh.length = 0 from by rw [DV.flush_fresh]; rfl] at hfl
  have HC := Lib.hid hfl
  clear hfl
  go_wp2_with fail
  refine HC.out.mono ?_
  rintro e w10 ⟨rfl, hd, g10⟩
  have HD := Lib.hid (And.intro hd (HD.out.2.addTwo g10 hf hx))
  clear hd HC g10
  have HC := Lib.hid (fresh_any b f x (D5.flush.flush) w10 HD.out.1)
  go_wp2_with fail
  refine HC.out.mono ?_
  rintro e w11 ⟨u, rfl, hu, _, g11⟩
  rw [show (D5.flush.flush).fresh = [] from DV.flush_fresh _] at hu
  obtain ⟨au, cu, rfl, hc1, hc2⟩ := hu.zs.slice
  have HD := Lib.hid (And.intro (HD.out.1.keepF g11) (HD.out.2.trans g11))
  clear HC g11 hu
  have hwr := write_any b f x D5.flush.flush 256 [97] w11 HD.out.1 (by unfold Z64; decide) (by decide)
  rw [show DV.writeE D5.flush.flush 256 [97] = 2 from rfl, show DV.writeTo D5.flush.flush 256 [97] = D5.flush.flush from rfl] at hwr
  have HC := Lib.hid hwr
  clear hwr
  go_wp2_with fail
  refine HC.out.mono ?_
  rintro e w12 ⟨rfl, hd, g12⟩
  have HD := Lib.hid (And.intro hd (HD.out.2.toNew g12 hx))
  clear hd HC g12
  have hwr := write_any b f x D5.flush.flush (-1) [97] w12 HD.out.1 (by unfold Z64; decide) (by decide)
  rw [show DV.writeE D5.flush.flush (-1) [97] = 2 from rfl, show DV.writeTo D5.flush.flush (-1) [97] = D5.flush.flush from rfl] at hwr
  have HC := Lib.hid hwr
  clear hwr
  go_wp2_with fail
  refine HC.out.mono ?_
  rintro e w13 ⟨rfl, hd, g13⟩
  have HD := Lib.hid (And.intro hd (HD.out.2.toNew g13 hx))
  clear hd HC g13
  have HC := Lib.hid (fun W => xs_any W)
  go_wp2_with fail
  refine (HC.out _).mono ?_
  rintro e w14 ⟨rfl, g14⟩
  have HD := Lib.hid (And.intro (HD.out.1.keepF g14) (HD.out.2.trans g14))
  clear HC g14
  have hwr := write_any b f x D5.flush.flush 5 (List.replicate 65 120) w14 HD.out.1 (by unfold Z64; decide) (by decide)
  rw [show DV.writeE D5.flush.flush 5 (List.replicate 65 120) = 3 from rfl, show DV.writeTo D5.flush.flush 5 (List.replicate 65 120) = D5.flush.flush from rfl] at hwr
  have HC := Lib.hid hwr
  clear hwr
  go_wp2_with fail
  refine HC.out.mono ?_
  rintro e w15 ⟨rfl, hd, g15⟩
  have HD := Lib.hid (And.intro hd (HD.out.2.toNew g15 hx))
  clear hd HC g15
  have hbg := begins_any b f x D5.flush.flush [97, 98, 0] w15 HD.out.1
  rw [show decide ((DV.read D5.flush.flush 5).take 3 = [97, 98, 0]) = true from rfl] at hbg
  have HC := Lib.hid hbg
  clear hbg
  go_wp2_with fail
  refine HC.out.mono ?_
  rintro e w16 ⟨rfl, g16⟩
  have HD := Lib.hid (And.intro (HD.out.1.keepF g16) (HD.out.2.trans g16))
  clear HC g16
  have HC := Lib.hid (fun W => new_bad 255 (by decide) W)
  go_wp2_with fail
  refine (HC.out _).mono ?_
  rintro e w_ ⟨rfl, rfl⟩
  clear HC
  have HC := Lib.hid (fun W => new_bad 2049 (by decide) W)
  go_wp2_with fail
  refine (HC.out _).mono ?_
  rintro e w_ ⟨rfl, rfl⟩
  clear HC
  have HC := Lib.hid (fun W => new_good 2048 (by decide) W)
  go_wp2_with fail
  refine (HC.out _).mono ?_
  rintro e w17 ⟨_, rfl, bn, _, _, rfl, _, _, _, _, g17⟩
  have HD := Lib.hid (And.intro (HD.out.1.keepF g17) (HD.out.2.trans g17))
  clear HC g17
  have hrd := read_any b f x D5.flush.flush 256 w17 HD.out.1 (by unfold Z64; decide)
  rw [show DV.bad D5.flush.flush 256 = true from rfl] at hrd
  have HC := Lib.hid hrd
  clear hrd
  go_wp2_with fail
  refine HC.out.mono ?_
  rintro e w18 ⟨rfl, g18⟩
  have HD := Lib.hid (And.intro (HD.out.1.keepF g18) (HD.out.2.trans g18))
  clear HC g18
  have HNc := Lib.hid (fun v W => crash_no (.pointer none) v W (noDev_nil W))
  go_wp2_with fail
  refine (HNc.out _ _).mono ?_
  rintro e w_ ⟨rfl, rfl⟩
  clear HNc
  have bz := Blk.alloc w18 56 #[.pointer none, .int .i64 0, .map none, .map none]
  have gz : Frm (fun _ => False) w18 (w18.alloc (.cells #[.pointer none, .int .i64 0, .map none, .map none] 56)) := (Frm.refl _ _).alloc _
  have HD := Lib.hid (And.intro (HD.out.1.keepF gz) (HD.out.2.trans gz))
  obtain ⟨z, hz⟩ : ∃ z, w18.heap.size = z := ⟨_, rfl⟩
  rw [hz] at bz ⊢
  obtain ⟨wz, hwz⟩ : ∃ wz, w18.alloc (.cells #[.pointer none, .int .i64 0, .map none, .map none] 56) = wz := ⟨_, rfl⟩
  rw [hwz] at bz HD ⊢
  have BZ := Lib.hid bz
  clear bz gz hz hwz
  have HZc := Lib.hid (fun v W (g : Frm (fun _ => False) wz W) => crash_no (.pointer (some ⟨z, 0, none⟩)) v W (dmade_zero z W ((BZ.out.keep g (fun h => h)).cell 0 rfl)))
  go_wp2_with fail
  refine (HZc.out _ _ ((Frm.refl _ wz).alloc _)).mono ?_
  rintro e w_ ⟨rfl, rfl⟩
  clear HZc
  have gs : Frm (fun _ => False) wz (wz.alloc (.cells #[.int .i64 1] 3)) := (Frm.refl _ wz).alloc _
  have HD := Lib.hid (And.intro (HD.out.1.keepF gs) (HD.out.2.trans gs))
  have bz := BZ.out.keep gs (fun h => h)
  obtain ⟨wy, hwy⟩ : ∃ wy, wz.alloc (.cells #[.int .i64 1] 3) = wy := ⟨_, rfl⟩
  rw [hwy] at bz HD ⊢
  have BZ := Lib.hid bz
  clear bz gs hwy
  have HNz : Hid (NoDev (.pointer (some ⟨z, 0, none⟩)) wy) := Lib.hid (dmade_zero z wy (BZ.out.cell 0 rfl))
  have HNn : Hid (NoDev (.pointer none) wy) := Lib.hid (noDev_nil wy)
  have HC := Lib.hid (read_no (.pointer (some ⟨z, 0, none⟩)) 0 wy HNz.out)
  go_wp2_with fail
  refine HC.out.mono ?_
  rintro e w_ ⟨rfl, rfl⟩
  clear HC
  have HC := Lib.hid (firm_no (.pointer none) 0 wy HNn.out)
  go_wp2_with fail
  refine HC.out.mono ?_
  rintro e w_ ⟨rfl, rfl⟩
  clear HC
  have HC := Lib.hid (write_no (.pointer none) 0 ⟨#[97]⟩ wy HNn.out)
  go_wp2_with fail
  refine HC.out.mono ?_
  rintro e w_ ⟨rfl, rfl⟩
  clear HC
  have HC := Lib.hid (flush_no (.pointer none) wy HNn.out)
  go_wp2_with fail
  refine HC.out.mono ?_
  rintro e w_ ⟨rfl, rfl⟩
  clear HC
  have HC := Lib.hid (blocks_no (.pointer (some ⟨z, 0, none⟩)) wy HNz.out)
  go_wp2_with fail
  refine HC.out.mono ?_
  rintro e w_ ⟨rfl, rfl⟩
  clear HC
  have HC := Lib.hid (fresh_no (.pointer none) wy HNn.out)
  go_wp2_with fail
  refine HC.out.mono ?_
  rintro e w_ ⟨rfl, rfl⟩
  clear HC
  have HC := Lib.hid (copy_no (.pointer none) wy HNn.out)
  go_wp2_with fail
  refine HC.out.mono ?_
  rintro e w_ ⟨rfl, rfl⟩
  clear HC
  have HC := Lib.hid (copy_no (.pointer (some ⟨z, 0, none⟩)) wy HNz.out)
  go_wp2_with fail
  refine HC.out.mono ?_
  rintro e w_ ⟨rfl, rfl⟩
  clear HC
  have HC := Lib.hid awake_any
  go_wp2_with fail
  refine (HC.out _).mono ?_
  rintro e wl ⟨rfl, gl⟩
  go_wp2_with fail
  go_ret
  exact ⟨rfl, HD.out.2.trans gl⟩
end Go.Proofs.Ytnhihadnaiaojaa
