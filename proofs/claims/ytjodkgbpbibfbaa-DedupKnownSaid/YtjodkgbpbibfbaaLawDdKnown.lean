/- DedupKnown: the chapter's examples; tables that are none (mkddknown.py wrote it). No condition. -/
import Derived.Test.YtjodkgbpbibfbaaDdJ
import Derived.Test.YtjodkgbpbibfbaaShelf
namespace Go.Proofs.Ytjodkgbpbibfbaa
open Go.RowKit Go.Shelf

theorem repeatL_one16 (c : UInt8) (n : Nat) : Lib.repeatL [c] n = List.replicate n c := by
  induction n with
  | zero => rfl
  | succ n ih => simp [Lib.repeatL, ih, List.replicate_succ]

theorem xs16_any (n : Nat) (hn : n ≤ 4000) (w : World) : Calls Try.prog 29 #[.string ⟨#[120]⟩, .int .i64 (n : Nat)] w fun e w' => e = .returned (.string (bs (List.replicate n 120))) ∧ Frm (fun _ => False) w w' :=
  (Try.strings_Repeat ⟨#[120]⟩ n w (by omega) (by show 1 * _ ≤ _; omega)).mono fun e w' ⟨h1, h2⟩ => ⟨by rw [h1, ← repeatL_one16]; rfl, (Frm.ofBelow h2).mono fun k hk h => by omega⟩
def kT3 : TbV := ⟨[⟨1, [97, 98], 7, 2⟩, ⟨2, [99, 100], 8, 1⟩], 3⟩
def kT4 : TbV := ⟨[⟨2, [99, 100], 8, 1⟩], 3⟩
def kT5 : TbV := ⟨[⟨2, [99, 100], 8, 1⟩, ⟨3, [97, 98], 7, 1⟩], 4⟩
def kT6 : TbV := ⟨[⟨2, [99, 100], 8, 1⟩, ⟨3, [97, 98], 7, 1⟩, ⟨9, [101, 102], 1, 2⟩], 10⟩
def kT7 : TbV := ⟨[⟨2, [99, 100], 8, 1⟩, ⟨3, [97, 98], 7, 1⟩, ⟨9, [101, 102], 1, 2⟩], 20⟩
def kT8 : TbV := ⟨[⟨2, [99, 100], 8, 1⟩, ⟨3, [97, 98], 7, 1⟩, ⟨5, List.replicate 64 120, -1, 65535⟩, ⟨9, [101, 102], 1, 2⟩], 20⟩
def kT9 : TbV := ⟨[⟨2, [99, 100], 8, 1⟩, ⟨3, [97, 98], 7, 1⟩, ⟨5, List.replicate 64 120, -1, 65535⟩, ⟨9, [101, 102], 1, 2⟩], 4294967294⟩
def kTa : TbV := ⟨[⟨2, [99, 100], 8, 1⟩, ⟨3, [97, 98], 7, 1⟩, ⟨5, List.replicate 64 120, -1, 65535⟩, ⟨9, [101, 102], 1, 2⟩, ⟨4294967294, [108, 97, 115, 116], 0, 1⟩], 4294967295⟩
/-- A call where there is no table. -/
theorem zero_made {b : Nat} {w : World} {cs : Array Value} (h : Blk w b 64 cs) (h0 : cs[0]? = some (.pointer none)) : ∀ W, Frm (fun _ => False) w W → Calls Try.prog 35 #[.pointer (some ⟨b, 0, none⟩)] W fun e w' => e = .returned (.bool false) ∧ W = w' :=
  fun W f => tmade_zero b W ((h.keep f (fun h => h)).cell 0 h0)
theorem nil_made {w : World} : ∀ W, Frm (fun _ => False) w W → Calls Try.prog 35 #[.pointer none] W fun e w' => e = .returned (.bool false) ∧ W = w' := fun W _ => tmade_nil W
set_option maxRecDepth 100000 in
set_option maxHeartbeats 8000000 in
theorem dedupKnown_any (w : World) : Calls Try.prog 5 #[] w fun e w' => e = .returned (.bool true) ∧ Frm (fun _ => False) w w' := by
  have hn : w.heap.size ≤ w.heap.size := Nat.le_refl _
  have HN := Lib.hid hn
  clear hn
  go_enter Try.func5, Try.ntmps5
  go_wp2_with fail
  refine (u_new (n0 := w.heap.size) w w (Frm.refl _ _) HN.out).mono ?_
  rintro e w1 ⟨b, rfl, h1⟩
  have H1 := Lib.hid h1
  clear h1
  go_wp2_with fail
  refine (works16_any w1).mono ?_
  rintro e w2 ⟨rfl, f2⟩
  have H2 := Lib.hid (H1.out.keepF f2)
  clear H1 f2
  go_wp2_with fail
  refine (u_adds (T' := kT1) (s := [97, 98]) (z := 7) (id := 1) (by decide +kernel) (by decide) (by decide) (by decide) HN.out H2.out).mono ?_
  rintro e w3 ⟨rfl, h3⟩
  have H3 := Lib.hid h3
  clear h3 H2
  go_wp2_with fail
  refine (u_adds (T' := kT2) (s := [99, 100]) (z := 8) (id := 2) (by decide +kernel) (by decide) (by decide) (by decide) HN.out H3.out).mono ?_
  rintro e w4 ⟨rfl, h4⟩
  have H4 := Lib.hid h4
  clear h4 H3
  go_wp2_with fail
  refine (u_hold (T' := kT3) (i := 1) (er := 0) (by decide +kernel) (by decide) (by decide) HN.out H4.out).mono ?_
  rintro e w5 ⟨rfl, h5⟩
  have H5 := Lib.hid h5
  clear h5 H4
  go_wp2_with fail
  refine (u_rel (T' := kT2) (i := 1) (last := false) (er := 0) (by decide +kernel) (by decide) (by decide) HN.out H5.out).mono ?_
  rintro e w6 ⟨rfl, h6⟩
  have H6 := Lib.hid h6
  clear h6 H5
  go_wp2_with fail
  refine (u_rel (T' := kT4) (i := 1) (last := true) (er := 0) (by decide +kernel) (by decide) (by decide) HN.out H6.out).mono ?_
  rintro e w7 ⟨rfl, h7⟩
  have H7 := Lib.hid h7
  clear h7 H6
  go_wp2_with fail
  refine (u_rel (T' := kT4) (i := 1) (last := false) (er := 5) (by decide +kernel) (by decide) (by decide) HN.out H7.out).mono ?_
  rintro e w8 ⟨rfl, h8⟩
  have H8 := Lib.hid h8
  clear h8 H7
  go_wp2_with fail
  refine (u_finds (s := [97, 98]) (i := 0) (by decide +kernel) (by decide) (by decide) H8.out).mono ?_
  rintro e w9 ⟨rfl, h9⟩
  have H9 := Lib.hid h9
  clear h9 H8
  go_wp2_with fail
  refine (u_next (k := 3) rfl H9.out).mono ?_
  rintro e w10 ⟨rfl, h10⟩
  have H10 := Lib.hid h10
  clear h10 H9
  go_wp2_with fail
  refine (u_hold (T' := kT4) (i := 1) (er := 5) (by decide +kernel) (by decide) (by decide) HN.out H10.out).mono ?_
  rintro e w11 ⟨rfl, h11⟩
  have H11 := Lib.hid h11
  clear h11 H10
  go_wp2_with fail
  refine (u_adds (T' := kT5) (s := [97, 98]) (z := 7) (id := 3) (by decide +kernel) (by decide) (by decide) (by decide) HN.out H11.out).mono ?_
  rintro e w12 ⟨rfl, h12⟩
  have H12 := Lib.hid h12
  clear h12 H11
  go_wp2_with fail
  refine (u_load (T' := kT6) (i := 9) (s := [101, 102]) (z := 1) (q := 2) (er := 0) (by decide +kernel) (by decide) (by decide +kernel) (by decide) (by decide) (by decide) HN.out H12.out).mono ?_
  rintro e w13 ⟨rfl, h13⟩
  have H13 := Lib.hid h13
  clear h13 H12
  go_wp2_with fail
  refine (u_load (T' := kT6) (i := 9) (s := [103, 104]) (z := 1) (q := 1) (er := 6) (by decide +kernel) (by decide) (by decide +kernel) (by decide) (by decide) (by decide) HN.out H13.out).mono ?_
  rintro e w14 ⟨rfl, h14⟩
  have H14 := Lib.hid h14
  clear h14 H13
  go_wp2_with fail
  refine (u_load (T' := kT6) (i := 4) (s := [101, 102]) (z := 1) (q := 1) (er := 6) (by decide +kernel) (by decide) (by decide +kernel) (by decide) (by decide) (by decide) HN.out H14.out).mono ?_
  rintro e w15 ⟨rfl, h15⟩
  have H15 := Lib.hid h15
  clear h15 H14
  go_wp2_with fail
  refine (u_next (k := 10) rfl H15.out).mono ?_
  rintro e w16 ⟨rfl, h16⟩
  have H16 := Lib.hid h16
  clear h16 H15
  go_wp2_with fail
  refine (u_refused (T' := kT6) (s := []) (er := 4) (by decide +kernel) (by decide +kernel) (by decide) HN.out H16.out).mono ?_
  rintro e w17 ⟨rfl, h17⟩
  have H17 := Lib.hid h17
  clear h17 H16
  go_wp2_with fail
  refine (xs16_any 65 (by decide) w17).mono ?_
  rintro e w18 ⟨rfl, h18⟩
  have H18 := Lib.hid (H17.out.keepF h18)
  clear h18 H17
  go_wp2_with fail
  refine (u_refused (T' := kT6) (s := (List.replicate 65 120)) (er := 4) (by decide +kernel) (by decide +kernel) (by decide) HN.out H18.out).mono ?_
  rintro e w19 ⟨rfl, h19⟩
  have H19 := Lib.hid h19
  clear h19 H18
  go_wp2_with fail
  refine (u_load (T' := kT6) (i := 0) (s := [120]) (z := 0) (q := 1) (er := 2) (by decide +kernel) (by decide) (by decide +kernel) (by decide) (by decide) (by decide) HN.out H19.out).mono ?_
  rintro e w20 ⟨rfl, h20⟩
  have H20 := Lib.hid h20
  clear h20 H19
  go_wp2_with fail
  refine (u_load (T' := kT6) (i := 4294967295) (s := [120]) (z := 0) (q := 1) (er := 2) (by decide +kernel) (by decide) (by decide +kernel) (by decide) (by decide) (by decide) HN.out H20.out).mono ?_
  rintro e w21 ⟨rfl, h21⟩
  have H21 := Lib.hid h21
  clear h21 H20
  go_wp2_with fail
  refine (u_load (T' := kT6) (i := 5) (s := [120]) (z := 0) (q := 0) (er := 4) (by decide +kernel) (by decide) (by decide +kernel) (by decide) (by decide) (by decide) HN.out H21.out).mono ?_
  rintro e w22 ⟨rfl, h22⟩
  have H22 := Lib.hid h22
  clear h22 H21
  go_wp2_with fail
  refine (u_load (T' := kT6) (i := 5) (s := [120]) (z := 0) (q := 65536) (er := 4) (by decide +kernel) (by decide) (by decide +kernel) (by decide) (by decide) (by decide) HN.out H22.out).mono ?_
  rintro e w23 ⟨rfl, h23⟩
  have H23 := Lib.hid h23
  clear h23 H22
  go_wp2_with fail
  refine (u_load (T' := kT6) (i := 9) (s := [101, 102]) (z := 0) (q := 0) (er := 4) (by decide +kernel) (by decide) (by decide +kernel) (by decide) (by decide) (by decide) HN.out H23.out).mono ?_
  rintro e w24 ⟨rfl, h24⟩
  have H24 := Lib.hid h24
  clear h24 H23
  go_wp2_with fail
  refine (u_skip (T' := kT6) (i := 5) (by decide +kernel) (by decide) HN.out H24.out).mono ?_
  rintro e w25 ⟨rfl, h25⟩
  have H25 := Lib.hid h25
  clear h25 H24
  go_wp2_with fail
  refine (u_next (k := 10) rfl H25.out).mono ?_
  rintro e w26 ⟨rfl, h26⟩
  have H26 := Lib.hid h26
  clear h26 H25
  go_wp2_with fail
  refine (u_skip (T' := kT7) (i := 20) (by decide +kernel) (by decide) HN.out H26.out).mono ?_
  rintro e w27 ⟨rfl, h27⟩
  have H27 := Lib.hid h27
  clear h27 H26
  go_wp2_with fail
  refine ((show Calls Try.prog 30 #[.pointer (some ⟨b, 0, none⟩), .int .u32 9] w27 (fun e w' => e = .returned (.tuple #[.string ⟨#[101, 102]⟩, .int .i64 1, .int .i64 2, .bool true]) ∧ TabU w.heap.size w w' b kT7) from u_get (i := 9) (x := ⟨9, [101, 102], 1, 2⟩) (by decide +kernel) (by decide) H27.out)).mono ?_
  rintro e w28 ⟨rfl, h28⟩
  have H28 := Lib.hid h28
  clear h28 H27
  go_wp2_with fail
  refine (u_next (k := 20) rfl H28.out).mono ?_
  rintro e w29 ⟨rfl, h29⟩
  have H29 := Lib.hid h29
  clear h29 H28
  go_wp2_with fail
  refine (u_count (k := 3) rfl H29.out).mono ?_
  rintro e w30 ⟨rfl, h30⟩
  have H30 := Lib.hid h30
  clear h30 H29
  go_wp2_with fail
  refine (xs16_any 64 (by decide) w30).mono ?_
  rintro e w31 ⟨rfl, h31⟩
  have H31 := Lib.hid (H30.out.keepF h31)
  clear h31 H30
  go_wp2_with fail
  refine (u_load (T' := kT8) (i := 5) (s := (List.replicate 64 120)) (z := (-1)) (q := 65535) (er := 0) (by decide +kernel) (by decide) (by decide +kernel) (by decide) (by decide) (by decide) HN.out H31.out).mono ?_
  rintro e w32 ⟨rfl, h32⟩
  have H32 := Lib.hid h32
  clear h32 H31
  go_wp2_with fail
  refine (u_hold (T' := kT8) (i := 5) (er := 12) (by decide +kernel) (by decide) (by decide) HN.out H32.out).mono ?_
  rintro e w33 ⟨rfl, h33⟩
  have H33 := Lib.hid h33
  clear h33 H32
  go_wp2_with fail
  refine (u_skip (T' := kT9) (i := 4294967294) (by decide +kernel) (by decide) HN.out H33.out).mono ?_
  rintro e w34 ⟨rfl, h34⟩
  have H34 := Lib.hid h34
  clear h34 H33
  go_wp2_with fail
  refine (u_adds (T' := kTa) (s := [108, 97, 115, 116]) (z := 0) (id := 4294967294) (by decide +kernel) (by decide) (by decide) (by decide) HN.out H34.out).mono ?_
  rintro e w35 ⟨rfl, h35⟩
  have H35 := Lib.hid h35
  clear h35 H34
  go_wp2_with fail
  refine (u_refused (T' := kTa) (s := [110, 111, 110, 101]) (er := 12) (by decide +kernel) (by decide +kernel) (by decide) HN.out H35.out).mono ?_
  rintro e w36 ⟨rfl, h36⟩
  have H36 := Lib.hid h36
  clear h36 H35
  have F0 := Lib.hid (H36.out.frm)
  have bz := Blk.alloc w36 64 #[.pointer none, .map none, .pointer none, .int .u32 0]
  have fz := (Frm.refl (fun _ => False) w36).alloc (.cells #[.pointer none, .map none, .pointer none, .int .u32 0] 64)
  have HZ0 := Lib.hid (And.intro bz fz)
  clear bz fz H36
  go_wp2_with fail
  refine (refused_any (.pointer none) [97] 0 1 1 (fun w' => Frm (fun _ => False) _ w') _ ((tadd_none _ _ (tmade_nil _)).mono (by rintro e w' ⟨h, rfl⟩; exact ⟨h, Frm.refl _ _⟩))).mono ?_
  rintro e z1 ⟨rfl, g1⟩
  have HZ1 := Lib.hid (And.intro (HZ0.out.1.keep g1 (fun h => h)) (HZ0.out.2.trans g1))
  clear g1 HZ0
  go_wp2_with fail
  refine (tload_none _ _ _ _ (zero_made HZ1.out.1 rfl _ (Frm.refl _ _))).mono ?_
  rintro e z2 ⟨rfl, rfl⟩
  go_wp2_with fail
  refine (thold_none _ nil_made).mono ?_
  rintro e z3 ⟨rfl, g3⟩
  have HZ3 := Lib.hid (And.intro (HZ1.out.1.keep g3 (fun h => h)) (HZ1.out.2.trans g3))
  clear g3 HZ1
  go_wp2_with fail
  refine (releases_any _ 1 1 1 false false (fun w' => Frm (fun _ => False) z3 w') z3 (trel_none _ (zero_made HZ3.out.1 rfl))).mono ?_
  rintro e z4 ⟨rfl, g4⟩
  have HZ4 := Lib.hid (And.intro (HZ3.out.1.keep g4 (fun h => h)) (HZ3.out.2.trans g4))
  clear g4 HZ3
  go_wp2_with fail
  refine (finds_any (.pointer none) [97] 0 0 false (fun w' => Frm (fun _ => False) z4 w') z4 ((tfind_none _ (tmade_nil _)).mono (by rintro e w' ⟨h, rfl⟩; exact ⟨h, Frm.refl _ _⟩))).mono ?_
  rintro e z5 ⟨rfl, g5⟩
  have HZ5 := Lib.hid (And.intro (HZ4.out.1.keep g5 (fun h => h)) (HZ4.out.2.trans g5))
  clear g5 HZ4
  go_wp2_with fail
  refine (tcount_none (zero_made HZ5.out.1 rfl _ (Frm.refl _ _))).mono ?_
  rintro e z6 ⟨rfl, rfl⟩
  go_wp2_with fail
  refine (tnext_none (tmade_nil _)).mono ?_
  rintro e z6 ⟨rfl, rfl⟩
  go_wp2_with fail
  refine (tcopy_none (zero_made HZ5.out.1 rfl)).mono ?_
  rintro e z7 ⟨rfl, g7⟩
  go_wp2_with fail
  refine (works16_any z7).mono ?_
  rintro e z8 ⟨rfl, g8⟩
  go_wp2_with fail
  go_ret
  exact ⟨rfl, (F0.out.mono (Y := fun _ => False) fun k hk e => by omega).trans (((HZ5.out.2.trans g7).trans g8).mono fun _ _ h => h)⟩
end Go.Proofs.Ytjodkgbpbibfbaa
