/- The document's own log block. No condition. -/
import Derived.Test.YtdhnidmeeocajaaGreatRgPf
import Derived.Test.YtdhnidmeeocajaaGreatLate
namespace Go.Proofs.YtdhnidmeeocajaaGreat
open Go.RowKit Go.Shelf

def rblkM : List Nat := [1, 2, 6, 8, 24, 56, 126, 254, 511, 512, 2047, 2048, 6144, 14336, 30720, 63488, 131071, 131072, 524287, 1048575]
def rblkR (flag n m : Nat) (b2 p2 z s : List UInt8) (t19 t21 t27 t29 : ByteArray) : List ((Nat → Value) → World → Prop) := [
  fun val _ => val 0 = .string (bs b2),
  fun val _ => val 1 = .int .i64 (flag : Nat),
  fun val _ => val 2 = .int .u8 (flag : Nat),
  fun val _ => val 3 = .string (bs s),
  fun val _ => val 4 = .int .i64 (n : Nat),
  fun val _ => val 5 = .int .u8 (n : Nat),
  fun val W => ∃ g, (val 6) = .slice (some ⟨g, 0, none⟩) 2 2 ∧ Blk W g 5 #[.int .u8 (flag : Nat), .int .u8 (n : Nat)],
  fun val _ => val 7 = .string (bs p2),
  fun val _ => val 8 = .string t19,
  fun val _ => val 9 = .string (bs s),
  fun val _ => val 10 = .string t21,
  fun val _ => val 11 = .string (bs s),
  fun val _ => val 12 = .int .i64 (n : Nat),
  fun val _ => val 13 = .int .i64 (m : Nat),
  fun val W => ∃ g, (val 14) = .slice (some ⟨g, 0, none⟩) m m ∧ Blk W g 5 (u8s z).toArray,
  fun val _ => val 15 = .string (bs z),
  fun val _ => val 16 = .string t27,
  fun val _ => val 17 = .string (bs b2),
  fun val _ => val 18 = .string t29]

set_option maxRecDepth 100000 in
set_option maxHeartbeats 4000000 in
theorem refblock_any (i flag : Nat) (s : List UInt8) (w : World) (hi : i < 65536) (hf : flag < 256) (hs : s.length ≤ 58) :
    Calls Tryz.prog 80 #[.int .i64 (i : Nat), .int .i64 (flag : Nat), .string (bs s)] w fun e w' => e = .returned (.string (bs (logB i flag s))) ∧ Frm (fun _ => False) w w' := by
  have HF := Lib.hid (refFixed_any i 2 (by omega) (by decide) w)
  have hl := beB_len 2 i
  obtain ⟨n, hn⟩ : ∃ n, s.length = n := ⟨_, rfl⟩
  have hx : bs (beB 2 i) ++ bs [UInt8.ofNat flag, UInt8.ofNat n] ++ bs s ++ bs (List.replicate (58 - n) 0) ++ bs (beB 2 i) = bs (logB i flag s) := by
    rw [bs_append, bs_append, bs_append, bs_append]; unfold logB nul; rw [hn, beB_one, beB_one]; simp [List.append_assoc]
  obtain ⟨b2, hb2⟩ : ∃ b2, beB 2 i = b2 := ⟨_, rfl⟩
  obtain ⟨p2, hp2⟩ : ∃ p2, [UInt8.ofNat flag, UInt8.ofNat n] = p2 := ⟨_, rfl⟩
  obtain ⟨m, hm⟩ : ∃ m, 58 - n = m := ⟨_, rfl⟩
  obtain ⟨z, hz⟩ : ∃ z, List.replicate m (0 : UInt8) = z := ⟨_, rfl⟩
  have hzl : z.length = m := by rw [← hz]; exact List.length_replicate
  have hpl : p2.length = 2 := by rw [← hp2]; rfl
  rw [hb2] at HF hl hx
  rw [hm, hz, hp2] at hx
  rw [hn] at hs
  have HM : Hid (∀ W : World, (Instr.makeSlice 77 (.int .i64 (m : Nat)) (.int .i64 (m : Nat))).run Tryz.prog W = .ok (.slice (some ⟨W.heap.size, 0, none⟩) m m) (W.alloc (.cells (u8s z).toArray 5))) := Lib.hid fun W => by rw [← hz]; exact run_makeZ m (by omega) W
  have HQ : Hid (∀ (W : World) (g : Nat), Blk W g 5 (u8s z).toArray → (convert 77 9 (.slice (some ⟨g, 0, none⟩) m m)).run Tryz.prog W = .ok (.string (bs z)) W) := Lib.hid fun W g hb =>
    run_text_at Tryz.underlying77 Tryz.underlying9 Tryz.underlying5 W g m m z hzl fun j hj => by
      rw [u8s_get z j (by omega)]
      exact hb.cell j (by rw [List.getElem?_toArray]; exact u8s_get z j (by omega))
  have HP : Hid (∀ (W : World) (g : Nat), Blk W g 5 #[.int .u8 (flag : Nat), .int .u8 (n : Nat)] → (convert 77 9 (.slice (some ⟨g, 0, none⟩) 2 2)).run Tryz.prog W = .ok (.string (bs p2)) W) := Lib.hid fun W g hb =>
    run_text_at Tryz.underlying77 Tryz.underlying9 Tryz.underlying5 W g 2 2 p2 hpl fun j hj => by
      have e1 : (UInt8.ofNat flag).toNat = flag := by simp; omega
      have e2 : (UInt8.ofNat n).toNat = n := by simp; omega
      subst hp2
      rcases (by omega : j = 0 ∨ j = 1) with rfl | rfl
      · rw [hb.cell 0 rfl]; simp [u8s]; omega
      · rw [hb.cell 1 rfl]; simp [u8s]; omega
  have HW := Lib.hid (And.intro (show IntKind.u8.wrap (flag : Int) = (flag : Int) from IntWalk.u8_in _ (by omega)) (And.intro (show IntKind.u8.wrap (n : Int) = (n : Int) from IntWalk.u8_in _ (by omega)) (show IntKind.i64.wrap (58 - (n : Int)) = (m : Int) by rw [IntWalk.i64_in _ (by omega)]; omega)))
  have HZ := Lib.hid (show ((bs s).size : Int) = (n : Int) by rw [bs_size, hn])
  have hw1 : IntKind.u32.wrap (i : Int) = (i : Int) := by rw [IntKind.wrap_u32]; omega
  obtain ⟨t19, k19⟩ : ∃ t, bs b2 ++ bs p2 = t := ⟨_, rfl⟩
  obtain ⟨t21, k21⟩ : ∃ t, t19 ++ bs s = t := ⟨_, rfl⟩
  obtain ⟨t27, k27⟩ : ∃ t, t21 ++ bs z = t := ⟨_, rfl⟩
  obtain ⟨t29, k29⟩ : ∃ t, t27 ++ bs b2 = t := ⟨_, rfl⟩
  have z19 : t19.size = 4 := by rw [← k19, ByteArray.size_append, bs_size, bs_size]; omega
  have z21 : t21.size = 4 + n := by rw [← k21, ByteArray.size_append, bs_size]; omega
  have z27 : t27.size = 4 + n + m := by rw [← k27, ByteArray.size_append, bs_size]; omega
  have HT0 := Lib.hid (And.intro k19 (show ¬ 9223372036854775807 < (bs b2).size + (bs p2).size by rw [bs_size, bs_size]; omega))
  have HT1 := Lib.hid (And.intro k21 (show ¬ 9223372036854775807 < t19.size + (bs s).size by rw [bs_size]; omega))
  have HT2 := Lib.hid (And.intro k27 (show ¬ 9223372036854775807 < t21.size + (bs z).size by rw [bs_size]; omega))
  have HT3 := Lib.hid (And.intro k29 (show ¬ 9223372036854775807 < t27.size + (bs b2).size by rw [bs_size]; omega))
  rw [k19, k21, k27, k29] at hx
  have HX := Lib.hid hx
  clear hb2 hz hm hp2 hzl hpl hx hl hn hs hf hi k19 k21 k27 k29 z19 z21 z27
  go_enter Tryz.func80, Tryz.ntmps80
  go_upto_region 2 with fail
  refine HF.out.mono ?_
  rintro e w1 ⟨rfl, g1⟩
  have G1 := Lib.hid g1
  clear g1 HF
  go_upto_region 2 with fail
  have D : Frm (fun _ => False) w1 w1.drew := (Frm.refl _ _).drew
  refine wp_region_late 19 1 [] [[], [], [1], [], [3], [4], [2, 5], [6], [0, 7], [], [8, 9], [], [11], [12], [13], [14], [10, 15], [], [16, 17]] rblkM (rblkR flag n m b2 p2 z s t19 t21 t27 t29) (by kernel_rfl) rfl rfl rfl (by kernel_rfl) (by kernel_rfl) (by kernel_rfl) (by kernel_rfl) rfl (by kernel_rfl) (by kernel_rfl) (by kernel_rfl) (by kernel_rfl) (fun val => ?_) ?_
  · try simp only [Act.put, List.setIfInBounds_toArray, List.set_cons_zero, List.set_cons_succ]
    refine RelO.next (k' := 1) rfl (fun W gW hF => ?_) ?_
    focus
      refine OpOK.val (u := .string (bs b2)) (by rfl) ?_ (fun W' _ => rfl)
      try simp only [tupAt]
      first | (go_simp; done) | (go_simp; with_reducible rfl) | (go_simp; rfl)
    try simp only [Act.put, List.setIfInBounds_toArray, List.set_cons_zero, List.set_cons_succ]
    refine RelO.next (k' := 2) rfl (fun W gW hF => ?_) ?_
    focus
      refine OpOK.val (u := .int .i64 (flag : Nat)) (by rfl) ?_ (fun W' _ => rfl)
      try simp only [tupAt]
      first | (go_simp; done) | (go_simp; with_reducible rfl) | (go_simp; rfl)
    try simp only [Act.put, List.setIfInBounds_toArray, List.set_cons_zero, List.set_cons_succ]
    refine RelO.next (k' := 3) rfl (fun W gW hF => ?_) ?_
    focus
      obtain ⟨h1, _⟩ := hF
      have e1 : val 1 = .int .i64 (flag : Nat) := h1 _ (Frm.refl _ W)
      try simp only [e1]
      try simp only [tupAt]
      have h1 := HW.out.1
      exact OpOK.val (u := .int .u8 (flag : Nat)) (by rfl) (by first | (go_simp; done) | (go_simp; with_reducible rfl) | (go_simp; rfl)) (fun W' _ => rfl)
    try simp only [Act.put, List.setIfInBounds_toArray, List.set_cons_zero, List.set_cons_succ]
    refine RelO.next (k' := 4) rfl (fun W gW hF => ?_) ?_
    focus
      refine OpOK.val (u := .string (bs s)) (by rfl) ?_ (fun W' _ => rfl)
      try simp only [tupAt]
      first | (go_simp; done) | (go_simp; with_reducible rfl) | (go_simp; rfl)
    try simp only [Act.put, List.setIfInBounds_toArray, List.set_cons_zero, List.set_cons_succ]
    refine RelO.next (k' := 5) rfl (fun W gW hF => ?_) ?_
    focus
      obtain ⟨h3, _⟩ := hF
      have e3 : val 3 = .string (bs s) := h3 _ (Frm.refl _ W)
      try simp only [e3]
      try simp only [tupAt]
      have h1 := HZ.out
      exact OpOK.val (u := .int .i64 (n : Nat)) (by rfl) (by first | (go_simp; done) | (go_simp; with_reducible rfl) | (go_simp; rfl)) (fun W' _ => rfl)
    try simp only [Act.put, List.setIfInBounds_toArray, List.set_cons_zero, List.set_cons_succ]
    refine RelO.next (k' := 6) rfl (fun W gW hF => ?_) ?_
    focus
      obtain ⟨h4, _⟩ := hF
      have e4 : val 4 = .int .i64 (n : Nat) := h4 _ (Frm.refl _ W)
      try simp only [e4]
      try simp only [tupAt]
      have h1 := HW.out.2.1
      exact OpOK.val (u := .int .u8 (n : Nat)) (by rfl) (by first | (go_simp; done) | (go_simp; with_reducible rfl) | (go_simp; rfl)) (fun W' _ => rfl)
    try simp only [Act.put, List.setIfInBounds_toArray, List.set_cons_zero, List.set_cons_succ]
    refine RelO.next (k' := 7) rfl (fun W gW hF => ?_) ?_
    focus
      obtain ⟨h2, h5, _⟩ := hF
      have e2 : val 2 = .int .u8 (flag : Nat) := h2 _ (Frm.refl _ W)
      have e5 : val 5 = .int .u8 (n : Nat) := h5 _ (Frm.refl _ W)
      try simp only [e5]
      try simp only [e2]
      try simp only [tupAt]
      refine OpOK.made (u := .slice (some ⟨W.heap.size, 0, none⟩) 2 2) (W' := W.alloc (.cells #[.int .u8 (flag : Nat), .int .u8 (n : Nat)] 5)) (by rfl) (by first | (go_simp; done) | (go_simp; with_reducible rfl) | (go_simp; rfl)) ((Frm.refl _ W).alloc _) (fun W2 g2 => ⟨W.heap.size, rfl, Blk.keep (Blk.alloc W _ _) g2 (fun h => h)⟩)
    try simp only [Act.put, List.setIfInBounds_toArray, List.set_cons_zero, List.set_cons_succ]
    refine RelO.next (k' := 8) rfl (fun W gW hF => ?_) ?_
    focus
      obtain ⟨h6, _⟩ := hF
      have q6 : ∃ g, (val 6) = .slice (some ⟨g, 0, none⟩) 2 2 ∧ Blk W g 5 #[.int .u8 (flag : Nat), .int .u8 (n : Nat)] := h6 _ (Frm.refl _ W)
      obtain ⟨g17, e6, b17⟩ := q6
      try simp only [e6]
      try simp only [tupAt]
      have h1 := HP.out W g17 b17
      exact OpOK.val (u := .string (bs p2)) (by rfl) (by first | (go_simp; done) | (go_simp; with_reducible rfl) | (go_simp; rfl)) (fun W' _ => rfl)
    try simp only [Act.put, List.setIfInBounds_toArray, List.set_cons_zero, List.set_cons_succ]
    refine RelO.next (k' := 9) rfl (fun W gW hF => ?_) ?_
    focus
      obtain ⟨h0, h7, _⟩ := hF
      have e0 : val 0 = .string (bs b2) := h0 _ (Frm.refl _ W)
      have e7 : val 7 = .string (bs p2) := h7 _ (Frm.refl _ W)
      try simp only [e7]
      try simp only [e0]
      try simp only [tupAt]
      obtain ⟨h1, h2⟩ := HT0.out
      exact OpOK.val (u := .string t19) (by rfl) (by first | (go_simp; done) | (go_simp; with_reducible rfl) | (go_simp; rfl)) (fun W' _ => rfl)
    try simp only [Act.put, List.setIfInBounds_toArray, List.set_cons_zero, List.set_cons_succ]
    refine RelO.next (k' := 10) rfl (fun W gW hF => ?_) ?_
    focus
      refine OpOK.val (u := .string (bs s)) (by rfl) ?_ (fun W' _ => rfl)
      try simp only [tupAt]
      first | (go_simp; done) | (go_simp; with_reducible rfl) | (go_simp; rfl)
    try simp only [Act.put, List.setIfInBounds_toArray, List.set_cons_zero, List.set_cons_succ]
    refine RelO.next (k' := 11) rfl (fun W gW hF => ?_) ?_
    focus
      obtain ⟨h8, h9, _⟩ := hF
      have e8 : val 8 = .string t19 := h8 _ (Frm.refl _ W)
      have e9 : val 9 = .string (bs s) := h9 _ (Frm.refl _ W)
      try simp only [e9]
      try simp only [e8]
      try simp only [tupAt]
      obtain ⟨h1, h2⟩ := HT1.out
      exact OpOK.val (u := .string t21) (by rfl) (by first | (go_simp; done) | (go_simp; with_reducible rfl) | (go_simp; rfl)) (fun W' _ => rfl)
    try simp only [Act.put, List.setIfInBounds_toArray, List.set_cons_zero, List.set_cons_succ]
    refine RelO.next (k' := 12) rfl (fun W gW hF => ?_) ?_
    focus
      refine OpOK.val (u := .string (bs s)) (by rfl) ?_ (fun W' _ => rfl)
      try simp only [tupAt]
      first | (go_simp; done) | (go_simp; with_reducible rfl) | (go_simp; rfl)
    try simp only [Act.put, List.setIfInBounds_toArray, List.set_cons_zero, List.set_cons_succ]
    refine RelO.next (k' := 13) rfl (fun W gW hF => ?_) ?_
    focus
      obtain ⟨h11, _⟩ := hF
      have e11 : val 11 = .string (bs s) := h11 _ (Frm.refl _ W)
      try simp only [e11]
      try simp only [tupAt]
      have h1 := HZ.out
      exact OpOK.val (u := .int .i64 (n : Nat)) (by rfl) (by first | (go_simp; done) | (go_simp; with_reducible rfl) | (go_simp; rfl)) (fun W' _ => rfl)
    try simp only [Act.put, List.setIfInBounds_toArray, List.set_cons_zero, List.set_cons_succ]
    refine RelO.next (k' := 14) rfl (fun W gW hF => ?_) ?_
    focus
      obtain ⟨h12, _⟩ := hF
      have e12 : val 12 = .int .i64 (n : Nat) := h12 _ (Frm.refl _ W)
      try simp only [e12]
      try simp only [tupAt]
      have h1 := HW.out.2.2
      exact OpOK.val (u := .int .i64 (m : Nat)) (by rfl) (by first | (go_simp; done) | (go_simp; with_reducible rfl) | (go_simp; rfl)) (fun W' _ => rfl)
    try simp only [Act.put, List.setIfInBounds_toArray, List.set_cons_zero, List.set_cons_succ]
    refine RelO.next (k' := 15) rfl (fun W gW hF => ?_) ?_
    focus
      obtain ⟨h13, _⟩ := hF
      have e13 : val 13 = .int .i64 (m : Nat) := h13 _ (Frm.refl _ W)
      try simp only [e13]
      try simp only [tupAt]
      have h1 := HM.out W
      refine OpOK.made (u := .slice (some ⟨W.heap.size, 0, none⟩) m m) (W' := W.alloc (.cells (u8s z).toArray 5)) (by rfl) (by first | (go_simp; done) | (go_simp; with_reducible rfl) | (go_simp; rfl)) ((Frm.refl _ W).alloc _) (fun W2 g2 => ⟨W.heap.size, rfl, Blk.keep (Blk.alloc W _ _) g2 (fun h => h)⟩)
    try simp only [Act.put, List.setIfInBounds_toArray, List.set_cons_zero, List.set_cons_succ]
    refine RelO.next (k' := 16) rfl (fun W gW hF => ?_) ?_
    focus
      obtain ⟨h14, _⟩ := hF
      have q14 : ∃ g, (val 14) = .slice (some ⟨g, 0, none⟩) m m ∧ Blk W g 5 (u8s z).toArray := h14 _ (Frm.refl _ W)
      obtain ⟨g25, e14, b25⟩ := q14
      try simp only [e14]
      try simp only [tupAt]
      have h1 := HQ.out W g25 b25
      exact OpOK.val (u := .string (bs z)) (by rfl) (by first | (go_simp; done) | (go_simp; with_reducible rfl) | (go_simp; rfl)) (fun W' _ => rfl)
    try simp only [Act.put, List.setIfInBounds_toArray, List.set_cons_zero, List.set_cons_succ]
    refine RelO.next (k' := 17) rfl (fun W gW hF => ?_) ?_
    focus
      obtain ⟨h10, h15, _⟩ := hF
      have e10 : val 10 = .string t21 := h10 _ (Frm.refl _ W)
      have e15 : val 15 = .string (bs z) := h15 _ (Frm.refl _ W)
      try simp only [e15]
      try simp only [e10]
      try simp only [tupAt]
      obtain ⟨h1, h2⟩ := HT2.out
      exact OpOK.val (u := .string t27) (by rfl) (by first | (go_simp; done) | (go_simp; with_reducible rfl) | (go_simp; rfl)) (fun W' _ => rfl)
    try simp only [Act.put, List.setIfInBounds_toArray, List.set_cons_zero, List.set_cons_succ]
    refine RelO.next (k' := 18) rfl (fun W gW hF => ?_) ?_
    focus
      refine OpOK.val (u := .string (bs b2)) (by rfl) ?_ (fun W' _ => rfl)
      try simp only [tupAt]
      first | (go_simp; done) | (go_simp; with_reducible rfl) | (go_simp; rfl)
    try simp only [Act.put, List.setIfInBounds_toArray, List.set_cons_zero, List.set_cons_succ]
    refine RelO.next (k' := 19) rfl (fun W gW hF => ?_) ?_
    focus
      obtain ⟨h16, h17, _⟩ := hF
      have e16 : val 16 = .string t27 := h16 _ (Frm.refl _ W)
      have e17 : val 17 = .string (bs b2) := h17 _ (Frm.refl _ W)
      try simp only [e17]
      try simp only [e16]
      try simp only [tupAt]
      obtain ⟨h1, h2⟩ := HT3.out
      exact OpOK.val (u := .string t29) (by rfl) (by first | (go_simp; done) | (go_simp; with_reducible rfl) | (go_simp; rfl)) (fun W' _ => rfl)
    try simp only [Act.put, List.setIfInBounds_toArray, List.set_cons_zero, List.set_cons_succ]
    exact RelO.nil
  intro val W gW hF
  obtain ⟨h0, h1, h2, h3, h4, h5, h6, h7, h8, h9, h10, h11, h12, h13, h14, h15, h16, h17, h18, hT⟩ := hF
  have e0 : val 0 = .string (bs b2) := h0 _ (Frm.refl _ W)
  have e1 : val 1 = .int .i64 (flag : Nat) := h1 _ (Frm.refl _ W)
  have e2 : val 2 = .int .u8 (flag : Nat) := h2 _ (Frm.refl _ W)
  have e3 : val 3 = .string (bs s) := h3 _ (Frm.refl _ W)
  have e4 : val 4 = .int .i64 (n : Nat) := h4 _ (Frm.refl _ W)
  have e5 : val 5 = .int .u8 (n : Nat) := h5 _ (Frm.refl _ W)
  have q6 : ∃ g, (val 6) = .slice (some ⟨g, 0, none⟩) 2 2 ∧ Blk W g 5 #[.int .u8 (flag : Nat), .int .u8 (n : Nat)] := h6 _ (Frm.refl _ W)
  obtain ⟨g17, e6, b17⟩ := q6
  have e7 : val 7 = .string (bs p2) := h7 _ (Frm.refl _ W)
  have e8 : val 8 = .string t19 := h8 _ (Frm.refl _ W)
  have e9 : val 9 = .string (bs s) := h9 _ (Frm.refl _ W)
  have e10 : val 10 = .string t21 := h10 _ (Frm.refl _ W)
  have e11 : val 11 = .string (bs s) := h11 _ (Frm.refl _ W)
  have e12 : val 12 = .int .i64 (n : Nat) := h12 _ (Frm.refl _ W)
  have e13 : val 13 = .int .i64 (m : Nat) := h13 _ (Frm.refl _ W)
  have q14 : ∃ g, (val 14) = .slice (some ⟨g, 0, none⟩) m m ∧ Blk W g 5 (u8s z).toArray := h14 _ (Frm.refl _ W)
  obtain ⟨g25, e14, b25⟩ := q14
  have e15 : val 15 = .string (bs z) := h15 _ (Frm.refl _ W)
  have e16 : val 16 = .string t27 := h16 _ (Frm.refl _ W)
  have e17 : val 17 = .string (bs b2) := h17 _ (Frm.refl _ W)
  have e18 : val 18 = .string t29 := h18 _ (Frm.refl _ W)
  clear hT h0 h1 h2 h3 h4 h5 h6 h7 h8 h9 h10 h11 h12 h13 h14 h15 h16 h17 h18
  simp only [aO, Act.put, List.setIfInBounds_toArray, List.set_cons_zero, List.set_cons_succ, Nat.reduceAdd]
  try simp only [e18]
  try simp only [e17]
  try simp only [e16]
  try simp only [e15]
  try simp only [e14]
  try simp only [e13]
  try simp only [e12]
  try simp only [e11]
  try simp only [e10]
  try simp only [e9]
  try simp only [e8]
  try simp only [e7]
  try simp only [e6]
  try simp only [e5]
  try simp only [e4]
  try simp only [e3]
  try simp only [e2]
  try simp only [e1]
  try simp only [e0]
  try simp only [tupAt]
  have G9 := Lib.hid (G1.out.trans (D.trans gW))
  clear gW D
  refine wpTail.cons rfl rfl (fun K2 hK2 => ?_)
  unfold Oper.wp execOp
  go_simp
  refine hK2 _ _ ?_
  clear hK2 K2
  try simp only [Act.put, List.setIfInBounds_toArray, List.set_cons_zero, List.set_cons_succ]
  refine wpTail.doneN ?_
  go_wp2_with fail
  go_ret
  exact ⟨by rw [HX.out]; rfl, G9.out⟩
end Go.Proofs.YtdhnidmeeocajaaGreat

