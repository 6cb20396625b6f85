/- The statement SiblingWrites, called. Of any register, any replica, any dots. No condition. -/
import Derived.Test.YtmdmkcofafhlcaaSwC
import Derived.Test.YtmdmkcofafhlcaaSwH
namespace Go.Proofs.Ytmdmkcofafhlcaa
open Go.RowKit

theorem eq_selfS {f : Nat → Nat} {l : List SibI} : (eq8 f f && decide (l = l)) = true := by simp [eq8]
/-- What lies between the statement's steps. -/
structure Wst (N B7 B8 B9 B11 B12 : Nat) (f f8 : Nat → Nat) (v v7 v8 v11 : Value) (l l8 : List SibI) (p q : Nat) (W : World) : Prop where
  x : Blk W N 39 (rgc f v)
  xs : SL W v l
  o : Blk W B7 39 (rgc f v7)
  osl : OwnL W v7 l
  a : Blk W B8 39 (rgc f8 v8)
  asl : OwnL W v8 l8
  d : Blk W B9 27 (dv p q)
  b : Blk W B11 47 (rgc f8 v11)
  bs : SL W v11 l8
  c : Blk W B12 48 (dv p q)
theorem Wst.keep {N B7 B8 B9 B11 B12 : Nat} {f f8 : Nat → Nat} {v v7 v8 v11 : Value} {l l8 : List SibI} {p q : Nat} {W W' : World} (h : Wst N B7 B8 B9 B11 B12 f f8 v v7 v8 v11 l l8 p q W) (g : Frm (fun _ => False) W W') : Wst N B7 B8 B9 B11 B12 f f8 v v7 v8 v11 l l8 p q W' :=
  ⟨h.x.keep g (fun h => h), h.xs.keepF g, h.o.keep g (fun h => h), h.osl.keep g (fun _ _ h => h), h.a.keep g (fun h => h), h.asl.keep g (fun _ _ h => h), h.d.keep g (fun h => h), h.b.keep g (fun h => h), h.bs.keepF g, h.c.keep g (fun h => h)⟩
/-- What lies at its end. -/
structure Wst2 (N B7 : Nat) (f : Nat → Nat) (v v7 : Value) (l : List SibI) (W : World) : Prop where
  x : Blk W N 39 (rgc f v)
  xs : SL W v l
  o : Blk W B7 39 (rgc f v7)
  osl : OwnL W v7 l
theorem dropS_len (f : Nat → Nat) (l : List SibI) (r : Nat) (over : List DotI) : (dropS f l r over).2.1.length ≤ l.length := by
  unfold dropS
  split
  · split
    · exact List.length_filter_le _ _
    · exact Nat.zero_le _
  · exact Nat.zero_le _
theorem writeS_len (f : Nat → Nat) (l : List SibI) (r : Nat) (over : List DotI) (s : List UInt8) : (writeS f l r over s).2.1.length ≤ l.length + 1 := by
  have h := dropS_len f l r over
  unfold writeS
  split
  · split
    · exact Nat.zero_le _
    · simp; exact h
  · exact Nat.zero_le _
def sw6M : List Nat := [1, 3, 4, 12, 28, 63, 127, 255, 511, 639, 2047, 4095, 8191, 16383, 32767, 49151, 131071, 262143, 524287, 1048575, 1572863, 4194303, 8388607]
def sw6R (f f8 : Nat → Nat) (v v7 v8 v11 : Value) (l l8 : List SibI) (p q C : Nat) (er : Nat) : List ((Nat → Value) → World → Prop) := [
  fun val _ => val 0 = rg f v7,
  fun val _ => val 1 = .int .i64 (C : Int),
  fun val _ => val 2 = rg f v,
  fun val W => ∃ z, (val 3) = rg f z ∧ SL W z l,
  fun val _ => val 4 = .int .i64 (C : Int),
  fun val _ => val 5 = .bool false,
  fun val _ => val 6 = .bool false,
  fun val _ => val 7 = rg f8 v8,
  fun val W => ∃ z, (val 8) = rg f8 z ∧ SL W z l8,
  fun val _ => val 9 = rg f8 v11,
  fun val _ => val 10 = .bool true,
  fun val _ => val 11 = .bool false,
  fun val _ => val 12 = .bool false,
  fun val _ => val 13 = .bool false,
  fun val _ => val 14 = .agg (dv p q),
  fun val _ => val 15 = .agg (dv p q),
  fun val _ => val 16 = .bool false,
  fun val _ => val 17 = .bool false,
  fun val _ => val 18 = .bool false,
  fun val _ => val 19 = .int .i64 (er : Int),
  fun val _ => val 20 = .int .i64 (er : Int),
  fun val _ => val 21 = .bool false,
  fun val _ => val 22 = .bool false]
def sw11M : List Nat := [1, 3, 4, 15, 31, 63, 127, 191, 511, 1023, 2047, 4095, 6143, 16383, 32767]
def sw11R (f9 : Nat → Nat) (v9 v12 : Value) (l9 : List SibI) (p2 q2 : Nat) (er2 : Nat) : List ((Nat → Value) → World → Prop) := [
  fun val _ => val 0 = rg f9 v9,
  fun val W => ∃ z, (val 1) = rg f9 z ∧ SL W z l9,
  fun val _ => val 2 = rg f9 v12,
  fun val _ => val 3 = .bool true,
  fun val _ => val 4 = .bool false,
  fun val _ => val 5 = .bool false,
  fun val _ => val 6 = .agg (dv p2 q2),
  fun val _ => val 7 = .agg (dv p2 q2),
  fun val _ => val 8 = .bool false,
  fun val _ => val 9 = .bool false,
  fun val _ => val 10 = .bool false,
  fun val _ => val 11 = .int .i64 (er2 : Int),
  fun val _ => val 12 = .int .i64 (er2 : Int),
  fun val _ => val 13 = .bool false,
  fun val _ => val 14 = .bool false]
def sw14M : List Nat := [1, 3, 4, 12, 31, 63, 127, 255, 511]
def sw14R (f : Nat → Nat) (v v7 : Value) (l : List SibI) : List ((Nat → Value) → World → Prop) := [
  fun val _ => val 0 = rg f v7,
  fun val W => ∃ z, (val 1) = rg f z ∧ SL W z l,
  fun val _ => val 2 = rg f v,
  fun val W => ∃ z, (val 3) = rg f z ∧ SL W z l,
  fun val _ => val 4 = .bool true,
  fun val _ => val 5 = .bool true,
  fun val _ => val 6 = .bool true,
  fun val _ => val 7 = .bool true,
  fun val _ => val 8 = .bool true]

set_option maxRecDepth 100000 in
set_option maxHeartbeats 16000000 in
theorem siblingWrites_any (f : Nat → Nat) (v : Value) (l : List SibI) (r : Nat) (vo : Value) (over : List DotI) (w : World) (hf : Fit8 f) (h : SL w v l) (hr : r < 256) (ho : DL w vo over) :
    Calls Try.prog 4 #[rg f v, .int .u8 r, vo] w fun e w' => e = .returned (.bool true) ∧ Frm (fun _ => False) w w' := by
  obtain ⟨ao, capo, rfl, ho1, ho2⟩ := ho.slice
  obtain ⟨a, cap, rfl, h1, h2⟩ := h.slice
  unfold maxLen at h2 ho2
  have g0 : Frm (fun _ => False) w (w.alloc (.cells (rgc f (.slice a l.length cap)) 39)) := (Frm.refl _ w).alloc _
  have b0 := Blk.alloc w 39 (rgc f (.slice a l.length cap))
  go_enter Try.func4, Try.ntmps4
  go_upto_region 1 with fail
  generalize w.alloc (.cells (rgc f (.slice a l.length cap)) 39) = w0 at *
  obtain ⟨N, hN⟩ : ∃ N, w.heap.size = N := ⟨_, rfl⟩
  have HNw := Lib.hid hN
  rw [hN] at b0 ⊢
  clear hN
  have lR := load_reg b0
  have hs := h.keepF g0
  have ho' := ho.keepF g0
  have HWK := Lib.hid (fun W => sworks_any W)
  by_cases hfew : fewS l
  · have HFW := Lib.hid (sfew_yes f _ l w0 hs hfew)
    have hl30 := hfew.1
    have HL := Lib.hid (show l.length ≤ 1000 by omega)
    have HX0 := Lib.hid h
    have HO0 := Lib.hid ho
    clear hfew h ho
    go_wp2_with (((with_reducible refine wpl_load rfl _ rfl ?_ lR ?_); (focus rfl)))
    refine HFW.out.mono ?_
    rintro e w1 ⟨rfl, g1⟩
    have b0 := b0.keep g1 (fun h => h)
    have hs := hs.keepF g1
    have ho' := ho'.keepF g1
    have k1 := g0.trans g1
    have lR := load_reg b0
    clear g0 g1 HFW
    by_cases hov : over.length ≤ 30
    · have hovi : ¬ (30 : Int) < (over.length : Int) := by omega
      have HCP := Lib.hid (copied_any f _ l w1 hs HL.out)
      go_wp2_with (((with_reducible refine wpl_load rfl _ rfl ?_ lR ?_); (focus rfl)))
      refine HCP.out.mono ?_
      rintro e w3 ⟨v7, rfl, o7, g3, n7⟩
      obtain ⟨a7, c7, rfl, _, _⟩ := Row.slice o7
      have b0 := b0.keep g3 (fun h => h)
      have hs := hs.keepF g3
      have ho' := ho'.keepF g3
      have k3 := k1.trans g3
      have hN7 := b0.lt
      clear k1 g3 HCP lR
      have m7 := Blk.alloc w3 39 rz
      go_upto_region 4 with (first
        | ((with_reducible refine wpl_store_blk rfl 39 _ _ rfl (w3.heap.size) (rgc f (.slice a7 l.length c7)) rz ?_ ?_ m7 rfl ?_ ?_ ?_); (focus rfl); (focus rfl); (focus (show _ = some 9; kernel_rfl)); (focus (exact rg_one _ _ _ _)); intro w4 e7 g4 z4))
      have f4 : Frm (fun _ => False) w3 w4 := ((Frm.refl _ w3).alloc _).next g4 (fun k hk h => by have h : k = w3.heap.size := h; omega)
      have hob7 := Row.blk o7
      obtain ⟨B7, hB7⟩ : ∃ B7, w3.heap.size = B7 := ⟨_, rfl⟩
      rw [hB7] at e7 hN7 hob7 ⊢
      have b0 := b0.keep f4 (fun h => h)
      have hs := hs.keepF f4
      have ho' := ho'.keepF f4
      have o7 := o7.keep f4 (fun _ _ h => h)
      have k4 := k3.trans f4
      have hB74 := e7.lt
      clear k3 f4 g4 z4 m7 hB7 n7
      -- what is written
      have HSW := Lib.hid (swrite_any f _ l r _ over [110, 101, 119] w4 hf o7.sl (by have := HL.out; omega) hr ho' (by decide))
      have HRW := Lib.hid (fun W x y (hx : SL W x l) (hy : DL W y over) => rwrite_any f x l r y over [110, 101, 119] W hf hx HL.out hr hy (by decide))
      have hTl := writeS_len f l r over [110, 101, 119]
      generalize writeS f l r over [110, 101, 119] = T at *
      obtain ⟨f8, l8, ⟨p, q⟩, er⟩ := T
      simp only at hTl
      have HL8 := Lib.hid (show l8.length ≤ 1000 by have := HL.out; omega)
      clear hTl
      unfold RegTo at HSW HRW
      simp only at HSW HRW
      have l7 := load_reg e7
      go_wp2_with (((with_reducible refine wpl_load rfl _ rfl ?_ l7 ?_); (focus rfl)))
      refine HSW.out.mono ?_
      rintro e w5 ⟨v8, rfl, o8, n8, g5⟩
      obtain ⟨a8, c8, rfl, _, _⟩ := Row.slice o8
      clear l7 HSW
      have b0 := b0.keep g5 (fun h => h)
      have hs := hs.keepF g5
      have ho' := ho'.keepF g5
      have e7 := e7.keep g5 (fun h => h)
      have o7 := o7.keep g5 (fun _ _ h => h)
      have k5 := k4.trans g5
      have hB78 := e7.lt
      have hob8 := Row.blk o8
      have n8 : ∀ g, (Value.slice a8 l8.length c8).ownBlock = some g → B7 < g := fun g e => by have := n8 g e; omega
      clear k4 g5
      have m8 : Blk ((w5.alloc (.cells rz 39)).alloc (.cells dz 27)) w5.heap.size 39 rz := (Blk.alloc w5 _ _).old _
      have m9 : Blk ((w5.alloc (.cells rz 39)).alloc (.cells dz 27)) (w5.heap.size + 1) 27 dz := Blk.at1 w5 _ _ _
      have m1 : Frm (fun _ => False) w5 ((w5.alloc (.cells rz 39)).alloc (.cells dz 27)) := ((Frm.refl _ w5).alloc _).alloc _
      go_upto_region 5 with (first
        | ((with_reducible refine wpl_store_blk rfl 39 _ _ rfl (w5.heap.size) (rgc f8 (.slice a8 l8.length c8)) rz ?_ ?_ m8 rfl ?_ ?_ ?_); (focus rfl); (focus rfl); (focus (show _ = some 9; kernel_rfl)); (focus (exact rg_one _ _ _ _)); intro w11 e8 g6 z6; have m9 := m9.keep g6 (by omega); have m2 := m1.next (X := fun _ => False) g6 (fun k hk h => by omega))
        | ((with_reducible refine wpl_store_blk rfl 27 _ _ rfl (w5.heap.size + 1) (dv p q) dz ?_ ?_ m9 rfl ?_ ?_ ?_); (focus rfl); (focus rfl); (focus (show _ = some 2; kernel_rfl)); (focus (simp [Value.oneCell'])); intro w6 e9 g7 z7; have e8 := e8.keep g7 (by omega); have m3 := m2.next (X := fun _ => False) g7 (fun k hk h => by omega)))
      have b0 := b0.keep m3 (fun h => h)
      have hs := hs.keepF m3
      have ho' := ho'.keepF m3
      have e7 := e7.keep m3 (fun h => h)
      have o7 := o7.keep m3 (fun _ _ h => h)
      have o8 := o8.keep m3 (fun _ _ h => h)
      have k6 := k5.trans m3
      obtain ⟨B8, hB8⟩ : ∃ B8, w5.heap.size = B8 := ⟨_, rfl⟩
      have h9lt := e9.lt
      rw [hB8] at e8 e9 hob8 h9lt hB78 ⊢
      clear m1 m2 m3 m8 m9 g6 g7 z6 z7 hB8 k5
      -- the document's
      have lR := load_reg b0
      have HTH := Lib.hid (their_any f _ l w6 hs HL.out)
      go_wp2_with (((with_reducible refine wpl_load rfl _ rfl ?_ lR ?_); (focus rfl)))
      refine HTH.out.mono ?_
      rintro e w7 ⟨x35, rfl, o35, g7, _⟩
      have ho' := ho'.keepF g7
      have HDT := Lib.hid (ldots_any _ over w7 ho' (by omega))
      go_wp2_with fail
      refine HDT.out.mono ?_
      rintro e w8 ⟨x38, rfl, o38, g8⟩
      go_wp2_with fail
      refine (HRW.out w8 _ _ (o35.sl.keepF g8) o38.sl).mono ?_
      rintro e w9 ⟨v11, rfl, o11, n11, g9⟩
      obtain ⟨a11, c11, rfl, _, _⟩ := Row.slice o11
      have gg := (g7.trans g8).trans g9
      have b0 := b0.keep gg (fun h => h)
      have hs := hs.keepF gg
      have ho' := (ho'.keepF g8).keepF g9
      have e7 := e7.keep gg (fun h => h)
      have o7 := o7.keep gg (fun _ _ h => h)
      have e8 := e8.keep gg (fun h => h)
      have e9 := e9.keep gg (fun h => h)
      have o8 := o8.keep gg (fun _ _ h => h)
      have k9 := k6.trans gg
      have hsz9 := gg.size
      have n11 : ∀ g, (Value.slice a11 l8.length c11).ownBlock = some g → B8 + 1 < g := fun g e => by have := n11 g e; have := (g7.trans g8).size; omega
      have hob11 := Row.blk o11
      clear g7 g8 g9 o35 o38 HTH HDT HRW k6 lR gg
      have m8 : Blk ((w9.alloc (.cells rz 47)).alloc (.cells dz 48)) w9.heap.size 47 rz := (Blk.alloc w9 _ _).old _
      have m9 : Blk ((w9.alloc (.cells rz 47)).alloc (.cells dz 48)) (w9.heap.size + 1) 48 dz := Blk.at1 w9 _ _ _
      have m1 : Frm (fun _ => False) w9 ((w9.alloc (.cells rz 47)).alloc (.cells dz 48)) := ((Frm.refl _ w9).alloc _).alloc _
      go_upto_region 6 with (first
        | ((with_reducible refine wpl_store_blk rfl 47 _ _ rfl (w9.heap.size) (rgc f8 (.slice a11 l8.length c11)) rz ?_ ?_ m8 rfl ?_ ?_ ?_); (focus rfl); (focus rfl); (focus (show _ = some 9; kernel_rfl)); (focus (exact rg_one _ _ _ _)); intro w11 e11 g6 z6; have m9 := m9.keep g6 (by omega); have m2 := m1.next (X := fun _ => False) g6 (fun k hk h => by omega))
        | ((with_reducible refine wpl_store_blk rfl 48 _ _ rfl (w9.heap.size + 1) (dv p q) dz ?_ ?_ m9 rfl ?_ ?_ ?_); (focus rfl); (focus rfl); (focus (show _ = some 2; kernel_rfl)); (focus (simp [Value.oneCell'])); intro w10 e12 g7 z7; have e11 := e11.keep g7 (by omega); have m3 := m2.next (X := fun _ => False) g7 (fun k hk h => by omega)))
      rename_i hK
      obtain ⟨B11, hB11⟩ : ∃ B11, w9.heap.size = B11 := ⟨_, rfl⟩
      have S0 : Wst N B7 B8 (B8 + 1) w9.heap.size (w9.heap.size + 1) f f8 (.slice a l.length cap) (.slice a7 l.length c7) (.slice a8 l8.length c8) (.slice a11 l8.length c11) l l8 p q w10 :=
        ⟨b0.keep m3 (fun h => h), hs.keepF m3, e7.keep m3 (fun h => h), o7.keep m3 (fun _ _ h => h), e8.keep m3 (fun h => h), o8.keep m3 (fun _ _ h => h), e9.keep m3 (fun h => h), e11, o11.sl.keepF m3, e12⟩
      have ho' := ho'.keepF m3
      have k10 := k9.trans m3
      rw [hB11] at S0 hsz9 hob11 ⊢
      clear m1 m2 m3 m8 m9 g6 g7 z6 z7 hB11 k9 b0 hs e7 o7 e8 e9 o8 o11 e11 e12
      have HS : Hid (∀ W, Frm (fun _ => False) w10 W → Wst N B7 B8 (B8 + 1) B11 (B11 + 1) f f8 (.slice a l.length cap) (.slice a7 l.length c7) (.slice a8 l8.length c8) (.slice a11 l8.length c11) l l8 p q W) := Lib.hid fun W g => S0.keep g
      clear S0
      have HCK := Lib.hid (fun W x (hx : SL W x l) => check_any f x l W hf hx (by have := HL.out; omega))
      have HRK := Lib.hid (fun W x (hx : SL W x l) => rcheck_any f x l W hf hx)
      generalize chkS f l = C at *
      generalize hv0 : Value.slice a l.length cap = v at *
      generalize hv7 : Value.slice a7 l.length c7 = v7 at *
      generalize hv8 : Value.slice a8 l8.length c8 = v8 at *
      generalize hv11 : Value.slice a11 l8.length c11 = v11 at *
      obtain ⟨B9, hB9⟩ : ∃ B9, B8 + 1 = B9 := ⟨_, rfl⟩
      obtain ⟨B12, hB12⟩ : ∃ B12, B11 + 1 = B12 := ⟨_, rfl⟩
      rw [hB9, hB12] at HS
      rw [hB9, hB12]
      have D : Frm (fun _ => False) w10 w10.drew := (Frm.refl _ _).drew
      refine wp_region_late 23 0 [] [[], [0], [], [2], [3], [1, 4], [5], [6], [6, 7], [6], [6, 8, 9], [6, 10], [6, 11], [12], [13], [13], [13, 14, 15], [13, 16], [17], [18], [18], [18, 19, 20], [18, 21]] sw6M (sw6R f f8 v v7 v8 v11 l l8 p q C er) (by kernel_rfl) rfl rfl rfl (by kernel_rfl) (by kernel_rfl) (by kernel_rfl) (by kernel_rfl) rfl (by kernel_rfl) (by kernel_rfl) (by kernel_rfl) (by kernel_rfl) (fun val => ?_) ?_
      · try dsimp only
        refine RelO.next (k' := 1) rfl (fun W gW hF => ?_) ?_
        focus
          exact OpOK.load (by rfl) _ rfl (by rfl) (load_reg (HS.out W (D.trans gW)).o) (fun W' _ => rfl)
        try simp only [Act.put, List.setIfInBounds_toArray, List.set_cons_zero, List.set_cons_succ]
        refine RelO.next (k' := 2) rfl (fun W gW hF => ?_) ?_
        focus
          obtain ⟨h0, _⟩ := hF
          have e0 : val 0 = rg f v7 := h0 _ (Frm.refl _ W)
          try simp only [e0]
          try simp only [tupAt]
          refine OpOK.call (by rfl) ?_ ((HCK.out W _ (HS.out W (D.trans gW)).osl.sl).mono ?_)
          · first | (go_simp; done) | (go_simp; with_reducible rfl) | (go_simp; rfl)
          · rintro e W1 ⟨rfl, g1⟩
            exact ⟨_, rfl, g1, fun W2 _ => rfl⟩
        try simp only [Act.put, List.setIfInBounds_toArray, List.set_cons_zero, List.set_cons_succ]
        refine RelO.next (k' := 3) rfl (fun W gW hF => ?_) ?_
        focus
          exact OpOK.load (by rfl) _ rfl (by rfl) (load_reg (HS.out W (D.trans gW)).x) (fun W' _ => rfl)
        try simp only [Act.put, List.setIfInBounds_toArray, List.set_cons_zero, List.set_cons_succ]
        refine RelO.next (k' := 4) rfl (fun W gW hF => ?_) ?_
        focus
          obtain ⟨h2, _⟩ := hF
          have e2 : val 2 = rg f v := h2 _ (Frm.refl _ W)
          try simp only [e2]
          try simp only [tupAt]
          refine OpOK.call (by rfl) ?_ ((their_any f v l W (HS.out W (D.trans gW)).xs HL.out).mono ?_)
          · first | (go_simp; done) | (go_simp; with_reducible rfl) | (go_simp; rfl)
          · rintro e W1 ⟨v', rfl, o', g', _⟩
            exact ⟨_, rfl, g', fun W2 g2 => ⟨v', rfl, o'.sl.keepF g2⟩⟩
        try simp only [Act.put, List.setIfInBounds_toArray, List.set_cons_zero, List.set_cons_succ]
        refine RelO.next (k' := 5) rfl (fun W gW hF => ?_) ?_
        focus
          obtain ⟨h3, _⟩ := hF
          have q3 : ∃ z, (val 3) = rg f z ∧ SL W z l := h3 _ (Frm.refl _ W)
          obtain ⟨x46, e3, o46⟩ := q3
          try simp only [e3]
          try simp only [tupAt]
          refine OpOK.call (by rfl) ?_ ((HRK.out W _ o46).mono ?_)
          · first | (go_simp; done) | (go_simp; with_reducible rfl) | (go_simp; rfl)
          · rintro e W1 ⟨rfl, g1⟩
            exact ⟨_, rfl, g1, fun W2 _ => rfl⟩
        try simp only [Act.put, List.setIfInBounds_toArray, List.set_cons_zero, List.set_cons_succ]
        refine RelO.next (k' := 6) rfl (fun W gW hF => ?_) ?_
        focus
          obtain ⟨h1, h4, _⟩ := hF
          have e1 : val 1 = .int .i64 (C : Int) := h1 _ (Frm.refl _ W)
          have e4 : val 4 = .int .i64 (C : Int) := h4 _ (Frm.refl _ W)
          try simp only [e4]
          try simp only [e1]
          try simp only [tupAt]
          refine OpOK.val (u := .bool false) (by rfl) ?_ (fun W' _ => rfl)
          try simp only [e4]
          try simp only [e1]
          try simp only [tupAt]
          first | (go_simp; done) | (go_simp; with_reducible rfl) | (go_simp; rfl)
        try simp only [Act.put, List.setIfInBounds_toArray, List.set_cons_zero, List.set_cons_succ]
        refine RelO.next (k' := 7) rfl (fun W gW hF => ?_) ?_
        focus
          obtain ⟨h5, _⟩ := hF
          have e5 : val 5 = .bool false := h5 _ (Frm.refl _ W)
          try simp only [e5]
          try simp only [tupAt]
          refine OpOK.val (u := .bool false) (by rfl) ?_ (fun W' _ => rfl)
          try simp only [e5]
          try simp only [tupAt]
          first | (go_simp; done) | (go_simp; with_reducible rfl) | (go_simp; rfl)
        try simp only [Act.put, List.setIfInBounds_toArray, List.set_cons_zero, List.set_cons_succ]
        refine RelO.next (k' := 8) rfl (fun W gW hF => ?_) ?_
        focus
          obtain ⟨h6, _⟩ := hF
          have e6 : val 6 = .bool false := h6 _ (Frm.refl _ W)
          try simp only [e6]
          try simp only [tupAt]
          exact OpOK.load (by rfl) _ rfl (by rfl) (load_reg (HS.out W (D.trans gW)).a) (fun W' _ => rfl)
        try simp only [Act.put, List.setIfInBounds_toArray, List.set_cons_zero, List.set_cons_succ]
        refine RelO.next (k' := 9) rfl (fun W gW hF => ?_) ?_
        focus
          obtain ⟨h6, h7, _⟩ := hF
          have e6 : val 6 = .bool false := h6 _ (Frm.refl _ W)
          have e7 : val 7 = rg f8 v8 := h7 _ (Frm.refl _ W)
          try simp only [e7]
          try simp only [e6]
          try simp only [tupAt]
          refine OpOK.call (by rfl) ?_ ((their_any f8 v8 l8 W (HS.out W (D.trans gW)).asl.sl HL8.out).mono ?_)
          · first | (go_simp; done) | (go_simp; with_reducible rfl) | (go_simp; rfl)
          · rintro e W1 ⟨v', rfl, o', g', _⟩
            exact ⟨_, rfl, g', fun W2 g2 => ⟨v', rfl, o'.sl.keepF g2⟩⟩
        try simp only [Act.put, List.setIfInBounds_toArray, List.set_cons_zero, List.set_cons_succ]
        refine RelO.next (k' := 10) rfl (fun W gW hF => ?_) ?_
        focus
          obtain ⟨h6, _⟩ := hF
          have e6 : val 6 = .bool false := h6 _ (Frm.refl _ W)
          try simp only [e6]
          try simp only [tupAt]
          exact OpOK.load (by rfl) _ rfl (by rfl) (load_rreg (HS.out W (D.trans gW)).b) (fun W' _ => rfl)
        try simp only [Act.put, List.setIfInBounds_toArray, List.set_cons_zero, List.set_cons_succ]
        refine RelO.next (k' := 11) rfl (fun W gW hF => ?_) ?_
        focus
          obtain ⟨h6, h8, h9, _⟩ := hF
          have e6 : val 6 = .bool false := h6 _ (Frm.refl _ W)
          have q8 : ∃ z, (val 8) = rg f8 z ∧ SL W z l8 := h8 _ (Frm.refl _ W)
          obtain ⟨x51, e8, o51⟩ := q8
          have e9 : val 9 = rg f8 v11 := h9 _ (Frm.refl _ W)
          try simp only [e9]
          try simp only [e8]
          try simp only [e6]
          try simp only [tupAt]
          refine OpOK.call (by rfl) ?_ ((requal_any f8 f8 x51 v11 l8 l8 W o51 (HS.out W (D.trans gW)).bs).mono ?_)
          · first | (go_simp; done) | (go_simp; with_reducible rfl) | (go_simp; rfl)
          · rintro e W1 ⟨he, g1⟩
            rw [eq_selfS] at he
            subst he
            exact ⟨_, rfl, g1, fun W2 _ => rfl⟩
        try simp only [Act.put, List.setIfInBounds_toArray, List.set_cons_zero, List.set_cons_succ]
        refine RelO.next (k' := 12) rfl (fun W gW hF => ?_) ?_
        focus
          obtain ⟨h6, h10, _⟩ := hF
          have e6 : val 6 = .bool false := h6 _ (Frm.refl _ W)
          have e10 : val 10 = .bool true := h10 _ (Frm.refl _ W)
          try simp only [e10]
          try simp only [e6]
          try simp only [tupAt]
          refine OpOK.val (u := .bool false) (by rfl) ?_ (fun W' _ => rfl)
          try simp only [e10]
          try simp only [e6]
          try simp only [tupAt]
          first | (go_simp; done) | (go_simp; with_reducible rfl) | (go_simp; rfl)
        try simp only [Act.put, List.setIfInBounds_toArray, List.set_cons_zero, List.set_cons_succ]
        refine RelO.next (k' := 13) rfl (fun W gW hF => ?_) ?_
        focus
          obtain ⟨h6, h11, _⟩ := hF
          have e6 : val 6 = .bool false := h6 _ (Frm.refl _ W)
          have e11 : val 11 = .bool false := h11 _ (Frm.refl _ W)
          try simp only [e11]
          try simp only [e6]
          try simp only [tupAt]
          refine OpOK.val (u := .bool false) (by rfl) ?_ (fun W' _ => rfl)
          try simp only [e11]
          try simp only [e6]
          try simp only [tupAt]
          first | (go_simp; done) | (go_simp; with_reducible rfl) | (go_simp; rfl)
        try simp only [Act.put, List.setIfInBounds_toArray, List.set_cons_zero, List.set_cons_succ]
        refine RelO.next (k' := 14) rfl (fun W gW hF => ?_) ?_
        focus
          obtain ⟨h12, _⟩ := hF
          have e12 : val 12 = .bool false := h12 _ (Frm.refl _ W)
          try simp only [e12]
          try simp only [tupAt]
          refine OpOK.val (u := .bool false) (by rfl) ?_ (fun W' _ => rfl)
          try simp only [e12]
          try simp only [tupAt]
          first | (go_simp; done) | (go_simp; with_reducible rfl) | (go_simp; rfl)
        try simp only [Act.put, List.setIfInBounds_toArray, List.set_cons_zero, List.set_cons_succ]
        refine RelO.next (k' := 15) rfl (fun W gW hF => ?_) ?_
        focus
          obtain ⟨h13, _⟩ := hF
          have e13 : val 13 = .bool false := h13 _ (Frm.refl _ W)
          try simp only [e13]
          try simp only [tupAt]
          exact OpOK.load (by rfl) _ rfl (by rfl) (load_dotB (HS.out W (D.trans gW)).d) (fun W' _ => rfl)
        try simp only [Act.put, List.setIfInBounds_toArray, List.set_cons_zero, List.set_cons_succ]
        refine RelO.next (k' := 16) rfl (fun W gW hF => ?_) ?_
        focus
          obtain ⟨h13, _⟩ := hF
          have e13 : val 13 = .bool false := h13 _ (Frm.refl _ W)
          try simp only [e13]
          try simp only [tupAt]
          exact OpOK.load (by rfl) _ rfl (by rfl) (load_rdotB (HS.out W (D.trans gW)).c) (fun W' _ => rfl)
        try simp only [Act.put, List.setIfInBounds_toArray, List.set_cons_zero, List.set_cons_succ]
        refine RelO.next (k' := 17) rfl (fun W gW hF => ?_) ?_
        focus
          obtain ⟨h13, h14, h15, _⟩ := hF
          have e13 : val 13 = .bool false := h13 _ (Frm.refl _ W)
          have e14 : val 14 = .agg (dv p q) := h14 _ (Frm.refl _ W)
          have e15 : val 15 = .agg (dv p q) := h15 _ (Frm.refl _ W)
          try simp only [e15]
          try simp only [e14]
          try simp only [e13]
          try simp only [tupAt]
          have E : ∀ W, (Op.equalIn 10000 48 (.agg (dv p q)) (.agg (dv p q))).run Try.prog W = .ok true W := fun W => by rw [run_eq_rdotn]; simp
          exact OpOK.val (u := .bool false) (by rfl) (by first | (go_simp; done) | (go_simp; with_reducible rfl) | (go_simp; rfl)) (fun W' _ => rfl)
        try simp only [Act.put, List.setIfInBounds_toArray, List.set_cons_zero, List.set_cons_succ]
        refine RelO.next (k' := 18) rfl (fun W gW hF => ?_) ?_
        focus
          obtain ⟨h13, h16, _⟩ := hF
          have e13 : val 13 = .bool false := h13 _ (Frm.refl _ W)
          have e16 : val 16 = .bool false := h16 _ (Frm.refl _ W)
          try simp only [e16]
          try simp only [e13]
          try simp only [tupAt]
          refine OpOK.val (u := .bool false) (by rfl) ?_ (fun W' _ => rfl)
          try simp only [e16]
          try simp only [e13]
          try simp only [tupAt]
          first | (go_simp; done) | (go_simp; with_reducible rfl) | (go_simp; rfl)
        try simp only [Act.put, List.setIfInBounds_toArray, List.set_cons_zero, List.set_cons_succ]
        refine RelO.next (k' := 19) rfl (fun W gW hF => ?_) ?_
        focus
          obtain ⟨h17, _⟩ := hF
          have e17 : val 17 = .bool false := h17 _ (Frm.refl _ W)
          try simp only [e17]
          try simp only [tupAt]
          refine OpOK.val (u := .bool false) (by rfl) ?_ (fun W' _ => rfl)
          try simp only [e17]
          try simp only [tupAt]
          first | (go_simp; done) | (go_simp; with_reducible rfl) | (go_simp; rfl)
        try simp only [Act.put, List.setIfInBounds_toArray, List.set_cons_zero, List.set_cons_succ]
        refine RelO.next (k' := 20) rfl (fun W gW hF => ?_) ?_
        focus
          obtain ⟨h18, _⟩ := hF
          have e18 : val 18 = .bool false := h18 _ (Frm.refl _ W)
          try simp only [e18]
          try simp only [tupAt]
          refine OpOK.val (u := .int .i64 (er : Int)) (by rfl) ?_ (fun W' _ => rfl)
          try simp only [e18]
          try simp only [tupAt]
          first | (go_simp; done) | (go_simp; with_reducible rfl) | (go_simp; rfl)
        try simp only [Act.put, List.setIfInBounds_toArray, List.set_cons_zero, List.set_cons_succ]
        refine RelO.next (k' := 21) rfl (fun W gW hF => ?_) ?_
        focus
          obtain ⟨h18, _⟩ := hF
          have e18 : val 18 = .bool false := h18 _ (Frm.refl _ W)
          try simp only [e18]
          try simp only [tupAt]
          refine OpOK.val (u := .int .i64 (er : Int)) (by rfl) ?_ (fun W' _ => rfl)
          try simp only [e18]
          try simp only [tupAt]
          first | (go_simp; done) | (go_simp; with_reducible rfl) | (go_simp; rfl)
        try simp only [Act.put, List.setIfInBounds_toArray, List.set_cons_zero, List.set_cons_succ]
        refine RelO.next (k' := 22) rfl (fun W gW hF => ?_) ?_
        focus
          obtain ⟨h18, h19, h20, _⟩ := hF
          have e18 : val 18 = .bool false := h18 _ (Frm.refl _ W)
          have e19 : val 19 = .int .i64 (er : Int) := h19 _ (Frm.refl _ W)
          have e20 : val 20 = .int .i64 (er : Int) := h20 _ (Frm.refl _ W)
          try simp only [e20]
          try simp only [e19]
          try simp only [e18]
          try simp only [tupAt]
          refine OpOK.val (u := .bool false) (by rfl) ?_ (fun W' _ => rfl)
          try simp only [e20]
          try simp only [e19]
          try simp only [e18]
          try simp only [tupAt]
          first | (go_simp; done) | (go_simp; with_reducible rfl) | (go_simp; rfl)
        try simp only [Act.put, List.setIfInBounds_toArray, List.set_cons_zero, List.set_cons_succ]
        refine RelO.next (k' := 23) rfl (fun W gW hF => ?_) ?_
        focus
          obtain ⟨h18, h21, _⟩ := hF
          have e18 : val 18 = .bool false := h18 _ (Frm.refl _ W)
          have e21 : val 21 = .bool false := h21 _ (Frm.refl _ W)
          try simp only [e21]
          try simp only [e18]
          try simp only [tupAt]
          refine OpOK.val (u := .bool false) (by rfl) ?_ (fun W' _ => rfl)
          try simp only [e21]
          try simp only [e18]
          try simp only [tupAt]
          first | (go_simp; done) | (go_simp; with_reducible rfl) | (go_simp; rfl)
        try simp only [Act.put, List.setIfInBounds_toArray, List.set_cons_zero, List.set_cons_succ]
        exact RelO.nil
      intro val w12 gW hF
      obtain ⟨h0, h1, h2, h3, h4, h5, h6, h7, h8, h9, h10, h11, h12, h13, h14, h15, h16, h17, h18, h19, h20, h21, h22, _⟩ := hF
      have e0 : val 0 = rg f v7 := h0 _ (Frm.refl _ w12)
      have e1 : val 1 = .int .i64 (C : Int) := h1 _ (Frm.refl _ w12)
      have e2 : val 2 = rg f v := h2 _ (Frm.refl _ w12)
      have q3 : ∃ z, (val 3) = rg f z ∧ SL w12 z l := h3 _ (Frm.refl _ w12)
      obtain ⟨x46, e3, o46⟩ := q3
      have e4 : val 4 = .int .i64 (C : Int) := h4 _ (Frm.refl _ w12)
      have e5 : val 5 = .bool false := h5 _ (Frm.refl _ w12)
      have e6 : val 6 = .bool false := h6 _ (Frm.refl _ w12)
      have e7 : val 7 = rg f8 v8 := h7 _ (Frm.refl _ w12)
      have q8 : ∃ z, (val 8) = rg f8 z ∧ SL w12 z l8 := h8 _ (Frm.refl _ w12)
      obtain ⟨x51, e8, o51⟩ := q8
      have e9 : val 9 = rg f8 v11 := h9 _ (Frm.refl _ w12)
      have e10 : val 10 = .bool true := h10 _ (Frm.refl _ w12)
      have e11 : val 11 = .bool false := h11 _ (Frm.refl _ w12)
      have e12 : val 12 = .bool false := h12 _ (Frm.refl _ w12)
      have e13 : val 13 = .bool false := h13 _ (Frm.refl _ w12)
      have e14 : val 14 = .agg (dv p q) := h14 _ (Frm.refl _ w12)
      have e15 : val 15 = .agg (dv p q) := h15 _ (Frm.refl _ w12)
      have e16 : val 16 = .bool false := h16 _ (Frm.refl _ w12)
      have e17 : val 17 = .bool false := h17 _ (Frm.refl _ w12)
      have e18 : val 18 = .bool false := h18 _ (Frm.refl _ w12)
      have e19 : val 19 = .int .i64 (er : Int) := h19 _ (Frm.refl _ w12)
      have e20 : val 20 = .int .i64 (er : Int) := h20 _ (Frm.refl _ w12)
      have e21 : val 21 = .bool false := h21 _ (Frm.refl _ w12)
      have e22 : val 22 = .bool false := h22 _ (Frm.refl _ w12)
      clear h0 h1 h2 h3 h4 h5 h6 h7 h8 h9 h10 h11 h12 h13 h14 h15 h16 h17 h18 h19 h20 h21 h22
      simp only [aO, Act.put, List.setIfInBounds_toArray, List.set_cons_zero, List.set_cons_succ, Nat.reduceAdd]
      try simp only [e22]
      try simp only [e21]
      try simp only [e20]
      try simp only [e19]
      try simp only [e18]
      try simp only [e17]
      try simp only [e16]
      try simp only [e15]
      try simp only [e14]
      try simp only [e13]
      try simp only [e12]
      try simp only [e11]
      try simp only [e10]
      try simp only [e9]
      try simp only [e8]
      try simp only [e7]
      try simp only [e6]
      try simp only [e5]
      try simp only [e4]
      try simp only [e3]
      try simp only [e2]
      try simp only [e1]
      try simp only [e0]
      try simp only [tupAt]
      refine wpTail.doneN ?_
      refine hK _ _ ?_
      have gD := D.trans gW
      clear gW D hK e0 e1 e2 e3 e4 e5 e6 e7 e8 e9 e10 e11 e12 e13 e14 e15 e16 e17 e18 e19 e20 e21 e22
      have S1 := HS.out w12 gD
      have lA := load_reg S1.a
      have k12 := k10.trans gD
      have HSP := Lib.hid (spoilt_any f8 v8 l8 w12 S1.asl)
      clear HCK HRK ho' k10
      go_wp2_with (((with_reducible refine wpl_load rfl _ rfl ?_ lA ?_); (focus rfl)))
      refine HSP.out.mono ?_
      rintro e w13 ⟨rfl, g13⟩
      clear lA HSP
      have hlo8 : ∀ k, v8.ownBlock = some k → N < k ∧ B7 < k ∧ k < B8 := fun k e => ⟨by have := n8 k e; omega, n8 k e, hob8 k e⟩
      have hB11 : B8 + 1 < B11 := by omega
      have K13 : Frm (fun _ => False) w w13 := k12.next g13 (fun k hk e => by have := (hlo8 k e).1; have := HNw.out; omega)
      have hs := HX0.out.keepF K13
      have ho' := HO0.out.keepF K13
      have b0 := S1.x.keep g13 (fun e => by have := (hlo8 _ e).1; omega)
      have e7 := S1.o.keep g13 (fun e => by have := (hlo8 _ e).2.1; omega)
      have o7 := S1.osl.keep g13 (fun g e e2 => by have := (hlo8 _ e2).2.1; have := hob7 g e; omega)
      have e8 := S1.a.keep g13 (fun e => by have := (hlo8 _ e).2.2; omega)
      have e9 := S1.d.keep g13 (fun e => by have := (hlo8 _ e).2.2; omega)
      have e11 := S1.b.keep g13 (fun e => by have := (hlo8 _ e).2.2; omega)
      have e12 := S1.c.keep g13 (fun e => by have := (hlo8 _ e).2.2; omega)
      have hN13 := b0.lt
      have h12lt := e12.lt
      clear S1 HS gD k12 g13 hlo8 n8 hob8 n11 hob11 hsz9 h9lt
      -- what is dropped
      have HSW := Lib.hid (drop_any f _ l r _ over w13 hf o7.sl (by have := HL.out; omega) hr ho')
      have HRW := Lib.hid (fun W x y (hx : SL W x l) (hy : DL W y over) => rdrop_any f x l r y over W hf hx HL.out hy)
      have hTl := dropS_len f l r over
      generalize dropS f l r over = T at *
      obtain ⟨f9, l9, ⟨p2, q2⟩, er2⟩ := T
      simp only at hTl
      have HL9 := Lib.hid (show l9.length ≤ 1000 by have := HL.out; omega)
      clear hTl
      unfold RegTo at HSW HRW
      simp only at HSW HRW
      have l7 := load_reg e7
      go_wp2_with (((with_reducible refine wpl_load rfl _ rfl ?_ l7 ?_); (focus rfl)))
      refine HSW.out.mono ?_
      rintro e w14 ⟨v9, rfl, o9, n9, g14⟩
      obtain ⟨a9, c9, rfl, _, _⟩ := Row.slice o9
      clear l7 HSW
      have b0 := b0.keep g14 (fun h => h)
      have hs := hs.keepF g14
      have ho' := ho'.keepF g14
      have e7 := e7.keep g14 (fun h => h)
      have o7 := o7.keep g14 (fun _ _ h => h)
      have e8 := e8.keep g14 (fun h => h)
      have e9 := e9.keep g14 (fun h => h)
      have e11 := e11.keep g14 (fun h => h)
      have e12 := e12.keep g14 (fun h => h)
      have K14 := K13.trans g14
      have n9 : ∀ g, (Value.slice a9 l9.length c9).ownBlock = some g → B12 < g := fun g e => by have := n9 g e; omega
      clear g14 K13
      go_upto_region 10 with (first
        | ((with_reducible refine wpl_store_blk rfl 39 _ _ rfl (B8) (rgc f9 (.slice a9 l9.length c9)) (rgc f8 v8) ?_ ?_ e8 rfl ?_ ?_ ?_); (focus rfl); (focus rfl); (focus (show _ = some 9; kernel_rfl)); (focus (exact rg_one _ _ _ _)); intro w15 e8 g6 z6; have e9 := e9.keep g6 (by omega))
        | ((with_reducible refine wpl_store_blk rfl 27 _ _ rfl (B9) (dv p2 q2) (dv p q) ?_ ?_ e9 rfl ?_ ?_ ?_); (focus rfl); (focus rfl); (focus (show _ = some 2; kernel_rfl)); (focus (simp [Value.oneCell'])); intro w16 e9 g7 z7; have e8 := e8.keep g7 (by omega)))
      have m3 : Frm (fun k => k = B8 ∨ k = B9) w14 w16 := (g6.mono fun _ _ h => .inl h).trans (g7.mono fun _ _ h => .inr h)
      have K16 : Frm (fun _ => False) w w16 := K14.next m3 (fun k hk e => by have e : k = B8 ∨ k = B9 := e; have := HNw.out; omega)
      have b0 := b0.keep m3 (fun h => by have h : N = B8 ∨ N = B9 := h; omega)
      have hs := HX0.out.keepF K16
      have ho' := HO0.out.keepF K16
      have e7 := e7.keep m3 (fun h => by have h : B7 = B8 ∨ B7 = B9 := h; omega)
      have o7 := o7.keep m3 (fun g e h => by have h : g = B8 ∨ g = B9 := h; have := hob7 g e; omega)
      have o9 := o9.keep m3 (fun g e h => by have h : g = B8 ∨ g = B9 := h; have := n9 g e; omega)
      have e11 := e11.keep m3 (fun h => by have h : B11 = B8 ∨ B11 = B9 := h; omega)
      have e12 := e12.keep m3 (fun h => by have h : B12 = B8 ∨ B12 = B9 := h; omega)
      have h16 := e12.lt
      clear m3 g6 g7 z6 z7 K14
      have lR := load_reg b0
      have HTH := Lib.hid (their_any f _ l w16 hs HL.out)
      go_wp2_with (((with_reducible refine wpl_load rfl _ rfl ?_ lR ?_); (focus rfl)))
      refine HTH.out.mono ?_
      rintro e w17 ⟨x35, rfl, o35, g7, _⟩
      have ho' := ho'.keepF g7
      have HDT := Lib.hid (ldots_any _ over w17 ho' (by omega))
      go_wp2_with fail
      refine HDT.out.mono ?_
      rintro e w18 ⟨x38, rfl, o38, g8⟩
      go_wp2_with fail
      refine (HRW.out w18 _ _ (o35.sl.keepF g8) o38.sl).mono ?_
      rintro e w19 ⟨v12, rfl, o11, n12, g9⟩
      obtain ⟨a11, c11, rfl, _, _⟩ := Row.slice o11
      have gg := (g7.trans g8).trans g9
      have b0 := b0.keep gg (fun h => h)
      have hs := hs.keepF gg
      have e7 := e7.keep gg (fun h => h)
      have o7 := o7.keep gg (fun _ _ h => h)
      have e8 := e8.keep gg (fun h => h)
      have e9 := e9.keep gg (fun h => h)
      have o9 := o9.keep gg (fun _ _ h => h)
      have e11 := e11.keep gg (fun h => h)
      have e12 := e12.keep gg (fun h => h)
      have K19 := K16.trans gg
      have n11 : ∀ g, (Value.slice a11 l9.length c11).ownBlock = some g → ¬ (g = B11 ∨ g = B12) := fun g e => by have := n12 g e; have := (g7.trans g8).size; have := h16; omega
      clear g7 g8 g9 o35 o38 HTH HDT HRW K16 lR gg
      go_upto_region 11 with (first
        | ((with_reducible refine wpl_store_blk rfl 47 _ _ rfl (B11) (rgc f9 (.slice a11 l9.length c11)) (rgc f8 v11) ?_ ?_ e11 rfl ?_ ?_ ?_); (focus rfl); (focus rfl); (focus (show _ = some 9; kernel_rfl)); (focus (exact rg_one _ _ _ _)); intro w11 e11 g6 z6; have e12 := e12.keep g6 (by omega))
        | ((with_reducible refine wpl_store_blk rfl 48 _ _ rfl (B12) (dv p2 q2) (dv p q) ?_ ?_ e12 rfl ?_ ?_ ?_); (focus rfl); (focus rfl); (focus (show _ = some 2; kernel_rfl)); (focus (simp [Value.oneCell'])); intro w20 e12 g7 z7; have e11 := e11.keep g7 (by omega)))
      rename_i hK
      have m3 : Frm (fun k => k = B11 ∨ k = B12) w19 w20 := (g6.mono fun _ _ h => .inl h).trans (g7.mono fun _ _ h => .inr h)
      have K20 : Frm (fun _ => False) w w20 := K19.next m3 (fun k hk e => by have e : k = B11 ∨ k = B12 := e; have := HNw.out; omega)
      have hs := HX0.out.keepF K20
      have S2 : Wst N B7 B8 B9 B11 B12 f f9 v v7 (.slice a9 l9.length c9) (.slice a11 l9.length c11) l l9 p2 q2 w20 :=
        ⟨b0.keep m3 (fun h => by have h : N = B11 ∨ N = B12 := h; omega), hs, e7.keep m3 (fun h => by have h : B7 = B11 ∨ B7 = B12 := h; omega), o7.keep m3 (fun g e h => by have h : g = B11 ∨ g = B12 := h; have := hob7 g e; omega), e8.keep m3 (fun h => by have h : B8 = B11 ∨ B8 = B12 := h; omega), o9.keep m3 (fun g e h => by have h : g = B11 ∨ g = B12 := h; have := n9 g e; omega), e9.keep m3 (fun h => by have h : B9 = B11 ∨ B9 = B12 := h; omega), e11, o11.sl.keep m3 (fun g e => n11 g (o11.blkOf g e)), e12⟩
      clear m3 g6 g7 z6 z7 K19 b0 hs e7 o7 e8 e9 o9 o11 e11 e12
      have HS : Hid (∀ W, Frm (fun _ => False) w20 W → Wst N B7 B8 B9 B11 B12 f f9 v v7 (.slice a9 l9.length c9) (.slice a11 l9.length c11) l l9 p2 q2 W) := Lib.hid fun W g => S2.keep g
      clear S2
      generalize hv9 : Value.slice a9 l9.length c9 = v9 at *
      generalize hv12 : Value.slice a11 l9.length c11 = v12 at *
      have D : Frm (fun _ => False) w20 w20.drew := (Frm.refl _ _).drew
      refine wp_region_late 15 0 [] [[], [0], [], [1, 2], [3], [4], [5], [5], [5, 6, 7], [5, 8], [9], [10], [10], [10, 11, 12], [10, 13]] sw11M (sw11R f9 v9 v12 l9 p2 q2 er2) (by kernel_rfl) rfl rfl rfl (by kernel_rfl) (by kernel_rfl) (by kernel_rfl) (by kernel_rfl) rfl (by kernel_rfl) (by kernel_rfl) (by kernel_rfl) (by kernel_rfl) (fun val => ?_) ?_
      · try dsimp only
        refine RelO.next (k' := 1) rfl (fun W gW hF => ?_) ?_
        focus
          exact OpOK.load (by rfl) _ rfl (by rfl) (load_reg (HS.out W (D.trans gW)).a) (fun W' _ => rfl)
        try simp only [Act.put, List.setIfInBounds_toArray, List.set_cons_zero, List.set_cons_succ]
        refine RelO.next (k' := 2) rfl (fun W gW hF => ?_) ?_
        focus
          obtain ⟨h0, _⟩ := hF
          have e0 : val 0 = rg f9 v9 := h0 _ (Frm.refl _ W)
          try simp only [e0]
          try simp only [tupAt]
          refine OpOK.call (by rfl) ?_ ((their_any f9 v9 l9 W (HS.out W (D.trans gW)).asl.sl HL9.out).mono ?_)
          · first | (go_simp; done) | (go_simp; with_reducible rfl) | (go_simp; rfl)
          · rintro e W1 ⟨v', rfl, o', g', _⟩
            exact ⟨_, rfl, g', fun W2 g2 => ⟨v', rfl, o'.sl.keepF g2⟩⟩
        try simp only [Act.put, List.setIfInBounds_toArray, List.set_cons_zero, List.set_cons_succ]
        refine RelO.next (k' := 3) rfl (fun W gW hF => ?_) ?_
        focus
          exact OpOK.load (by rfl) _ rfl (by rfl) (load_rreg (HS.out W (D.trans gW)).b) (fun W' _ => rfl)
        try simp only [Act.put, List.setIfInBounds_toArray, List.set_cons_zero, List.set_cons_succ]
        refine RelO.next (k' := 4) rfl (fun W gW hF => ?_) ?_
        focus
          obtain ⟨h1, h2, _⟩ := hF
          have q1 : ∃ z, (val 1) = rg f9 z ∧ SL W z l9 := h1 _ (Frm.refl _ W)
          obtain ⟨x87, e1, o87⟩ := q1
          have e2 : val 2 = rg f9 v12 := h2 _ (Frm.refl _ W)
          try simp only [e2]
          try simp only [e1]
          try simp only [tupAt]
          refine OpOK.call (by rfl) ?_ ((requal_any f9 f9 x87 v12 l9 l9 W o87 (HS.out W (D.trans gW)).bs).mono ?_)
          · first | (go_simp; done) | (go_simp; with_reducible rfl) | (go_simp; rfl)
          · rintro e W1 ⟨he, g1⟩
            rw [eq_selfS] at he
            subst he
            exact ⟨_, rfl, g1, fun W2 _ => rfl⟩
        try simp only [Act.put, List.setIfInBounds_toArray, List.set_cons_zero, List.set_cons_succ]
        refine RelO.next (k' := 5) rfl (fun W gW hF => ?_) ?_
        focus
          obtain ⟨h3, _⟩ := hF
          have e3 : val 3 = .bool true := h3 _ (Frm.refl _ W)
          try simp only [e3]
          try simp only [tupAt]
          refine OpOK.val (u := .bool false) (by rfl) ?_ (fun W' _ => rfl)
          try simp only [e3]
          try simp only [tupAt]
          first | (go_simp; done) | (go_simp; with_reducible rfl) | (go_simp; rfl)
        try simp only [Act.put, List.setIfInBounds_toArray, List.set_cons_zero, List.set_cons_succ]
        refine RelO.next (k' := 6) rfl (fun W gW hF => ?_) ?_
        focus
          obtain ⟨h4, _⟩ := hF
          have e4 : val 4 = .bool false := h4 _ (Frm.refl _ W)
          try simp only [e4]
          try simp only [tupAt]
          refine OpOK.val (u := .bool false) (by rfl) ?_ (fun W' _ => rfl)
          try simp only [e4]
          try simp only [tupAt]
          first | (go_simp; done) | (go_simp; with_reducible rfl) | (go_simp; rfl)
        try simp only [Act.put, List.setIfInBounds_toArray, List.set_cons_zero, List.set_cons_succ]
        refine RelO.next (k' := 7) rfl (fun W gW hF => ?_) ?_
        focus
          obtain ⟨h5, _⟩ := hF
          have e5 : val 5 = .bool false := h5 _ (Frm.refl _ W)
          try simp only [e5]
          try simp only [tupAt]
          exact OpOK.load (by rfl) _ rfl (by rfl) (load_dotB (HS.out W (D.trans gW)).d) (fun W' _ => rfl)
        try simp only [Act.put, List.setIfInBounds_toArray, List.set_cons_zero, List.set_cons_succ]
        refine RelO.next (k' := 8) rfl (fun W gW hF => ?_) ?_
        focus
          obtain ⟨h5, _⟩ := hF
          have e5 : val 5 = .bool false := h5 _ (Frm.refl _ W)
          try simp only [e5]
          try simp only [tupAt]
          exact OpOK.load (by rfl) _ rfl (by rfl) (load_rdotB (HS.out W (D.trans gW)).c) (fun W' _ => rfl)
        try simp only [Act.put, List.setIfInBounds_toArray, List.set_cons_zero, List.set_cons_succ]
        refine RelO.next (k' := 9) rfl (fun W gW hF => ?_) ?_
        focus
          obtain ⟨h5, h6, h7, _⟩ := hF
          have e5 : val 5 = .bool false := h5 _ (Frm.refl _ W)
          have e6 : val 6 = .agg (dv p2 q2) := h6 _ (Frm.refl _ W)
          have e7 : val 7 = .agg (dv p2 q2) := h7 _ (Frm.refl _ W)
          try simp only [e7]
          try simp only [e6]
          try simp only [e5]
          try simp only [tupAt]
          have E : ∀ W, (Op.equalIn 10000 48 (.agg (dv p2 q2)) (.agg (dv p2 q2))).run Try.prog W = .ok true W := fun W => by rw [run_eq_rdotn]; simp
          exact OpOK.val (u := .bool false) (by rfl) (by first | (go_simp; done) | (go_simp; with_reducible rfl) | (go_simp; rfl)) (fun W' _ => rfl)
        try simp only [Act.put, List.setIfInBounds_toArray, List.set_cons_zero, List.set_cons_succ]
        refine RelO.next (k' := 10) rfl (fun W gW hF => ?_) ?_
        focus
          obtain ⟨h5, h8, _⟩ := hF
          have e5 : val 5 = .bool false := h5 _ (Frm.refl _ W)
          have e8 : val 8 = .bool false := h8 _ (Frm.refl _ W)
          try simp only [e8]
          try simp only [e5]
          try simp only [tupAt]
          refine OpOK.val (u := .bool false) (by rfl) ?_ (fun W' _ => rfl)
          try simp only [e8]
          try simp only [e5]
          try simp only [tupAt]
          first | (go_simp; done) | (go_simp; with_reducible rfl) | (go_simp; rfl)
        try simp only [Act.put, List.setIfInBounds_toArray, List.set_cons_zero, List.set_cons_succ]
        refine RelO.next (k' := 11) rfl (fun W gW hF => ?_) ?_
        focus
          obtain ⟨h9, _⟩ := hF
          have e9 : val 9 = .bool false := h9 _ (Frm.refl _ W)
          try simp only [e9]
          try simp only [tupAt]
          refine OpOK.val (u := .bool false) (by rfl) ?_ (fun W' _ => rfl)
          try simp only [e9]
          try simp only [tupAt]
          first | (go_simp; done) | (go_simp; with_reducible rfl) | (go_simp; rfl)
        try simp only [Act.put, List.setIfInBounds_toArray, List.set_cons_zero, List.set_cons_succ]
        refine RelO.next (k' := 12) rfl (fun W gW hF => ?_) ?_
        focus
          obtain ⟨h10, _⟩ := hF
          have e10 : val 10 = .bool false := h10 _ (Frm.refl _ W)
          try simp only [e10]
          try simp only [tupAt]
          refine OpOK.val (u := .int .i64 (er2 : Int)) (by rfl) ?_ (fun W' _ => rfl)
          try simp only [e10]
          try simp only [tupAt]
          first | (go_simp; done) | (go_simp; with_reducible rfl) | (go_simp; rfl)
        try simp only [Act.put, List.setIfInBounds_toArray, List.set_cons_zero, List.set_cons_succ]
        refine RelO.next (k' := 13) rfl (fun W gW hF => ?_) ?_
        focus
          obtain ⟨h10, _⟩ := hF
          have e10 : val 10 = .bool false := h10 _ (Frm.refl _ W)
          try simp only [e10]
          try simp only [tupAt]
          refine OpOK.val (u := .int .i64 (er2 : Int)) (by rfl) ?_ (fun W' _ => rfl)
          try simp only [e10]
          try simp only [tupAt]
          first | (go_simp; done) | (go_simp; with_reducible rfl) | (go_simp; rfl)
        try simp only [Act.put, List.setIfInBounds_toArray, List.set_cons_zero, List.set_cons_succ]
        refine RelO.next (k' := 14) rfl (fun W gW hF => ?_) ?_
        focus
          obtain ⟨h10, h11, h12, _⟩ := hF
          have e10 : val 10 = .bool false := h10 _ (Frm.refl _ W)
          have e11 : val 11 = .int .i64 (er2 : Int) := h11 _ (Frm.refl _ W)
          have e12 : val 12 = .int .i64 (er2 : Int) := h12 _ (Frm.refl _ W)
          try simp only [e12]
          try simp only [e11]
          try simp only [e10]
          try simp only [tupAt]
          refine OpOK.val (u := .bool false) (by rfl) ?_ (fun W' _ => rfl)
          try simp only [e12]
          try simp only [e11]
          try simp only [e10]
          try simp only [tupAt]
          first | (go_simp; done) | (go_simp; with_reducible rfl) | (go_simp; rfl)
        try simp only [Act.put, List.setIfInBounds_toArray, List.set_cons_zero, List.set_cons_succ]
        refine RelO.next (k' := 15) rfl (fun W gW hF => ?_) ?_
        focus
          obtain ⟨h10, h13, _⟩ := hF
          have e10 : val 10 = .bool false := h10 _ (Frm.refl _ W)
          have e13 : val 13 = .bool false := h13 _ (Frm.refl _ W)
          try simp only [e13]
          try simp only [e10]
          try simp only [tupAt]
          refine OpOK.val (u := .bool false) (by rfl) ?_ (fun W' _ => rfl)
          try simp only [e13]
          try simp only [e10]
          try simp only [tupAt]
          first | (go_simp; done) | (go_simp; with_reducible rfl) | (go_simp; rfl)
        try simp only [Act.put, List.setIfInBounds_toArray, List.set_cons_zero, List.set_cons_succ]
        exact RelO.nil
      intro val w21 gW hF
      obtain ⟨h0, h1, h2, h3, h4, h5, h6, h7, h8, h9, h10, h11, h12, h13, h14, _⟩ := hF
      have e0 : val 0 = rg f9 v9 := h0 _ (Frm.refl _ w21)
      have q1 : ∃ z, (val 1) = rg f9 z ∧ SL w21 z l9 := h1 _ (Frm.refl _ w21)
      obtain ⟨x87, e1, o87⟩ := q1
      have e2 : val 2 = rg f9 v12 := h2 _ (Frm.refl _ w21)
      have e3 : val 3 = .bool true := h3 _ (Frm.refl _ w21)
      have e4 : val 4 = .bool false := h4 _ (Frm.refl _ w21)
      have e5 : val 5 = .bool false := h5 _ (Frm.refl _ w21)
      have e6 : val 6 = .agg (dv p2 q2) := h6 _ (Frm.refl _ w21)
      have e7 : val 7 = .agg (dv p2 q2) := h7 _ (Frm.refl _ w21)
      have e8 : val 8 = .bool false := h8 _ (Frm.refl _ w21)
      have e9 : val 9 = .bool false := h9 _ (Frm.refl _ w21)
      have e10 : val 10 = .bool false := h10 _ (Frm.refl _ w21)
      have e11 : val 11 = .int .i64 (er2 : Int) := h11 _ (Frm.refl _ w21)
      have e12 : val 12 = .int .i64 (er2 : Int) := h12 _ (Frm.refl _ w21)
      have e13 : val 13 = .bool false := h13 _ (Frm.refl _ w21)
      have e14 : val 14 = .bool false := h14 _ (Frm.refl _ w21)
      clear h0 h1 h2 h3 h4 h5 h6 h7 h8 h9 h10 h11 h12 h13 h14
      simp only [aO, Act.put, List.setIfInBounds_toArray, List.set_cons_zero, List.set_cons_succ, Nat.reduceAdd]
      try simp only [e14]
      try simp only [e13]
      try simp only [e12]
      try simp only [e11]
      try simp only [e10]
      try simp only [e9]
      try simp only [e8]
      try simp only [e7]
      try simp only [e6]
      try simp only [e5]
      try simp only [e4]
      try simp only [e3]
      try simp only [e2]
      try simp only [e1]
      try simp only [e0]
      try simp only [tupAt]
      refine wpTail.doneN ?_
      refine hK _ _ ?_
      have gD := D.trans gW
      clear gW D hK e0 e1 e2 e3 e4 e5 e6 e7 e8 e9 e10 e11 e12 e13 e14
      have S1 := HS.out w21 gD
      have lA := load_reg S1.a
      have k12 := K20.trans gD
      have HSP := Lib.hid (spoilt_any f9 v9 l9 w21 S1.asl)
      go_wp2_with (((with_reducible refine wpl_load rfl _ rfl ?_ lA ?_); (focus rfl)))
      refine HSP.out.mono ?_
      rintro e w22 ⟨rfl, g13⟩
      clear lA HSP
      have K22 : Frm (fun _ => False) w w22 := k12.next g13 (fun k hk e => by have := n9 k e; have := HNw.out; omega)
      have hs := HX0.out.keepF K22
      have S3 : Blk w22 N 39 (rgc f v) ∧ Blk w22 B7 39 (rgc f v7) ∧ OwnL w22 v7 l := ⟨S1.x.keep g13 (fun e => by have := n9 _ e; omega), S1.o.keep g13 (fun e => by have := n9 _ e; omega), S1.osl.keep g13 (fun g e e2 => by have := n9 _ e2; have := hob7 g e; omega)⟩
      have HS : Hid (∀ W, Frm (fun _ => False) w22 W → Wst2 N B7 f v v7 l W) := Lib.hid fun W g => ⟨S3.1.keep g (fun h => h), hs.keepF g, S3.2.1.keep g (fun h => h), S3.2.2.keep g (fun _ _ h => h)⟩
      clear S3 S1 hs
      go_upto_region 14 with fail
      rename_i hK
      have D : Frm (fun _ => False) w22 w22.drew := (Frm.refl _ _).drew
      refine wp_region_late 9 0 [] [[], [0], [], [2], [1, 3], [4], [5], [5, 6], [7]] sw14M (sw14R f v v7 l) (by kernel_rfl) rfl rfl rfl (by kernel_rfl) (by kernel_rfl) (by kernel_rfl) (by kernel_rfl) rfl (by kernel_rfl) (by kernel_rfl) (by kernel_rfl) (by kernel_rfl) (fun val => ?_) ?_
      · try dsimp only
        refine RelO.next (k' := 1) rfl (fun W gW hF => ?_) ?_
        focus
          exact OpOK.load (by rfl) _ rfl (by rfl) (load_reg (HS.out W (D.trans gW)).o) (fun W' _ => rfl)
        try simp only [Act.put, List.setIfInBounds_toArray, List.set_cons_zero, List.set_cons_succ]
        refine RelO.next (k' := 2) rfl (fun W gW hF => ?_) ?_
        focus
          obtain ⟨h0, _⟩ := hF
          have e0 : val 0 = rg f v7 := h0 _ (Frm.refl _ W)
          try simp only [e0]
          try simp only [tupAt]
          refine OpOK.call (by rfl) ?_ ((their_any f v7 l W (HS.out W (D.trans gW)).osl.sl HL.out).mono ?_)
          · first | (go_simp; done) | (go_simp; with_reducible rfl) | (go_simp; rfl)
          · rintro e W1 ⟨v', rfl, o', g', _⟩
            exact ⟨_, rfl, g', fun W2 g2 => ⟨v', rfl, o'.sl.keepF g2⟩⟩
        try simp only [Act.put, List.setIfInBounds_toArray, List.set_cons_zero, List.set_cons_succ]
        refine RelO.next (k' := 3) rfl (fun W gW hF => ?_) ?_
        focus
          exact OpOK.load (by rfl) _ rfl (by rfl) (load_reg (HS.out W (D.trans gW)).x) (fun W' _ => rfl)
        try simp only [Act.put, List.setIfInBounds_toArray, List.set_cons_zero, List.set_cons_succ]
        refine RelO.next (k' := 4) rfl (fun W gW hF => ?_) ?_
        focus
          obtain ⟨h2, _⟩ := hF
          have e2 : val 2 = rg f v := h2 _ (Frm.refl _ W)
          try simp only [e2]
          try simp only [tupAt]
          refine OpOK.call (by rfl) ?_ ((their_any f v l W (HS.out W (D.trans gW)).xs HL.out).mono ?_)
          · first | (go_simp; done) | (go_simp; with_reducible rfl) | (go_simp; rfl)
          · rintro e W1 ⟨v', rfl, o', g', _⟩
            exact ⟨_, rfl, g', fun W2 g2 => ⟨v', rfl, o'.sl.keepF g2⟩⟩
        try simp only [Act.put, List.setIfInBounds_toArray, List.set_cons_zero, List.set_cons_succ]
        refine RelO.next (k' := 5) rfl (fun W gW hF => ?_) ?_
        focus
          obtain ⟨h1, h3, _⟩ := hF
          have q1 : ∃ z, (val 1) = rg f z ∧ SL W z l := h1 _ (Frm.refl _ W)
          obtain ⟨x104, e1, o104⟩ := q1
          have q3 : ∃ z, (val 3) = rg f z ∧ SL W z l := h3 _ (Frm.refl _ W)
          obtain ⟨x106, e3, o106⟩ := q3
          try simp only [e3]
          try simp only [e1]
          try simp only [tupAt]
          refine OpOK.call (by rfl) ?_ ((requal_any f f x104 x106 l l W o104 o106).mono ?_)
          · first | (go_simp; done) | (go_simp; with_reducible rfl) | (go_simp; rfl)
          · rintro e W1 ⟨he, g1⟩
            rw [eq_selfS] at he
            subst he
            exact ⟨_, rfl, g1, fun W2 _ => rfl⟩
        try simp only [Act.put, List.setIfInBounds_toArray, List.set_cons_zero, List.set_cons_succ]
        refine RelO.next (k' := 6) rfl (fun W gW hF => ?_) ?_
        focus
          obtain ⟨h4, _⟩ := hF
          have e4 : val 4 = .bool true := h4 _ (Frm.refl _ W)
          try simp only [e4]
          try simp only [tupAt]
          refine OpOK.val (u := .bool true) (by rfl) ?_ (fun W' _ => rfl)
          try simp only [e4]
          try simp only [tupAt]
          first | (go_simp; done) | (go_simp; with_reducible rfl) | (go_simp; rfl)
        try simp only [Act.put, List.setIfInBounds_toArray, List.set_cons_zero, List.set_cons_succ]
        refine RelO.next (k' := 7) rfl (fun W gW hF => ?_) ?_
        focus
          obtain ⟨h5, _⟩ := hF
          have e5 : val 5 = .bool true := h5 _ (Frm.refl _ W)
          try simp only [e5]
          try simp only [tupAt]
          refine OpOK.call (by rfl) ?_ ((sworks_any W).mono ?_)
          · first | (go_simp; done) | (go_simp; with_reducible rfl) | (go_simp; rfl)
          · rintro e W1 ⟨rfl, g1⟩
            exact ⟨_, rfl, g1, fun W2 _ => rfl⟩
        try simp only [Act.put, List.setIfInBounds_toArray, List.set_cons_zero, List.set_cons_succ]
        refine RelO.next (k' := 8) rfl (fun W gW hF => ?_) ?_
        focus
          obtain ⟨h5, h6, _⟩ := hF
          have e5 : val 5 = .bool true := h5 _ (Frm.refl _ W)
          have e6 : val 6 = .bool true := h6 _ (Frm.refl _ W)
          try simp only [e6]
          try simp only [e5]
          try simp only [tupAt]
          refine OpOK.val (u := .bool true) (by rfl) ?_ (fun W' _ => rfl)
          try simp only [e6]
          try simp only [e5]
          try simp only [tupAt]
          first | (go_simp; done) | (go_simp; with_reducible rfl) | (go_simp; rfl)
        try simp only [Act.put, List.setIfInBounds_toArray, List.set_cons_zero, List.set_cons_succ]
        refine RelO.next (k' := 9) rfl (fun W gW hF => ?_) ?_
        focus
          obtain ⟨h7, _⟩ := hF
          have e7 : val 7 = .bool true := h7 _ (Frm.refl _ W)
          try simp only [e7]
          try simp only [tupAt]
          refine OpOK.val (u := .bool true) (by rfl) ?_ (fun W' _ => rfl)
          try simp only [e7]
          try simp only [tupAt]
          first | (go_simp; done) | (go_simp; with_reducible rfl) | (go_simp; rfl)
        try simp only [Act.put, List.setIfInBounds_toArray, List.set_cons_zero, List.set_cons_succ]
        exact RelO.nil
      intro val w23 gW hF
      obtain ⟨h0, h1, h2, h3, h4, h5, h6, h7, h8, _⟩ := hF
      have e0 : val 0 = rg f v7 := h0 _ (Frm.refl _ w23)
      have q1 : ∃ z, (val 1) = rg f z ∧ SL w23 z l := h1 _ (Frm.refl _ w23)
      obtain ⟨x104, e1, o104⟩ := q1
      have e2 : val 2 = rg f v := h2 _ (Frm.refl _ w23)
      have q3 : ∃ z, (val 3) = rg f z ∧ SL w23 z l := h3 _ (Frm.refl _ w23)
      obtain ⟨x106, e3, o106⟩ := q3
      have e4 : val 4 = .bool true := h4 _ (Frm.refl _ w23)
      have e5 : val 5 = .bool true := h5 _ (Frm.refl _ w23)
      have e6 : val 6 = .bool true := h6 _ (Frm.refl _ w23)
      have e7 : val 7 = .bool true := h7 _ (Frm.refl _ w23)
      have e8 : val 8 = .bool true := h8 _ (Frm.refl _ w23)
      clear h0 h1 h2 h3 h4 h5 h6 h7 h8
      simp only [aO, Act.put, List.setIfInBounds_toArray, List.set_cons_zero, List.set_cons_succ, Nat.reduceAdd]
      try simp only [e8]
      try simp only [e7]
      try simp only [e6]
      try simp only [e5]
      try simp only [e4]
      try simp only [e3]
      try simp only [e2]
      try simp only [e1]
      try simp only [e0]
      try simp only [tupAt]
      refine wpTail.doneN ?_
      refine hK _ _ ?_
      have gD := D.trans gW
      clear gW D hK e0 e1 e2 e3 e4 e5 e6 e7 e8
      go_wp2_with fail
      go_ret
      exact ⟨rfl, K22.trans gD⟩
    · have hovi : (30 : Int) < (over.length : Int) := by omega
      clear hov
      go_wp2_with (((with_reducible refine wpl_load rfl _ rfl ?_ lR ?_); (focus rfl)))
      refine (HWK.out w1).mono ?_
      rintro e w2 ⟨rfl, g2⟩
      go_wp2_with fail
      go_ret
      exact ⟨rfl, k1.trans g2⟩
  · have HFW := Lib.hid (sfew_no f _ l w0 hs hfew)
    clear hfew
    go_wp2_with (((with_reducible refine wpl_load rfl _ rfl ?_ lR ?_); (focus rfl)))
    refine HFW.out.mono ?_
    rintro e w1 ⟨rfl, g1⟩
    clear HFW lR
    go_wp2_with fail
    refine (HWK.out w1).mono ?_
    rintro e w2 ⟨rfl, g2⟩
    go_wp2_with fail
    go_ret
    exact ⟨rfl, (g0.trans g1).trans g2⟩
end Go.Proofs.Ytmdmkcofafhlcaa

