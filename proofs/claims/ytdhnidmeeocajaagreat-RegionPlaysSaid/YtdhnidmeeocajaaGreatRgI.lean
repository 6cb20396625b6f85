/- Whether a log block is complete; what a header tells. No condition. -/
import Derived.Test.YtdhnidmeeocajaaGreatRgF
import Derived.Lib.Builder
import Derived.Lib.UnsafeStr
import Derived.Deep.DeepCutAuto
section
namespace Go.Proofs.YtdhnidmeeocajaaGreat
open Go.RowKit Go.Shelf

theorem okB_all (i : Nat) (s : List UInt8) (hs : s.length = 64) : ([(0, decide (fNum s = i)), (0, decide (fAgain s = i)), (0, decide (fEnd s ≤ 1)), (0, decide (fSize s ≤ 58)), (0, decide (fEnd s = 1 ∨ fSize s = 58)), (0, decide ((fBytes s).drop (pieceB s).length = nul (58 - (pieceB s).length)))] : List (Nat × Bool)).all (·.2) = decide (okB i s) := by
  rw [Bool.eq_iff_iff]
  simp only [List.all_cons, List.all_nil, Bool.and_true, Bool.and_eq_true, decide_eq_true_eq]
  have hp : (pieceB s).length = min (fSize s) 58 := by unfold pieceB; rw [List.length_take, fBytes_len hs]
  rw [hp]
  unfold okB
  constructor
  · rintro ⟨h1, h2, h3, h4, h5, h6⟩
    rw [Nat.min_eq_left h4] at h6
    exact ⟨h1, h2, h3, h4, h5, h6⟩
  · rintro ⟨h1, h2, h3, h4, h5, h6⟩
    rw [Nat.min_eq_left h4]
    exact ⟨h1, h2, h3, h4, h5, h6⟩
set_option maxRecDepth 100000 in
set_option maxHeartbeats 4000000 in
theorem complete_any (i : Nat) (s : List UInt8) (hs : s.length = 64) (w : World) : Calls Tryz.prog 107 #[entV i s] w fun e w' => e = .returned (.bool (decide (okB i s))) ∧ Frm (fun _ => False) w w' := by
  have hA := okB_all i s hs
  have R0 := rg_begun i s
  have R1 := rg_finished i s
  have R2 := rg_plain i s
  have R3 := rg_fits i s
  have R4 := rg_filled i s
  have R5 := rg_padded i s hs
  simp only [List.all_cons, List.all_nil, Bool.and_true] at hA
  obtain ⟨b0, h0⟩ : ∃ b, decide (fNum s = i) = b := ⟨_, rfl⟩
  obtain ⟨b1, h1⟩ : ∃ b, decide (fAgain s = i) = b := ⟨_, rfl⟩
  obtain ⟨b2, h2⟩ : ∃ b, decide (fEnd s ≤ 1) = b := ⟨_, rfl⟩
  obtain ⟨b3, h3⟩ : ∃ b, decide (fSize s ≤ 58) = b := ⟨_, rfl⟩
  obtain ⟨b4, h4⟩ : ∃ b, decide (fEnd s = 1 ∨ fSize s = 58) = b := ⟨_, rfl⟩
  obtain ⟨b5, h5⟩ : ∃ b, decide ((fBytes s).drop (pieceB s).length = nul (58 - (pieceB s).length)) = b := ⟨_, rfl⟩
  rw [h0, h1, h2, h3, h4, h5] at hA
  rw [h0] at R0
  rw [h1] at R1
  rw [h2] at R2
  rw [h3] at R3
  rw [h4] at R4
  rw [h5] at R5
  clear h0 h1 h2 h3 h4 h5
  rw [← hA]
  have HA := Lib.hid (fun (g : Nat) (W : World) (hb : ∃ t, Blk W g t #[.func (.func 128) #[entV i s] #[], .func (.func 129) #[entV i s] #[], .func (.func 130) #[entV i s] #[], .func (.func 131) #[entV i s] #[], .func (.func 132) #[entV i s] #[], .func (.func 133) #[entV i s] #[]]) =>
    all_any (entV i s) [(128, b0), (129, b1), (130, b2), (131, b3), (132, b4), (133, b5)] g W (by show 6 ≤ 100; decide)
      (fun k hk => by
        obtain ⟨t, hb⟩ := hb
        match k, hk with
        | 0, _ => exact hb.cell 0 rfl
        | 1, _ => exact hb.cell 1 rfl
        | 2, _ => exact hb.cell 2 rfl
        | 3, _ => exact hb.cell 3 rfl
        | 4, _ => exact hb.cell 4 rfl
        | 5, _ => exact hb.cell 5 rfl)
      (fun k hk => by
        match k, hk with
        | 0, _ => exact R0
        | 1, _ => exact R1
        | 2, _ => exact R2
        | 3, _ => exact R3
        | 4, _ => exact R4
        | 5, _ => exact R5)
      (fun k hk => by
        match k, hk with
        | 0, _ => intro W; show (callFunc 128 _).run _ _ = .ok (.enter 128 _) _; go_simp
        | 1, _ => intro W; show (callFunc 129 _).run _ _ = .ok (.enter 129 _) _; go_simp
        | 2, _ => intro W; show (callFunc 130 _).run _ _ = .ok (.enter 130 _) _; go_simp
        | 3, _ => intro W; show (callFunc 131 _).run _ _ = .ok (.enter 131 _) _; go_simp
        | 4, _ => intro W; show (callFunc 132 _).run _ _ = .ok (.enter 132 _) _; go_simp
        | 5, _ => intro W; show (callFunc 133 _).run _ _ = .ok (.enter 133 _) _; go_simp))
  clear R0 R1 R2 R3 R4 R5 hA
  simp only [List.length_cons, List.length_nil, List.all_cons, List.all_nil, Bool.and_true] at HA
  obtain ⟨ans, hans⟩ : ∃ ans, (b0 && (b1 && (b2 && (b3 && (b4 && b5))))) = ans := ⟨_, rfl⟩
  rw [hans] at HA ⊢
  clear hans
  obtain ⟨n1, hn1⟩ : ∃ n, fNum s = n := ⟨_, rfl⟩
  obtain ⟨n2, hn2⟩ : ∃ n, fEnd s = n := ⟨_, rfl⟩
  obtain ⟨n3, hn3⟩ : ∃ n, fSize s = n := ⟨_, rfl⟩
  obtain ⟨n4, hn4⟩ : ∃ n, fBytes s = n := ⟨_, rfl⟩
  obtain ⟨n5, hn5⟩ : ∃ n, fAgain s = n := ⟨_, rfl⟩
  unfold entV at HA ⊢
  simp only [hn1, hn2, hn3, hn4, hn5] at HA ⊢
  clear hn1 hn2 hn3 hn4 hn5
  have gA : Frm (fun _ => False) w (w.alloc (.cells #[.int .u16 (i : Nat), .int .u16 (n1 : Nat), .int .u8 (n2 : Nat), .int .u8 (n3 : Nat), .string (bs n4), .int .u16 (n5 : Nat)] 157)) := (Frm.refl _ w).alloc _
  have bA : Blk (w.alloc (.cells #[.int .u16 (i : Nat), .int .u16 (n1 : Nat), .int .u8 (n2 : Nat), .int .u8 (n3 : Nat), .string (bs n4), .int .u16 (n5 : Nat)] 157)) w.heap.size 157 #[.int .u16 (i : Nat), .int .u16 (n1 : Nat), .int .u8 (n2 : Nat), .int .u8 (n3 : Nat), .string (bs n4), .int .u16 (n5 : Nat)] := Blk.alloc w _ _
  obtain ⟨w1, hw1⟩ : ∃ w1, w.alloc (.cells #[.int .u16 (i : Nat), .int .u16 (n1 : Nat), .int .u8 (n2 : Nat), .int .u8 (n3 : Nat), .string (bs n4), .int .u16 (n5 : Nat)] 157) = w1 := ⟨_, rfl⟩
  rw [hw1] at gA bA
  have c0 := bA.cell 0 rfl
  have c1 := bA.cell 1 rfl
  have c2 := bA.cell 2 rfl
  have c3 := bA.cell 3 rfl
  have c4 := bA.cell 4 rfl
  have c5 := bA.cell 5 rfl
  clear bA
  have G1 := Lib.hid gA
  clear gA
  go_enter Tryz.func107, Tryz.ntmps107
  go_wp2_with fail
  refine (HA.out _ _ ⟨_, Blk.alloc _ _ _⟩).mono ?_
  rintro e w2 ⟨rfl, g2⟩
  have G2 := Lib.hid ((G1.out.alloc _).trans g2)
  clear g2
  go_wp2_with fail
  go_ret
  exact ⟨rfl, G2.out⟩
end Go.Proofs.YtdhnidmeeocajaaGreat
end
section
namespace Go.Proofs.YtdhnidmeeocajaaGreat
open Go.RowKit Go.Shelf

def headV (g : Nat) (m : List UInt8) (a : Nat) : Value := .agg #[.int .u32 (g : Nat), .string (bs m), .int .u32 (a : Nat)]
set_option maxRecDepth 100000 in
set_option maxHeartbeats 2000000 in
theorem rg_given (g a : Nat) (m : List UInt8) : RuleE 103 (headV g m a) (decide (0 < g)) := by
  intro w
  unfold headV
  have hb : decide (0 < (g : Int)) = decide (0 < g) := by rw [Bool.eq_iff_iff]; simp
  have gA : Frm (fun _ => False) w (w.alloc (.cells #[.int .u32 (g : Nat), .string (bs m), .int .u32 (a : Nat)] 154)) := (Frm.refl _ w).alloc _
  go_enter Tryz.func103, Tryz.ntmps103
  go_wp2_with fail
  go_ret
  exact ⟨rfl, gA⟩
set_option maxRecDepth 100000 in
set_option maxHeartbeats 2000000 in
theorem rg_twice (g a : Nat) (m : List UInt8) : RuleE 105 (headV g m a) (decide (a = g)) := by
  intro w
  unfold headV
  have hb : ((a : Int) == (g : Int)) = decide (a = g) := by rw [Bool.eq_iff_iff]; simp; omega
  have gA : Frm (fun _ => False) w (w.alloc (.cells #[.int .u32 (g : Nat), .string (bs m), .int .u32 (a : Nat)] 154)) := (Frm.refl _ w).alloc _
  go_enter Tryz.func105, Tryz.ntmps105
  go_wp2_with fail
  go_ret
  exact ⟨rfl, gA⟩
set_option maxRecDepth 100000 in
set_option maxHeartbeats 2000000 in
theorem rg_empty (g a : Nat) (m : List UInt8) (hm : m.length = 56) : RuleE 104 (headV g m a) (decide (m = nul 56)) := by
  intro w
  unfold headV
  have gA : Frm (fun _ => False) w (w.alloc (.cells #[.int .u32 (g : Nat), .string (bs m), .int .u32 (a : Nat)] 154)) := (Frm.refl _ w).alloc _
  have hB := fun W => blank_any m W (by omega)
  rw [hm] at hB
  have HB := Lib.hid hB
  clear hB hm
  go_enter Tryz.func104, Tryz.ntmps104
  go_wp2_with fail
  refine (HB.out _).mono ?_
  rintro e w1 ⟨rfl, g1⟩
  have G1 := Lib.hid (gA.trans g1)
  clear g1
  go_wp2_with fail
  go_ret
  exact ⟨rfl, G1.out⟩
/-- All rules of a header. -/
theorem rgall_any (g a : Nat) (m : List UInt8) (hm : m.length = 56) (p : Nat) (W : World) (hb : ∃ t, Blk W p t #[.func (.func 103) #[headV g m a] #[], .func (.func 104) #[headV g m a] #[], .func (.func 105) #[headV g m a] #[]]) :
    Calls Tryz.prog 102 #[.slice (some ⟨p, 0, none⟩) 3 3] W fun e w' => e = .returned (.bool (decide (0 < g ∧ m = nul 56 ∧ a = g))) ∧ Frm (fun _ => False) W w' := by
  have R0 := rg_given g a m
  have R1 := rg_empty g a m hm
  have R2 := rg_twice g a m
  have h := all_any (headV g m a) [(103, decide (0 < g)), (104, decide (m = nul 56)), (105, decide (a = g))] p W (by show 3 ≤ 100; decide)
      (fun k hk => by
        obtain ⟨t, hb⟩ := hb
        match k, hk with
        | 0, _ => exact hb.cell 0 rfl
        | 1, _ => exact hb.cell 1 rfl
        | 2, _ => exact hb.cell 2 rfl)
      (fun k hk => by
        match k, hk with
        | 0, _ => exact R0
        | 1, _ => exact R1
        | 2, _ => exact R2)
      (fun k hk => by
        match k, hk with
        | 0, _ => intro W; show (callFunc 103 _).run _ _ = .ok (.enter 103 _) _; go_simp
        | 1, _ => intro W; show (callFunc 104 _).run _ _ = .ok (.enter 104 _) _; go_simp
        | 2, _ => intro W; show (callFunc 105 _).run _ _ = .ok (.enter 105 _) _; go_simp)
  refine h.mono fun e w' ⟨h1, h2⟩ => ⟨?_, h2⟩
  rw [h1]
  congr 2
  simp only [List.all_cons, List.all_nil, Bool.and_true, Bool.decide_and]
set_option maxRecDepth 100000 in
set_option maxHeartbeats 4000000 in
theorem generation_any (s : List UInt8) (w : World) (hs : s.length = 64) : Calls Tryz.prog 69 #[.string (bs s)] w fun e w' => e = .returned (.int .u32 (genOf s : Nat)) ∧ Frm (fun _ => False) w w' := by
  have HR := Lib.hid (cread_any s w (by omega))
  obtain ⟨g0, hg0⟩ : ∃ n, beN (s.take 4) = n := ⟨_, rfl⟩
  obtain ⟨m0, hm0⟩ : ∃ n, (s.drop 4).take 56 = n := ⟨_, rfl⟩
  obtain ⟨a0, ha0⟩ : ∃ n, beN ((s.drop 60).take 4) = n := ⟨_, rfl⟩
  have hlt : g0 < 4294967296 := by rw [← hg0]; exact beN_lt 4 _ (by rw [List.length_take]; omega)
  have hml : m0.length = 56 := by rw [← hm0, List.length_take, List.length_drop]; omega
  have hans : genOf s = if 0 < g0 ∧ m0 = nul 56 ∧ a0 = g0 then g0 else 0 := by unfold genOf; rw [hg0, hm0, ha0]
  rw [hans]
  have HG := Lib.hid (And.intro hg0 (And.intro hm0 ha0))
  clear hg0 hm0 ha0 hans
  have HA := rgall_any g0 a0 m0 hml
  obtain ⟨B, hB⟩ : ∃ B, w.heap.size = B := ⟨_, rfl⟩
  rw [hB] at HR
  have HBB := Lib.hid hB
  clear hB
  go_enter Tryz.func69, Tryz.ntmps69
  go_wp2_with fail
  refine HR.out.mono ?_
  rintro e w2 ⟨rfl, r2, g2⟩
  have K1 := ru32_any B s 0 w2 r2
  rw [numS_ok (show 4 ≤ s.length by omega), HG.out.1] at K1
  have K1 := Lib.hid K1
  have G2 := Lib.hid g2
  clear r2 g2 HR
  go_wp2_with fail
  refine K1.out.mono ?_
  rintro e w3 ⟨rfl, r3, g3⟩
  have G3 := Lib.hid (G2.out.next g3 (fun k hk e => by have := HBB.out; omega))
  have K2 := fixed_pos B _ _ 56 w3 r3 (by decide)
  rw [nextS_ok (show 56 ≤ (s.drop 4).length by rw [List.length_drop]; omega), List.drop_drop, HG.out.2.1] at K2
  have K2 := Lib.hid K2
  clear r3 g3 K1
  go_wp2_with fail
  refine K2.out.mono ?_
  rintro e w4 ⟨rfl, r4, g4⟩
  have G4 := Lib.hid (G3.out.next g4 (fun k hk e => by have := HBB.out; omega))
  have K3 := ru32_any B _ _ w4 r4
  rw [numS_ok (show 4 ≤ (s.drop (4 + 56)).length by rw [List.length_drop]; omega), HG.out.2.2] at K3
  have K3 := Lib.hid K3
  clear r4 g4 K2
  go_wp2_with fail
  refine K3.out.mono ?_
  rintro e w5 ⟨rfl, r5, g5⟩
  have G5 := Lib.hid (G4.out.next g5 (fun k hk e => by have := HBB.out; omega))
  have hBw : B ≤ w5.heap.size := by have := G5.out.size; have := HBB.out; omega
  clear r5 g5 K3
  go_wp2_with fail
  obtain ⟨W1, hW1⟩ : ∃ W1, w5.alloc (.cells #[.int .u32 (g0 : Nat), .string (bs m0), .int .u32 (a0 : Nat)] 154) = W1 := ⟨_, rfl⟩
  have hz1 : W1.heap.size = w5.heap.size + 1 := by rw [← hW1]; simp
  have bW : Blk W1 w5.heap.size 154 #[.int .u32 (g0 : Nat), .string (bs m0), .int .u32 (a0 : Nat)] := by rw [← hW1]; exact Blk.alloc w5 _ _
  have gW : Frm (fun _ => False) w W1 := by rw [← hW1]; exact G5.out.alloc _
  rw [hW1, ← hz1]
  have HC := Lib.hid (HA W1.heap.size (W1.alloc (.cells #[.func (.func 103) #[headV g0 m0 a0] #[], .func (.func 104) #[headV g0 m0 a0] #[], .func (.func 105) #[headV g0 m0 a0] #[]] 27)) ⟨_, Blk.alloc _ _ _⟩)
  have HW := Lib.hid (And.intro bW gW)
  clear HA hW1 hz1 bW gW
  unfold headV at HC
  refine HC.out.mono ?_
  rintro e w6 ⟨rfl, g6⟩
  have gA : Frm (fun _ => False) W1 w6 := ((Frm.refl _ W1).alloc _).trans g6
  have c0 := (HW.out.1.keep gA (fun h => h)).cell 0 rfl
  have G6 := Lib.hid (HW.out.2.trans gA)
  clear g6 gA HC
  by_cases hall : 0 < g0 ∧ m0 = nul 56 ∧ a0 = g0
  · rw [decide_eq_true hall]
    have HL := Lib.hid hall
    clear hall
    go_wp2_with fail
    go_ret
    exact ⟨rfl, G6.out⟩
  · rw [decide_eq_false hall]
    have HL := Lib.hid hall
    clear hall
    go_wp2_with fail
    go_ret
    exact ⟨rfl, G6.out⟩
end Go.Proofs.YtdhnidmeeocajaaGreat
end
section
namespace Go.Proofs.YtdhnidmeeocajaaGreat
open Go.RowKit Go.Shelf

theorem row_of_owns {w : World} {B n : Nat} {e : TypeId} {v : Value} {xs : List Value} (h : w.ownsRow B e 1 v n xs) : Row w 1 v n xs := by
  refine ⟨h.1, ?_⟩
  rcases h.2 with ⟨h1, h2⟩ | ⟨g, cap, cur, rfl, _, hb, hn, hm, hs, ht⟩
  · exact .inl ⟨h1, h2⟩
  · have hB : Blk w g e cur := hb
    refine .inr ⟨g, cap, rfl, hn, hm, ⟨_, hb, rfl⟩, fun j hj => ?_, fun j hj => ⟨?_, hB.free j⟩⟩
    · have hj2 : j < cur.size := by omega
      rw [hB.cell j (v := cur[j]) (by simp [hj2]), ← ht, List.getElem?_take, if_pos hj]
      simp [hj2]
    · have hj2 : j < cur.size := by omega
      rw [hB.cell j (v := cur[j]) (by simp [hj2])]
      rfl
/-- The builder at block b: its buffer is v, it holds s. -/
structure Bd (w : World) (b : Nat) (v : Value) (s : List UInt8) : Prop where
  blk : ∃ p, Blk w b 99 #[p, v] ∧ (p = .pointer none ∨ p = .pointer (some ⟨b, 0, none⟩))
  own : w.ownsRow 0 5 1 v s.length (u8s s)
  ne : v.ownBlock ≠ some b
/-- The blocks of a builder. -/
def BdX (b : Nat) (v : Value) (k : Nat) : Prop := k = b ∨ v.ownBlock = some k
section
variable {w w' : World} {b : Nat} {v : Value} {s : List UInt8}
theorem Bd.lt (h : Bd w b v s) : b < w.heap.size := by
  obtain ⟨p, hb, _⟩ := h.blk
  exact hb.lt
theorem Bd.lt2 (h : Bd w b v s) : ∀ k, BdX b v k → k < w.heap.size := by
  rintro k (rfl | e)
  · exact h.lt
  · exact (h.own.lt k e).2
theorem Bd.keep {X : Nat → Prop} (h : Bd w b v s) (hf : Frm X w w') (hn : ∀ k, BdX b v k → ¬ X k) : Bd w' b v s := by
  obtain ⟨p, hb, hp⟩ := h.blk
  refine ⟨⟨p, hb.keep hf (hn b (.inl rfl)), hp⟩, ?_, h.ne⟩
  refine ⟨h.own.1, ?_⟩
  rcases h.own.2 with h1 | ⟨g, cap, cur, rfl, h2, h3, h4⟩
  · exact .inl h1
  · exact .inr ⟨g, cap, cur, rfl, h2, (hf.block g (h.own.lt g rfl).2 (hn g (.inr rfl))).trans h3, h4⟩
theorem Bd.zero (h : Blk w b 99 #[.pointer none, .slice none 0 0]) : Bd w b (.slice none 0 0) [] := ⟨⟨_, h, .inl rfl⟩, World.ownsRow_nil _ _ _ _, fun e => by cases e⟩
end
theorem info_builder : ∃ j, Tryz.prog.info? 99 = some j ∧ j.size = 2 := by
  have h : (Tryz.prog.info? 99).map (·.size) = some 2 := by kernel_rfl
  obtain ⟨j, h1, h2⟩ := Option.map_eq_some_iff.1 h
  exact ⟨j, h1, h2⟩
set_option maxRecDepth 100000 in
set_option maxHeartbeats 1000000 in
theorem bcopy_used (b : Nat) (w : World) (h0 : w.cell? ⟨b, 0, none⟩ = some (.pointer (some ⟨b, 0, none⟩))) :
    Calls Tryz.prog 90 #[.pointer (some ⟨b, 0, none⟩)] w fun e w' => e = .returned (.tuple #[]) ∧ w' = w := by
  obtain ⟨j, hj, _⟩ := info_builder
  go_enter Tryz.func90, Tryz.ntmps90
  go_wp2
  rw [Lib.run_neq_ptr_same w _ Tryz.underlying97 hj]
  go_wp2
  go_end0
  exact ⟨rfl, rfl⟩
set_option maxRecDepth 100000 in
set_option maxHeartbeats 1000000 in
theorem bcopy_fresh (b : Nat) (w : World) (v : Value) (hb : Blk w b 99 #[.pointer none, v]) :
    Calls Tryz.prog 90 #[.pointer (some ⟨b, 0, none⟩)] w fun e w' => e = .returned (.tuple #[]) ∧ w' = w.setCell ⟨b, 0, none⟩ (.pointer (some ⟨b, 0, none⟩)) := by
  obtain ⟨j, hj, hjs⟩ := info_builder
  have h0 := hb.cell 0 rfl
  have hfz := hb.free 0
  have hsh : w.shape? b = some (99, 2) := by
    unfold Blk at hb
    simp [World.shape?, hb]
  have hlies : liesAt Tryz.prog Tryz.prog.depth 99 (2 / Tryz.prog.cellsOf 99) 0 99 1 = true := by kernel_rfl
  clear hb
  go_enter Tryz.func90, Tryz.ntmps90
  go_wp2
  rw [Lib.run_to_unsafe w ⟨b, 0, none⟩ Tryz.underlying97 Tryz.underlying165 hj (by rw [hjs]; decide) hsh (Nat.zero_lt_succ 1)]
  simp only [Result.andThen]
  rw [Oper.upon_value]
  go_wp2
  rw [run_callFunc_extern Tryz.func118 (by kernel_rfl) (by kernel_rfl) (by kernel_rfl) (e := Extern.AbiNoEscape.same) (by kernel_rfl)]
  rw [Lib.run_noEscape]
  simp only [Result.andThen]
  rw [Oper.upon_value]
  go_wp2
  rw [Lib.run_from_unsafe w ⟨b, 0, none⟩ Tryz.underlying165 Tryz.underlying97 hj hsh hlies]
  simp only [Result.andThen]
  rw [Oper.upon_value]
  go_wp2
  go_end0
  exact ⟨rfl, rfl⟩
theorem Bd.copied {w : World} {b : Nat} {v : Value} {s : List UInt8} (h : Bd w b v s) :
    Calls Tryz.prog 90 #[.pointer (some ⟨b, 0, none⟩)] w fun e w' => e = .returned (.tuple #[]) ∧ (Blk w' b 99 #[.pointer (some ⟨b, 0, none⟩), v] ∧ Bd w' b v s) ∧ Frm (· = b) w w' := by
  obtain ⟨p, hb, hp⟩ := h.blk
  rcases hp with rfl | rfl
  · refine (bcopy_fresh b w v hb).mono ?_
    rintro e w' ⟨rfl, rfl⟩
    have g : Frm (· = b) w (w.setCell ⟨b, 0, none⟩ (.pointer (some ⟨b, 0, none⟩))) := (Frm.refl (· = b) w).setCell (fun _ => rfl) _
    have hb' := hb.set 0 (.pointer (some ⟨b, 0, none⟩))
    refine ⟨rfl, ⟨hb', ⟨_, hb', .inr rfl⟩, ⟨h.own.1, ?_⟩, h.ne⟩, g⟩
    rcases h.own.2 with h1 | ⟨g', cap, cur, rfl, h2, h3, h4⟩
    · exact .inl h1
    · exact .inr ⟨g', cap, cur, rfl, h2, (g.block g' (h.own.lt g' rfl).2 (fun e => h.ne (by rw [← e]; rfl))).trans h3, h4⟩
  · refine (bcopy_used b w (hb.cell 0 rfl)).mono ?_
    rintro e w' ⟨rfl, rfl⟩
    exact ⟨rfl, ⟨hb, h⟩, Frm.refl _ _⟩
/-- An append of a string to the buffer. -/
theorem run_append_bd {w : World} {v : Value} {s : List UInt8} (ho : w.ownsRow 0 5 1 v s.length (u8s s)) (t : List UInt8) (hl : s.length + t.length ≤ 100000000) :
    ∃ v' w', (Builtin.append_ #[77, 9] 77 #[v, .string (bs t)]).run Tryz.prog w = .ok v' w' ∧ w'.ownsRow 0 5 1 v' (s ++ t).length (u8s (s ++ t)) ∧ w.grownBy w' v.ownBlock ∧ ∀ g, v'.ownBlock = some g → v.ownBlock = some g ∨ w.heap.size ≤ g := by
  obtain ⟨i0, hi, hz0, hz1, hz2⟩ := info_parts Tryz.info5
  have hsz : (bs t).size = t.length := rfl
  obtain ⟨v1, w1, r1, h1, h2, _⟩ := Lib.run_append_own_string (P := Tryz.prog) w 0 77 9 77 5 i0 Tryz.underlying77 Tryz.underlying9 hi hz0 hz1 hz2 v s.length (u8s s) ho (bs t) (by rw [hsz]; unfold maxLen; omega) (by rw [hsz]; omega) (Nat.zero_le _)
  obtain ⟨v2, w2, r2, _, _, h3⟩ := run_append_row w 77 9 77 5 i0 (.int .u8 0) 1 1 Tryz.underlying77 hi hz0 hz1 hz2 rfl (row_of_owns ho) (.string (bs t)) (bs t).size (byteCells (bs t)) (Src.ofString _ Tryz.underlying9 (bs t)) (by rw [hsz]; unfold maxLen; omega) (by rw [hsz]; omega)
  have e := r1.symm.trans r2
  cases e
  refine ⟨v1, w1, r1, ?_, h2, h3⟩
  rw [List.length_append, u8s_append]
  exact h1
set_option maxRecDepth 100000 in
set_option maxHeartbeats 2000000 in
theorem bwrite_any (b : Nat) (v : Value) (s t : List UInt8) (w : World) (h : Bd w b v s) (hl : s.length + t.length ≤ 100000000) :
    Calls Tryz.prog 60 #[.pointer (some ⟨b, 0, none⟩), .string (bs t)] w fun e w' => e = .returned (.tuple #[.int .i64 (t.length : Nat), .nilIface]) ∧ ∃ v', Bd w' b v' (s ++ t) ∧ Frm (BdX b v) w w' ∧ ∀ g, v'.ownBlock = some g → v.ownBlock = some g ∨ w.heap.size ≤ g := by
  have HC := Lib.hid h.copied
  have HL := Lib.hid hl
  have HLT := Lib.hid h.lt
  have hsz : (bs t).size = t.length := rfl
  clear h hl
  go_enter Tryz.func60, Tryz.ntmps60
  go_wp2_with fail
  refine HC.out.mono ?_
  rintro e w1 ⟨rfl, ⟨hb, h1⟩, g1⟩
  obtain ⟨v', w2, hrun, hown, hgrow, hnew⟩ := run_append_bd h1.own t HL.out
  have Hrun := Lib.hid hrun
  have hb2 := hb.beside hgrow h1.ne
  have hblt := hb.lt
  have hne2 : v'.ownBlock ≠ some b := fun e => by
    rcases hnew b e with e | e
    · exact h1.ne e
    · omega
  obtain ⟨ao, n', cap, rfl⟩ : ∃ ao n' cap, v' = .slice ao n' cap := by
    rcases hown.2 with ⟨hv, _⟩ | ⟨g, cap, cur, hv, _⟩
    · exact ⟨_, _, _, hv⟩
    · exact ⟨_, _, _, hv⟩
  obtain ⟨a0, n0, cap0, rfl⟩ : ∃ ao n' cap, v = .slice ao n' cap := by
    rcases h1.own.2 with ⟨hv, _⟩ | ⟨g, cap, cur, hv, _⟩
    · exact ⟨_, _, _, hv⟩
    · exact ⟨_, _, _, hv⟩
  have c1 := hb.cell 1 rfl
  have d1 := hb2.cell 1 rfl
  have f1 := hb2.free 1
  have gF : Frm (BdX b (.slice a0 n0 cap0)) w w2 := ((g1.mono (fun _ _ h => .inl h)).grown hgrow (fun k _ e => .inr e))
  have HB := Lib.hid (And.intro hb2 (And.intro hown (And.intro hne2 (And.intro gF (And.intro hnew g1.size)))))
  clear hb hb2 hown hne2 gF hnew h1 g1 hrun hgrow hblt HC
  go_wp2_with (first | (at_builtin; refine Lib.wpList_append_run _ rfl _ _ _ _ rfl _ _ rfl rfl _ _ Hrun.out ?_) | fail)
  go_ret2
  obtain ⟨hb2, hown, hne2, gF, hnew, gs⟩ := HB.out
  have hb3 := hb2.set 1 (.slice ao n' cap)
  have g3 : Frm (· = b) w2 (w2.setCell ⟨b, 1, none⟩ (.slice ao n' cap)) := (Frm.refl (· = b) w2).setCell (fun _ => rfl) _
  refine ⟨rfl, _, ⟨⟨_, hb3, .inr rfl⟩, ⟨hown.1, ?_⟩, hne2⟩, gF.next g3 (fun k _ e => .inl e), fun g hg => (hnew g hg).imp id fun e => by omega⟩
  rcases hown.2 with h1 | ⟨g', cap', cur, e, h2, h3, h4⟩
  · exact .inl h1
  · refine .inr ⟨g', cap', cur, e, h2, (g3.block g' (hown.lt g' (by rw [e]; rfl)).2 (fun e' => hne2 (by rw [e, ← e']; rfl))).trans h3, h4⟩
end Go.Proofs.YtdhnidmeeocajaaGreat
end
