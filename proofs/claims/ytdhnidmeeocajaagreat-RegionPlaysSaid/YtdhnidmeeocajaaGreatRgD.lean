/- LineCuts: the device of a line that was cut by an act is as one on which the acts ahead were done, and which crashed then. No condition. -/
import Derived.Test.YtdhnidmeeocajaaGreatLnJ
import Derived.Test.YtdhnidmeeocajaaGreatLnL
import Derived.Test.YtdhnidmeeocajaaGreatRgC
section
namespace Go.Proofs.YtdhnidmeeocajaaGreat
open Go.RowKit Go.Shelf

theorem nil_zs {w : World} : Zs w (.slice none 0 0) [] := Sl.nil_ w 1 none 0 (by decide)
end Go.Proofs.YtdhnidmeeocajaaGreat
end
section
namespace Go.Proofs.YtdhnidmeeocajaaGreat
open Go.RowKit Go.Shelf

structure BothL (w0 w : World) (l b f x p r : Nat) (fp : Nat → Prop) (L : LV) : Prop where
  ln : LnM w l b f x L
  rl : RLn w p r fp L
  s0 : p ≠ l ∧ p ≠ b ∧ p ≠ f ∧ p ≠ x
  s1 : ¬ fp l ∧ ¬ fp b ∧ ¬ fp f ∧ ¬ fp x
  s2 : ∀ g, L.P g → (g ≠ l ∧ g ≠ f ∧ g ≠ x) ∧ g ≠ p ∧ ¬ fp g ∧ g < w.heap.size
  o1 : w0.heap.size ≤ l ∧ w0.heap.size ≤ f ∧ w0.heap.size ≤ x
  o2 : w0.heap.size ≤ p ∧ ∀ k, fp k → w0.heap.size ≤ k
  frm : Frm (fun _ => False) w0 w
section
variable {w0 w w1 w2 : World} {l b f x p r : Nat} {fp : Nat → Prop} {L L' : LV}
theorem BothL.keepF (h : BothL w0 w l b f x p r fp L) (g : Frm (fun _ => False) w w1) : BothL w0 w1 l b f x p r fp L :=
  ⟨h.ln.keepF g, h.rl.keepF g, h.s0, h.s1, fun k hk => ⟨(h.s2 k hk).1, (h.s2 k hk).2.1, (h.s2 k hk).2.2.1, Nat.lt_of_lt_of_le (h.s2 k hk).2.2.2 g.size⟩, h.o1, h.o2, h.frm.trans g⟩
theorem BothL.mid (h : BothL w0 w l b f x p r fp L) (g1 : Frm (LnX l f x) w w1) : RLn w1 p r fp L := by
  obtain ⟨cv, hr⟩ := h.rl
  obtain ⟨a1, a2, a3, a4⟩ := h.s0
  obtain ⟨c1, c2, c3, c4⟩ := h.s1
  refine ⟨cv, hr.keep g1 (notX a1 a3 a4) (fun k hk hX => ?_) (hr.za.imp id fun q g hg => ?_)⟩
  · rcases hX with rfl | rfl | rfl
    · exact c1 hk
    · exact c3 hk
    · exact c4 hk
  · obtain ⟨d1, d2, d3⟩ := (h.s2 g (q g hg).2.2).1
    exact notX d1 d2 d3
theorem BothL.step (h : BothL w0 w l b f x p r fp L) (h1 : LnM w1 l b f x L') (g1 : Frm (LnX l f x) w w1) (hP : L'.P = L.P) (h2 : RLnTo p r fp L' w1 w2) : ∃ fp', BothL w0 w2 l b f x p r fp' L' := by
  obtain ⟨fp', hr, g2, n2⟩ := h2
  obtain ⟨a1, a2, a3, a4⟩ := h.s0
  obtain ⟨c1, c2, c3, c4⟩ := h.s1
  have hlt := h1.lt
  have z1 := g1.size
  have z2 := g2.size
  have z0 := h.frm.size
  have no : ∀ k, k < w1.heap.size → ¬ fp k → ¬ fp' k := fun k hk hn hX => by
    rcases n2 k hX with e | e
    · exact hn e
    · omega
  have nx : ∀ k, k ≠ p → ¬ fp k → ¬ (k = p ∨ fp k) := fun k h1 h2 h => h.elim h1 h2
  refine ⟨fp', h1.keep g2 (nx l a1.symm c1) (nx b a2.symm c2) (nx f a3.symm c3) (nx x a4.symm c4) (.inr fun g hg => ?_), hr, h.s0, ⟨no l hlt.1 c1, no b hlt.2.1 c2, no f hlt.2.2.1 c3, no x hlt.2.2.2 c4⟩, fun g hg => ?_, h.o1, ⟨h.o2.1, fun k hk => ?_⟩, ?_⟩
  · rw [hP] at hg
    exact nx g (h.s2 g hg).2.1 (h.s2 g hg).2.2.1
  · rw [hP] at hg
    obtain ⟨d1, d2, d3, d4⟩ := h.s2 g hg
    exact ⟨d1, d2, no g (by omega) d3, by omega⟩
  · rcases n2 k hk with e | e
    · exact h.o2.2 k e
    · omega
  · refine (h.frm.toNewX g1 h.o1).next g2 fun k hk hX => ?_
    rcases hX with e | e
    · have := h.o2.1; omega
    · have := h.o2.2 k e; omega
end
/-- What one does to a line. -/
def LV.one (L : LV) (x : A3) : LV := if x.k % 5 < 3 then L.act (L.D.a3 x) else if x.k % 5 = 4 ∧ x.q % 7 = 0 then L.blow else L
theorem blow_P (L : LV) : L.blow.P = L.P ∧ L.blow.acts = L.acts := by
  unfold LV.blow
  split <;> exact ⟨rfl, rfl⟩
end Go.Proofs.YtdhnidmeeocajaaGreat
end
section
namespace Go.Proofs.YtdhnidmeeocajaaGreat
open Go.RowKit Go.Shelf

/-- What parse answers. -/
def entV (i : Nat) (s : List UInt8) : Value := .agg #[.int .u16 (i : Nat), .int .u16 (fNum s : Nat), .int .u8 (fEnd s : Nat), .int .u8 (fSize s : Nat), .string (bs (fBytes s)), .int .u16 (fAgain s : Nat)]
theorem nextS_ok {k : Nat} {l : List UInt8} (h : k ≤ l.length) : nextS k l 0 = (l.take k, l.drop k, 0) := by unfold nextS; rw [if_pos h]
theorem numS_ok {k : Nat} {l : List UInt8} (h : k ≤ l.length) : numS k l 0 = (beN (l.take k), l.drop k, 0) := by unfold numS; rw [nextS_ok h]
theorem fSize_lt (s : List UInt8) : fSize s < 256 := beN_lt 1 _ (by rw [List.length_take]; omega)
theorem fBytes_len {s : List UInt8} (h : s.length = 64) : (fBytes s).length = 58 := by unfold fBytes; rw [List.length_take, List.length_drop]; omega
set_option maxRecDepth 100000 in
set_option maxHeartbeats 4000000 in
theorem parse_any (s : List UInt8) (i : Nat) (w : World) (hs : s.length = 64) (hi : i < 65536) : Calls Tryz.prog 106 #[.string (bs s), .int .i64 (i : Nat)] w fun e w' => e = .returned (entV i s) ∧ Frm (fun _ => False) w w' := by
  obtain ⟨w1, hw1⟩ : ∃ w1, w.alloc (.cells #[.int .u16 0, .int .u16 0, .int .u8 0, .int .u8 0, .string ⟨#[]⟩, .int .u16 0] 157) = w1 := ⟨_, rfl⟩
  have b1 : Blk w1 w.heap.size 157 #[.int .u16 0, .int .u16 0, .int .u8 0, .int .u8 0, .string ⟨#[]⟩, .int .u16 0] := by rw [← hw1]; exact Blk.alloc w _ _
  have g1 : Frm (fun _ => False) w w1 := by rw [← hw1]; exact (Frm.refl _ w).alloc _
  have HR := Lib.hid (cread_any s w1 (by omega))
  have hw16 : IntKind.u16.wrap (i : Int) = (i : Int) := IntWalk.u16_in _ (by omega)
  have H1 := Lib.hid (And.intro b1 g1)
  clear b1 g1
  go_enter Tryz.func106, Tryz.ntmps106
  go_wp2_with fail
  refine HR.out.mono ?_
  rintro e w2 ⟨rfl, r2, g2⟩
  have H2 := Lib.hid (And.intro (H1.out.1.keep g2 (fun h => h)) (H1.out.2.trans g2))
  obtain ⟨B, hB⟩ : ∃ B, w1.heap.size = B := ⟨_, rfl⟩
  rw [hB] at r2 ⊢
  have hBB : w.heap.size < B := by rw [← hB]; exact H1.out.1.lt
  have HN := Lib.hid hBB
  have K1 := Lib.hid (ru16_any B s 0 w2 r2)
  clear r2 g2 HR hBB hB hw1
  go_wp2_with fail
  refine K1.out.mono ?_
  rw [numS_ok (show 2 ≤ s.length by omega)]
  rintro e w3 ⟨rfl, r3, g3⟩
  have H3 := Lib.hid (And.intro (H2.out.1.keep g3 (by have := HN.out; omega)) (H2.out.2.next g3 (fun k hk e => by have := HN.out; omega)))
  have K2 := ru8_any B _ _ w3 r3
  rw [numS_ok (show 1 ≤ (s.drop 2).length by rw [List.length_drop]; omega), List.drop_drop] at K2
  have K2 := Lib.hid K2
  clear r3 g3 K1
  go_wp2_with fail
  refine K2.out.mono ?_
  rintro e w4 ⟨rfl, r4, g4⟩
  have H4 := Lib.hid (And.intro (H3.out.1.keep g4 (by have := HN.out; omega)) (H3.out.2.next g4 (fun k hk e => by have := HN.out; omega)))
  have K3 := ru8_any B _ _ w4 r4
  rw [numS_ok (show 1 ≤ (s.drop (2 + 1)).length by rw [List.length_drop]; omega), List.drop_drop] at K3
  have K3 := Lib.hid K3
  clear r4 g4 K2
  go_wp2_with fail
  refine K3.out.mono ?_
  rintro e w5 ⟨rfl, r5, g5⟩
  have H5 := Lib.hid (And.intro (H4.out.1.keep g5 (by have := HN.out; omega)) (H4.out.2.next g5 (fun k hk e => by have := HN.out; omega)))
  have K4 := fixed_pos B _ _ 58 w5 r5 (by decide)
  rw [nextS_ok (show 58 ≤ (s.drop (2 + 1 + 1)).length by rw [List.length_drop]; omega), List.drop_drop] at K4
  have K4 := Lib.hid K4
  clear r5 g5 K3
  go_wp2_with fail
  refine K4.out.mono ?_
  rintro e w6 ⟨rfl, r6, g6⟩
  have H6 := Lib.hid (And.intro (H5.out.1.keep g6 (by have := HN.out; omega)) (H5.out.2.next g6 (fun k hk e => by have := HN.out; omega)))
  have K5 := ru16_any B _ _ w6 r6
  rw [numS_ok (show 2 ≤ (s.drop (2 + 1 + 1 + 58)).length by rw [List.length_drop]; omega)] at K5
  have K5 := Lib.hid K5
  clear r6 g6 K4
  go_wp2_with fail
  refine K5.out.mono ?_
  rintro e w7 ⟨rfl, r7, g7⟩
  have H7 := Lib.hid (And.intro (H6.out.1.keep g7 (by have := HN.out; omega)) (H6.out.2.next g7 (fun k hk e => by have := HN.out; omega)))
  clear r7 g7 K5
  obtain ⟨n1, hn1⟩ : ∃ n, beN (s.take 2) = n := ⟨_, rfl⟩
  obtain ⟨n2, hn2⟩ : ∃ n, beN ((s.drop 2).take 1) = n := ⟨_, rfl⟩
  obtain ⟨n3, hn3⟩ : ∃ n, beN ((s.drop (2 + 1)).take 1) = n := ⟨_, rfl⟩
  obtain ⟨n4, hn4⟩ : ∃ n, ((s.drop (2 + 1 + 1)).take 58) = n := ⟨_, rfl⟩
  obtain ⟨n5, hn5⟩ : ∃ n, beN ((s.drop (2 + 1 + 1 + 58)).take 2) = n := ⟨_, rfl⟩
  rw [hn1, hn2, hn3, hn4, hn5]
  have hE : entV i s = .agg #[.int .u16 (i : Nat), .int .u16 (n1 : Nat), .int .u8 (n2 : Nat), .int .u8 (n3 : Nat), .string (bs n4), .int .u16 (n5 : Nat)] := by
    unfold entV fNum fEnd fSize fBytes fAgain
    rw [hn1, hn2, show (3 : Nat) = 2 + 1 from rfl, hn3, show (4 : Nat) = 2 + 1 + 1 from rfl, hn4, show (62 : Nat) = 2 + 1 + 1 + 58 from rfl, hn5]
  have HE := Lib.hid hE
  clear hn1 hn2 hn3 hn4 hn5 hE
  have c0 := H7.out.1
  have k0 := c0.cell 0 rfl
  have f0 := c0.free 0
  have k1 := c0.cell 1 rfl
  have f1 := c0.free 1
  have k2 := c0.cell 2 rfl
  have f2 := c0.free 2
  have k3 := c0.cell 3 rfl
  have f3 := c0.free 3
  have k4 := c0.cell 4 rfl
  have f4 := c0.free 4
  have k5 := c0.cell 5 rfl
  have f5 := c0.free 5
  have HC := Lib.hid c0
  clear c0
  go_wp2_with fail
  have hb := (((((HC.out.set 0 (.int .u16 (i : Nat))).set 1 (.int .u16 (n1 : Nat))).set 2 (.int .u8 (n2 : Nat))).set 3 (.int .u8 (n3 : Nat))).set 4 (.string (bs n4))).set 5 (.int .u16 (n5 : Nat))
  have gE : Frm (fun _ => False) w ((((((w7.setCell ⟨w.heap.size, 0, none⟩ (.int .u16 (i : Nat))).setCell ⟨w.heap.size, 1, none⟩ (.int .u16 (n1 : Nat))).setCell ⟨w.heap.size, 2, none⟩ (.int .u8 (n2 : Nat))).setCell ⟨w.heap.size, 3, none⟩ (.int .u8 (n3 : Nat))).setCell ⟨w.heap.size, 4, none⟩ (.string (bs n4))).setCell ⟨w.heap.size, 5, none⟩ (.int .u16 (n5 : Nat))) :=
    (((((H7.out.2.setCell (fun h => absurd h (Nat.lt_irrefl _)) _).setCell (fun h => absurd h (Nat.lt_irrefl _)) _).setCell (fun h => absurd h (Nat.lt_irrefl _)) _).setCell (fun h => absurd h (Nat.lt_irrefl _)) _).setCell (fun h => absurd h (Nat.lt_irrefl _)) _).setCell (fun h => absurd h (Nat.lt_irrefl _)) _
  generalize (((((w7.setCell ⟨w.heap.size, 0, none⟩ (.int .u16 (i : Nat))).setCell ⟨w.heap.size, 1, none⟩ (.int .u16 (n1 : Nat))).setCell ⟨w.heap.size, 2, none⟩ (.int .u8 (n2 : Nat))).setCell ⟨w.heap.size, 3, none⟩ (.int .u8 (n3 : Nat))).setCell ⟨w.heap.size, 4, none⟩ (.string (bs n4))).setCell ⟨w.heap.size, 5, none⟩ (.int .u16 (n5 : Nat)) = W at hb gE ⊢
  have d0 := hb.cell 0 rfl
  have d1 := hb.cell 1 rfl
  have d2 := hb.cell 2 rfl
  have d3 := hb.cell 3 rfl
  have d4 := hb.cell 4 rfl
  have d5 := hb.cell 5 rfl
  refine bodyPost_ret (v := .agg #[.int .u16 (i : Nat), .int .u16 (n1 : Nat), .int .u8 (n2 : Nat), .int .u8 (n3 : Nat), .string (bs n4), .int .u16 (n5 : Nat)]) (by simp [results, Tryz.results106, go_sem, d0, d1, d2, d3, d4, d5]) rfl ⟨by rw [HE.out], gE⟩
end Go.Proofs.YtdhnidmeeocajaaGreat
end
