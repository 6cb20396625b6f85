/- A space and the document's, side by side; an act of both. No condition. -/
import Derived.Test.YtdhnidmeeocajaaSpU
namespace Go.Proofs.Ytdhnidmeeocajaa
open Go.RowKit Go.Shelf

structure BothS (w0 w : World) (s g r : Nat) (S : SpV) (L : List Int) (u : Value) : Prop where
  sp : SpM w s g S
  rf : RfM w r S L u
  rs : r ≠ s ∧ r ≠ g
  us : ∀ b, u.ownBlock = some b → b ≠ s ∧ b ≠ g
  o : w0.heap.size ≤ s ∧ w0.heap.size ≤ g ∧ w0.heap.size ≤ r
  ou : ∀ b, u.ownBlock = some b → w0.heap.size ≤ b
  frm : Frm (fun _ => False) w0 w
section
variable {w0 w w1 w2 : World} {s g r : Nat} {S S' : SpV} {L : List Int} {u : Value}
theorem BothS.keepF (h : BothS w0 w s g r S L u) (hf : Frm (fun _ => False) w w1) : BothS w0 w1 s g r S L u :=
  ⟨h.sp.keepF hf, h.rf.keepF hf, h.rs, h.us, h.o, h.ou, h.frm.trans hf⟩
/-- The program's side has moved. -/
theorem BothS.mid (h : BothS w0 w s g r S L u) (g1 : Frm (· = g) w w1) : RfM w1 r S L u := h.rf.keep g1 h.rs.2 (fun b hb => (h.us b hb).2)
/-- Both have moved. -/
theorem BothS.step (h : BothS w0 w s g r S L u) (h1 : SpM w1 s g S') (g1 : Frm (· = g) w w1) (h2 : RfTo r u S' w1 w2) : ∃ L' u', BothS w0 w2 s g r S' L' u' := by
  obtain ⟨L', u', hr, g2, n2⟩ := h2
  have z1 := g1.size
  have z2 := g2.size
  have z0 := h.frm.size
  have hs := h1.slt
  have hg := h1.lt
  refine ⟨L', u', h1.keep g2 (fun e => ?_) (fun e => ?_), hr, h.rs, fun b hb => ?_, h.o, fun b hb => ?_, (h.frm.next g1 (fun k hk e => by have := h.o; omega)).next g2 (fun k hk e => ?_)⟩
  · rcases e with e | e
    · exact h.rs.1 e.symm
    · exact (h.us s e).1 rfl
  · rcases e with e | e
    · exact h.rs.2 e.symm
    · exact (h.us g e).2 rfl
  · rcases n2 b hb with e | e
    · exact h.us b e
    · exact ⟨by omega, by omega⟩
  · rcases n2 b hb with e | e
    · exact h.ou b e
    · omega
  · rcases e with e | e
    · have := h.o; omega
    · have := h.ou k e; omega
end
/-- What an act does. -/
def oneS (S : SpV) (k : Nat) (q : Int) : SpV := if k % 5 = 2 then (S.use q).1 else if k % 5 = 3 then (S.give q).1 else if k % 5 = 4 then S else S.take.1
set_option maxRecDepth 100000 in
set_option maxHeartbeats 4000000 in
theorem one15_any (s g r k : Nat) (q : Int) (S : SpV) (L : List Int) (u : Value) (w0 w : World) (h : BothS w0 w s g r S L u) (hk : k < 256) :
    Calls Try.prog 14 #[.pointer (some ⟨s, 0, none⟩), .pointer (some ⟨r, 0, none⟩), .agg #[.int .u8 (k : Nat), .int .i64 q]] w fun e w' => e = .returned (.bool true) ∧ ∃ L' u', BothS w0 w' s g r (oneS S k q) L' u' := by
  obtain ⟨w1, hw1⟩ : ∃ w1, w.alloc (.cells #[.int .u8 (k : Nat), .int .i64 q] 36) = w1 := ⟨_, rfl⟩
  have g1 : Frm (fun _ => False) w w1 := by rw [← hw1]; exact (Frm.refl _ w).alloc _
  have b1 : Blk w1 w.heap.size 36 #[.int .u8 (k : Nat), .int .i64 q] := by rw [← hw1]; exact Blk.alloc w _ _
  obtain ⟨B, hB⟩ : ∃ B, w.heap.size = B := ⟨_, rfl⟩
  rw [hB] at b1
  have hBg : B ≠ g := by have := h.sp.lt; omega
  have h1 := h.keepF g1
  have H1 := Lib.hid h1
  have HBx := Lib.hid b1
  have c0 := b1.cell 0 rfl
  have c1 := b1.cell 1 rfl
  obtain ⟨j, hj⟩ : ∃ j, k % 5 = j := ⟨_, rfl⟩
  have hj5 : j < 5 := by omega
  have t1 : (k : Int) % 5 = (j : Int) := by omega
  have t1' : (k : Int).tmod 5 = (j : Int) := by rw [Int.tmod_eq_emod_of_nonneg (by omega)]; exact t1
  have t3 : IntKind.u8.wrap (j : Int) = (j : Int) := IntWalk.u8_in _ (by omega)
  unfold oneS
  rw [hj]
  by_cases j2 : j = 2
  · subst j2
    rw [if_pos rfl]
    have hA := spuse_any s g S q w1 h1.sp
    have hR := fun (W : World) (gW : Frm (· = g) w1 W) => rfuse_any r S L u q W (h1.mid gW)
    obtain ⟨⟨S', ec⟩, ht⟩ : ∃ t, S.use q = t := ⟨_, rfl⟩
    rw [ht] at hA hR ⊢
    unfold SpTo at hA
    have HA := Lib.hid hA
    have HRf := Lib.hid hR
    have heq : ((ec : Int) == (ec : Int)) = true := by simp
    clear h h1 ht hA hR b1 g1 hj
    go_enter Try.func14, Try.ntmps14
    go_wp2_with fail
    clear hw1 hB
    refine HA.out.mono ?_
    rintro e w2 ⟨rfl, h2, g2⟩
    have c1 := (HBx.out.keep g2 hBg).cell 1 rfl
    have HR2 := Lib.hid (HRf.out w2 g2)
    have H2 := Lib.hid (And.intro h2 g2)
    clear h2 g2 HA HRf
    go_wp2_with fail
    refine HR2.out.mono ?_
    rintro e w3 ⟨rfl, h3⟩
    have H3 := Lib.hid (H1.out.step H2.out.1 H2.out.2 h3)
    clear h3 HR2
    go_wp2_with fail
    go_ret
    exact ⟨rfl, H3.out⟩
  · rw [if_neg j2]
    have e2 : ((j : Int) == 2) = false := by rw [beq_eq_false_iff_ne]; omega
    by_cases j3 : j = 3
    · subst j3
      rw [if_pos rfl]
      have hA := spgive_any s g S q w1 h1.sp
      have hR := fun (W : World) (gW : Frm (· = g) w1 W) => rfgive_any r S L u q W (h1.mid gW)
      obtain ⟨⟨S', ec⟩, ht⟩ : ∃ t, S.give q = t := ⟨_, rfl⟩
      rw [ht] at hA hR ⊢
      unfold SpTo at hA
      have HA := Lib.hid hA
      have HRf := Lib.hid hR
      have heq : ((ec : Int) == (ec : Int)) = true := by simp
      clear h h1 ht hA hR b1 g1 hj
      go_enter Try.func14, Try.ntmps14
      go_wp2_with fail
      clear hw1 hB
      refine HA.out.mono ?_
      rintro e w2 ⟨rfl, h2, g2⟩
      have c1 := (HBx.out.keep g2 hBg).cell 1 rfl
      have HR2 := Lib.hid (HRf.out w2 g2)
      have H2 := Lib.hid (And.intro h2 g2)
      clear h2 g2 HA HRf
      go_wp2_with fail
      refine HR2.out.mono ?_
      rintro e w3 ⟨rfl, h3⟩
      have H3 := Lib.hid (H1.out.step H2.out.1 H2.out.2 h3)
      clear h3 HR2
      go_wp2_with fail
      go_ret
      exact ⟨rfl, H3.out⟩
    · rw [if_neg j3]
      have e3 : ((j : Int) == 3) = false := by rw [beq_eq_false_iff_ne]; omega
      by_cases j4 : j = 4
      · subst j4
        rw [if_pos rfl]
        clear h h1 b1 g1 hj
        go_enter Try.func14, Try.ntmps14
        go_wp2_with fail
        go_ret
        exact ⟨rfl, L, u, H1.out⟩
      · rw [if_neg j4]
        have e4 : ((j : Int) == 4) = false := by rw [beq_eq_false_iff_ne]; omega
        have hA := sptake_any s g S w1 h1.sp
        have hR := fun (W : World) (gW : Frm (· = g) w1 W) => rftake_any r S L u W (h1.mid gW)
        obtain ⟨⟨S', kk, ec⟩, ht⟩ : ∃ t, S.take = t := ⟨_, rfl⟩
        rw [ht] at hA hR ⊢
        unfold TakeTo at hA
        have HA := Lib.hid hA
        have HRf := Lib.hid hR
        have heq : ((ec : Int) == (ec : Int)) = true := by simp
        have heq2 : ((kk : Int) == (kk : Int)) = true := by simp
        clear h h1 ht hA hR b1 g1 hj
        go_enter Try.func14, Try.ntmps14
        go_wp2_with fail
        clear hw1 hB
        refine HA.out.mono ?_
        rintro e w2 ⟨rfl, h2, g2⟩
        have HR2 := Lib.hid (HRf.out w2 g2)
        have H2 := Lib.hid (And.intro h2 g2)
        clear h2 g2 HA HRf
        go_wp2_with fail
        refine HR2.out.mono ?_
        rintro e w3 ⟨rfl, h3⟩
        have H3 := Lib.hid (H1.out.step H2.out.1 H2.out.2 h3)
        clear h3 HR2
        go_wp2_with fail
        go_ret
        exact ⟨rfl, H3.out⟩
/-- A new pair. -/
theorem BothS.made {w0 w w1 w2 : World} {S : SpV} {v v' : Value} (g0 : Frm (fun _ => False) w0 w) (h1 : NewSp S w v w1) (h2 : NewRf S w1 v' w2) : ∃ s g r L u, v = .pointer (some ⟨s, 0, none⟩) ∧ v' = .pointer (some ⟨r, 0, none⟩) ∧ BothS w0 w2 s g r S L u := by
  obtain ⟨s, g, rfl, hM, hs, hg, g1⟩ := h1
  obtain ⟨r, L, u, rfl, hR, hr, hu, g2⟩ := h2
  have z0 := g0.size
  have z1 := g1.size
  have a1 := hM.slt
  have a2 := hM.lt
  exact ⟨s, g, r, L, u, rfl, rfl, hM.keepF g2, hR, ⟨by omega, by omega⟩, fun b hb => by have := hu b hb; omega, by omega, fun b hb => by have := hu b hb; omega, (g0.trans g1).trans g2⟩
end Go.Proofs.Ytdhnidmeeocajaa
