/- How long the groups are that a region tells; strings.Join over them. No condition. -/
import Derived.Test.YtfbaleomhghjeaaGreatRgY
import Derived.Test.YtfbaleomhghjeaaGreatShelf
section
namespace Go.Proofs.YtfbaleomhghjeaaGreat
open Go.RowKit Go.Shelf

/-- An act over a line that no act cuts. -/
theorem Uc.act {L : LV} (h : Uc L) (D' : DV) : Uc (L.act D') ∧ (L.act D').acts = L.acts + 1 ∧ (L.act D').cs = L.cs ∧ (L.act D').P = L.P ∧ (L.act D').D = D' := by
  rw [LV.act_live D' h.1 (by have := h.2; omega)]
  exact ⟨⟨h.1, h.2⟩, rfl, rfl, rfl, rfl⟩
end Go.Proofs.YtfbaleomhghjeaaGreat
end
section
namespace Go.Proofs.YtfbaleomhghjeaaGreat
open Go.RowKit Go.Shelf

theorem foldl_n : ∀ (l : List (DV → DV)) (D : DV), (∀ F ∈ l, ∀ D : DV, (F D).n = D.n) → (l.foldl (fun D F => F D) D).n = D.n := by
  intro l
  induction l with
  | nil => intro D _; rfl
  | cons F l ih => intro D h; rw [List.foldl_cons, ih _ (fun G hG => h G (List.mem_cons_of_mem _ hG)), h F (List.mem_cons_self ..)]
theorem blow_same (L : LV) : L.blow.P = L.P ∧ L.blow.cs = L.cs ∧ L.blow.D.n = L.D.n := by
  unfold LV.blow
  split <;> exact ⟨rfl, rfl, rfl⟩
structure KnS (lg yl : List UInt8) (L1 L2 L3 L4 L5 : LV) : Prop where
  f1 : fmtR (LV.new (DV.new 256) (-1) []) 64 64 = (L1, 0)
  r1 : rdR L1 64 64 = (0, [], 0)
  a1 : L1.acts ≤ 900000 ∧ L1.cs.length = 0
  p1 : apR ⟨64, 64, 0, false⟩ L1 [97, 98] = (⟨64, 64, 1, false⟩, L2, 0)
  a2 : L2.acts ≤ 900000 ∧ L2.cs.length = 0
  p2 : apR ⟨64, 64, 1, false⟩ L2 lg = (⟨64, 64, 3, false⟩, L3, 0)
  a3 : L3.acts ≤ 900000 ∧ L3.cs.length = 0
  r3 : rdR L3 64 64 = (0, [[97, 98], lg], 0)
  b3 : L3.D.bad 65 = false
  d3 : L3.D.read 65 = logB 1 1 [97, 98]
  s3 : slR ⟨64, 64, 3, false⟩ L3 7 = (⟨64, 64, 3, false⟩, L4, 0)
  a4 : L4.acts ≤ 900000 ∧ L4.cs.length = 0
  r4 : rdR L4 64 64 = (7, [[97, 98], lg], 0)
  q4 : ∀ s, s.length = 3481 → apR ⟨64, 64, 3, false⟩ L4 s = (⟨64, 64, 3, false⟩, L4, 7)
  p4 : apR ⟨64, 64, 3, false⟩ L4 yl = (⟨64, 64, 63, false⟩, L5, 0)
  a5 : L5.acts ≤ 900000 ∧ L5.cs.length = 0
  q5 : apR ⟨64, 64, 63, false⟩ L5 [] = (⟨64, 64, 63, false⟩, L5, 7)
  s5 : slR ⟨64, 64, 63, false⟩ L5 0 = (⟨64, 64, 63, false⟩, L5, 2)
  f5 : fmtR L5 0 1 = (L5, 2)
  g5 : fmtR L5 200 64 = (L5, 2)
  e5 : rdR L5 (-1) 64 = (0, [], 2)
  r5 : rdR L5 64 64 = (7, [[97, 98], lg, yl], 0)
  a6 : L5.blow.acts ≤ 900000
  l6 : flR ⟨64, 64, 63, false⟩ L5.blow = (⟨64, 64, 63, true⟩, L5.blow, 8)
  l7 : flR ⟨64, 64, 63, true⟩ L5.blow = (⟨64, 64, 63, true⟩, L5.blow, 17)
  s7 : slR ⟨64, 64, 63, true⟩ L5.blow 1 = (⟨64, 64, 63, true⟩, L5.blow, 17)
theorem kns (lg yl : List UInt8) (h1 : lg.length = 59) (h2 : yl.length = 3480) : ∃ L1 L2 L3 L4 L5, KnS lg yl L1 L2 L3 L4 L5 := by
  obtain ⟨L1, f1, s1, u1, a1, c1, _, n1, _⟩ := fmtR_64 new_uc (DV.ok_new (by decide) (by decide)) rfl
  have a1 : L1.acts = 65 := a1
  obtain ⟨L2, p2, s2, u2, a2, c2, _, D2⟩ := apR_uc s1 u1 [97, 98] (by decide)
  have hl2 : needs lg.length = 2 := by rw [h1]; rfl
  have p2 : apR ⟨64, 64, 0, false⟩ L1 [97, 98] = (⟨64, 64, 1, false⟩, L2, 0) := p2
  have s2 : StR ⟨64, 64, 1, false⟩ L2 [[97, 98]] 0 0 := s2
  have a2 : L2.acts = L1.acts + 1 := a2
  obtain ⟨L3, p3, s3, u3, a3, c3, _, D3⟩ := apR_uc s2 u2 lg (by rw [hl2]; decide)
  rw [hl2] at p3 s3 a3
  have p3 : apR ⟨64, 64, 1, false⟩ L2 lg = (⟨64, 64, 3, false⟩, L3, 0) := p3
  have s3 : StR ⟨64, 64, 3, false⟩ L3 [[97, 98], lg] 0 0 := s3
  obtain ⟨L4, p4, s4, u4, a4, c4, _, D4⟩ := slR_uc s3 u3 (g := 7) (by decide) (by decide)
  have hy2 : needs yl.length = 60 := by rw [h2]; rfl
  obtain ⟨L5, p5, s5, u5, a5, c5, _, D5⟩ := apR_uc s4 u4 yl (by rw [hy2]; decide)
  rw [hy2] at p5 s5 a5
  have p5 : apR ⟨64, 64, 3, false⟩ L4 yl = (⟨64, 64, 63, false⟩, L5, 0) := p5
  have s5 : StR ⟨64, 64, 63, false⟩ L5 [[97, 98], lg, yl] _ 7 := s5
  have e2 : L2.D.n = L1.D.n := by rw [D2]; exact foldl_n _ _ (fun F hF => wrs_n _ _ F hF)
  have e3 : L3.D.n = L2.D.n := by rw [D3]; exact foldl_n _ _ (fun F hF => wrs_n _ _ F hF)
  have e4 : L4.D.n = L3.D.n := by rw [D4]; exact writeTo_n L3.D _ _
  have e5 : L5.D.n = L4.D.n := by rw [D5]; exact foldl_n _ _ (fun F hF => wrs_n _ _ F hF)
  have n5 : L5.D.n = 256 := by rw [e5, e4, e3, e2, n1]
  have n3 : L3.D.n = 256 := by rw [e3, e2, n1]
  have cc1 : L1.cs.length = 0 := by rw [c1]; rfl
  have cc2 : L2.cs.length = 0 := by rw [c2]; exact cc1
  have cc3 : L3.cs.length = 0 := by rw [c3]; exact cc2
  have cc4 : L4.cs.length = 0 := by rw [c4]; exact cc3
  have cc5 : L5.cs.length = 0 := by rw [c5]; exact cc4
  have hq1 : ∀ m : Int, m < 2 → rgC L5.D.n 0 m = 2 := fun m hm => by unfold rgC; rw [if_pos (.inr (.inl hm))]
  have hq2 : rgC L5.D.n 200 64 = 2 := by rw [n5]; rfl
  have hq3 : rgC L5.D.n (-1) 64 = 2 := by unfold rgC; rw [if_pos (.inl (by decide))]
  have hbd : L5.blow.down = true := by unfold LV.blow; rw [u5.1]; rfl
  have hba : L5.blow.acts = L5.acts := by unfold LV.blow; rw [u5.1]; rfl
  have hsq : L5.blow.seq [DV.flush] = (L5.blow, 8) := by rw [seq_one, LV.act_over _ hbd, code_down hbd]
  refine ⟨L1, L2, L3, L4, L5, f1, s1.read64 u1.1 rfl, ⟨by omega, cc1⟩, p2, ⟨by omega, cc2⟩, p3, ⟨by omega, cc3⟩, s3.read64 u3.1 rfl, ?_, ?_, p4, ⟨by omega, cc4⟩, s4.read64 u4.1 rfl, fun s hs => ?_, p5, ⟨by omega, cc5⟩, rfl, rfl, ?_, ?_, ?_, s5.read64 u5.1 rfl, ?_, ?_, rfl, rfl⟩
  · unfold DV.bad; rw [n3]; rfl
  · exact s3.inv.aread (j := 0) (s := logB 1 1 [97, 98]) rfl
  · have hs2 : needs s.length = 61 := by rw [hs]; rfl
    unfold apR
    rw [hs2]; rfl
  · unfold fmtR; rw [hq1 1 (by decide)]; rfl
  · unfold fmtR; rw [hq2]; rfl
  · unfold rdR; rw [hq3]; rfl
  · omega
  · unfold flR; rw [hsq]; rfl
end Go.Proofs.YtfbaleomhghjeaaGreat
end
