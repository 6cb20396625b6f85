/- Rules: which versions each keeps. No condition. -/
import Derived.Test.YtbmlfhiffooilaaKpC
import Derived.Test.YtbmlfhiffooilaaRelT
import Derived.Shelf.Abstract
namespace Go.Proofs.Ytbmlfhiffooilaa
open Go.RowKit Go.Shelf

/-- Is it a block of bools? -/
def IsB (w : World) (q : Nat) : Prop := ∃ cs fz, w.heap[q]? = some (.cells cs 4 fz)
/-- But for blocks of bools, and new ones, w' is w. -/
def FrB (w w' : World) : Prop := Frm (IsB w) w w'
theorem FrB.of {w w' : World} (g : Frm (fun _ => False) w w') : FrB w w' := g.mono fun _ _ h => h.elim
theorem FrB.trans {w w' w'' : World} (g : FrB w w') (g' : FrB w' w'') : FrB w w'' :=
  ⟨g'.os.trans g.os, g'.tape.trans g.tape, g'.output.trans g.output, Nat.le_trans g.size g'.size, fun k hk hn => by
    have e := g.block k hk hn
    refine (g'.block k (Nat.lt_of_lt_of_le hk g.size) fun h => hn ?_).trans e
    unfold IsB at h ⊢
    rw [← e]
    exact h⟩
theorem Blk.keepFB {w w' : World} {b : Nat} {t : TypeId} {cs : Array Value} (h : Blk w b t cs) (ht : t ≠ 4) (g : FrB w w') : Blk w' b t cs := h.keep g fun ⟨cs', fz, e⟩ => by
  unfold Blk at h
  rw [h] at e
  simp only [Option.some.injEq, Obj.cells.injEq] at e
  exact ht e.2.1
theorem TopM.keepFB {w w' : World} {b wd : Nat} {l : List StI} (h : TopM w b wd l) (g : FrB w w') : TopM w' b wd l := h.keep g fun ⟨cs', fz, e⟩ => by
  obtain ⟨n, D, ⟨es, clock, h1, _⟩, _⟩ := h
  rw [h1] at e
  cases e
/-- A function value that tells of any version whether it is kept, and leaves all as it lay. -/
def KeepsTo (w : World) (v : Value) (p : StI → Bool) : Prop := ∃ gf caps, v = .func (.func gf) #[] caps ∧ (∀ args W, (callFunc gf args).run Try.prog W = .ok (.enter gf args) W) ∧
  ∀ (s : StI) (W : World), FrB w W → Calls Try.prog gf (#[.agg (stv s)] ++ caps) W fun e w' => e = .returned (.bool (p s)) ∧ Frm (fun _ => False) W w'
theorem KeepsTo.keepB {w w' : World} {v : Value} {p : StI → Bool} (h : KeepsTo w v p) (g : FrB w w') : KeepsTo w' v p := by
  obtain ⟨gf, caps, e, h1, h2⟩ := h
  exact ⟨gf, caps, e, h1, fun s W gW => h2 s W (g.trans gW)⟩
theorem KeepsTo.keep {w w' : World} {v : Value} {p : StI → Bool} (h : KeepsTo w v p) (g : Frm (fun _ => False) w w') : KeepsTo w' v p := h.keepB (.of g)
set_option maxRecDepth 100000 in
set_option maxHeartbeats 2000000 in
theorem all1_any (s : StI) (w : World) : Calls Try.prog 32 #[.agg (stv s)] w fun e w' => e = .returned (.bool true) ∧ Frm (fun _ => False) w w' := by
  have g0 : Frm (fun _ => False) w (w.alloc (.cells (stv s) 24)) := (Frm.refl _ w).alloc _
  go_enter Try.func32, Try.ntmps32
  go_wp2_with fail
  go_ret
  exact ⟨rfl, g0⟩
theorem all1_keeps (w : World) : KeepsTo w (.func (.func 32) #[] #[]) (fun _ => true) :=
  ⟨_, _, rfl, enters_of Try.func32 (by kernel_rfl) rfl, fun s W _ => all1_any s W⟩
set_option maxRecDepth 100000 in
set_option maxHeartbeats 4000000 in
theorem newest1_any (M T B wd : Nat) (l : List StI) (s : StI) (w : World) (hwd : 0 < wd) (hM : Blk w M 67 #[.map (some B)]) (hT : Blk w T 22 #[.int .u32 (wd : Int)]) (hB : TopM w B wd l) :
    Calls Try.prog 33 #[.agg (stv s), .pointer (some ⟨M, 0, none⟩), .pointer (some ⟨T, 0, none⟩)] w fun e w' => e = .returned (.bool (firstS l wd s)) ∧ Frm (fun _ => False) w w' := by
  rw [← top_first]
  obtain ⟨q, hqe⟩ : ∃ q, s.tick / wd = q := ⟨_, rfl⟩
  have g0 : Frm (fun _ => False) w (w.alloc (.cells (stv s) 24)) := (Frm.refl _ w).alloc _
  have b0 : Blk (w.alloc (.cells (stv s) 24)) w.heap.size 24 (stv s) := Blk.alloc w _ _
  have c0 := b0.cell 0 rfl
  have c1 := b0.cell 1 rfl
  have c2 := (hM.keep g0 (fun h => h)).cell 0 rfl
  have c3 := (hT.keep g0 (fun h => h)).cell 0 rfl
  have hwi : ¬ (wd : Int) = 0 := by omega
  have hq : q ≤ 4294967295 := by rw [← hqe]; exact Nat.le_trans (Nat.div_le_self _ _) s.ht
  have hwn : ¬ wd = 0 := by omega
  have hwr : IntKind.u32.wrap ((s.tick : Int) / (wd : Int)) = (q : Int) := by
    rw [← Int.natCast_ediv, hqe]
    exact IntWalk.u32_in _ (by omega)
  rw [hqe]
  clear hqe
  have hB0 := hB.keep g0 (fun h => h)
  have hlk := hB0.look q hq
  have HN := Lib.hid (fun W => newer_any (top l wd q) s W)
  go_enter Try.func33, Try.ntmps33
  go_wp2_with fail
  refine wp_region_canon (fun w' => w'.cell? ⟨M, 0, none⟩ = some (.map (some B)) ∧ w'.cell? ⟨T, 0, none⟩ = some (.int .u32 (wd : Int)) ∧ w'.cell? ⟨w.heap.size, 0, none⟩ = some (.int .u32 (s.id : Int)) ∧ w'.cell? ⟨w.heap.size, 1, none⟩ = some (.int .u32 (s.tick : Int)) ∧ (Instr.lookup 67 (.map (some B)) (.int .u32 (q : Int)) false).run Try.prog w' = .ok (.agg (stv (top l wd q))) w' ∧ TopM w' B wd l ∧ Frm (fun _ => False) w w') (by kernel_rfl) rfl (by kernel_rfl) (by kernel_rfl) (⟨c2, c3, c0, c1, (show TopM (World.drew _) B wd l from hB0.keepB rfl).look _ hq, hB0.keepB rfl, g0.drew⟩) ?_
  repeat' first
    | (refine CanonL.skip (by rfl) ?_; (try simp only [Act.put, List.setIfInBounds_toArray, List.set_cons_zero, List.set_cons_succ]))
    | (refine CanonL.callQ (by rfl) (by rfl) ?_ HN ?_ ?_; (focus (intro w; go_simp; (try (with_reducible rfl)); done)); (focus (rintro w ww hs gg; exact ⟨gg.cellF hs.1, gg.cellF hs.2.1, gg.cellF hs.2.2.1, gg.cellF hs.2.2.2.1, (hs.2.2.2.2.2.1.keep gg (fun h => h)).look _ hq, hs.2.2.2.2.2.1.keep gg (fun h => h), hs.2.2.2.2.2.2.trans gg⟩)); (try simp only [Act.put, List.setIfInBounds_toArray, List.set_cons_zero, List.set_cons_succ]))
    | (refine CanonL.val (v := ?_) (by rfl) ?_ ?_; rotate_left 1; (focus (intro w hSw; (try dsimp only at hSw); go_simp; (try (with_reducible rfl)); done)); (try simp only [Act.put, List.setIfInBounds_toArray, List.set_cons_zero, List.set_cons_succ]))
  refine CanonL.done ?_
  intro w9 hS9
  obtain ⟨_, _, _, _, _, _, ff⟩ := hS9
  go_wp2_with fail
  go_ret
  exact ⟨rfl, ff⟩
end Go.Proofs.Ytbmlfhiffooilaa
