/- Two stores at the end of a region that asks for its order, whichever comes first. No condition. -/
import Derived.Test.YtojbgckabifnjaaSibD
import Derived.Test.YtojbgckabifnjaaCodecX
import Derived.Test.YtojbgckabifnjaaVecG
import Derived.Deep.RegionWith
import Derived.Deep.RegionHeld3
import Derived.Deep.QuietTactic
import Derived.BigQuiet
import Derived.IntWalk
import Derived.Deep.Cut
section
namespace Go.Proofs.Ytojbgckabifnjaa
open Go.RowKit

theorem row_step {ops : Array Oper} {Q : Exit → Act → World → Prop} {K : Act → World → Prop} {i : Nat} {o : Oper} {a : Act} {w : World} (hi : ops[i]? = some o) (hg : o.guard = none) (hd : o.dst = none) (t : TypeId) (x y : Operand) (ho : o.op = .store t x y)
    (b : Nat) (cs old : Array Value) (hx : a.eval x = .pointer (some ⟨b, 0, none⟩)) (hy : a.eval y = .agg cs) (h1 : Blk w b t old) (h2 : old.size = cs.size) (h3 : (Try.prog.info? t).map (·.size) = some cs.size) (h4 : cs.all (·.oneCell') = true)
    (h : ∀ w', Blk w' b t cs → Frm (· = b) w w' → w'.heap.size = w.heap.size → K a w') : wpOp Try.prog ops Q i K a w := by
  unfold wpOp
  simp only [hi]
  rw [if_pos (by unfold Region.wanted; rw [hg])]
  refine .inl ?_
  refine wp_store_row t x y ho b cs hx hy t old h1 h3 h2 h4 ?_
  rw [hd]
  refine h _ ?_ ?_ ?_
  · simp only [Blk] at h1
    simp only [Blk, World.setRow, Array.getElem?_modify]
    simp [h1]
  · refine ⟨rfl, rfl, rfl, by simp [World.setRow], fun k _ hk => ?_⟩
    simp only [World.setRow, Array.getElem?_modify]
    rw [if_neg (fun e => hk e.symm)]
  · simp [World.setRow]

/-- The same, where the second one waits for the first one. -/
theorem seq_stores {ops : Array Oper} {Q : Exit → Act → World → Prop} {S : World → Prop} {listed : Array Bool} {i j k : Nat} {oi oj : Oper} {a : Act} {w : World}
    (hi : ops[i]? = some oi) (gi : oi.guard = none) (di : oi.dst = none) (hj : ops[j]? = some oj) (gj : oj.guard = none) (dj : oj.dst = none)
    (r0 : Region.ready .any ops listed = [i]) (r1 : Region.ready .any ops (listed.setIfInBounds i true) = [j])
    (r3 : Region.ready .any ops ((listed.setIfInBounds i true).setIfInBounds j true) = [k])
    (r5 : Region.ready .any ops (((listed.setIfInBounds i true).setIfInBounds j true).setIfInBounds k true) = [])
    (ti : TypeId) (xi yi : Operand) (hoi : oi.op = .store ti xi yi) (bi : Nat) (ci oldi : Array Value) (hxi : a.eval xi = .pointer (some ⟨bi, 0, none⟩)) (hyi : a.eval yi = .agg ci)
    (tj : TypeId) (xj yj : Operand) (hoj : oj.op = .store tj xj yj) (bj : Nat) (cj oldj : Array Value) (hxj : a.eval xj = .pointer (some ⟨bj, 0, none⟩)) (hyj : a.eval yj = .agg cj)
    (Bi : Blk w bi ti oldi) (si : oldi.size = ci.size) (ii : (Try.prog.info? ti).map (·.size) = some ci.size) (oi1 : ci.all (·.oneCell') = true)
    (Bj : Blk w bj tj oldj) (sj : oldj.size = cj.size) (ij : (Try.prog.info? tj).map (·.size) = some cj.size) (oj1 : cj.all (·.oneCell') = true) (hne : bi ≠ bj)
    (hS : ∀ w', Frm (fun q => q = bi ∨ q = bj) w w' → S w')
    (hK : ∀ w', Blk w' bi ti ci → Blk w' bj tj cj → Frm (fun q => q = bi ∨ q = bj) w w' → w'.heap.size = w.heap.size → wpOp Try.prog ops Q k (fun a'' w'' => S w'' ∧ Q .normal a'' w'') a w') :
    wpAnyH Try.prog .any ops Q S 3 listed a w := by
  refine wpAnyH_all r0 (by simp) ?_
  intro m hm
  obtain rfl : m = i := by simpa using hm
  refine row_step hi gi di ti xi yi hoi bi ci oldi hxi hyi Bi si ii oi1 ?_
  intro w1 e1 f1 z1
  have g1 : Frm (fun q => q = bi ∨ q = bj) w w1 := f1.mono fun _ _ h => .inl h
  refine ⟨hS _ g1, wpAnyH_all r1 (by simp) ?_⟩
  intro m hm
  obtain rfl : m = j := by simpa using hm
  refine row_step hj gj dj tj xj yj hoj bj cj oldj hxj hyj (Bj.keep f1 (fun e => hne e.symm)) sj ij oj1 ?_
  intro w2 e2 f2 z2
  have g2 : Frm (fun q => q = bi ∨ q = bj) w w2 := g1.trans (f2.mono fun _ _ h => .inr h)
  refine ⟨hS _ g2, wpAnyH_all r3 (by simp) ?_⟩
  intro m hm
  obtain rfl : m = k := by simpa using hm
  refine wpOp_mono (fun a'' w'' h => ?_) (hK w2 (e1.keep f2 hne) e2 g2 (z2.trans z1))
  exact ⟨h.1, wpAnyH_done r5 h.2 _⟩
end Go.Proofs.Ytojbgckabifnjaa
end
section
namespace Go.Proofs.Ytojbgckabifnjaa
open Go.RowKit

theorem Frm.new {w w1 w2 : World} {X Y : Nat → Prop} (h : Frm X w w1) (h' : Frm Y w1 w2) (hy : ∀ k, Y k → w.heap.size ≤ k) : Frm X w w2 := h.next h' fun k hk hY => by have := hy k hY; omega

end Go.Proofs.Ytojbgckabifnjaa
end
section
namespace Go.Proofs.Ytojbgckabifnjaa
open Go.RowKit
/-- Something that is written, or read. -/
structure Item where
  k : Nat
  n : Nat
  s : List UInt8
/-- The slice value v reads as these items. -/
def It (w : World) (v : Value) (L : List Item) : Prop :=
  ∃ a cap, v = .slice a L.length cap ∧ L.length ≤ cap ∧ cap ≤ maxLen ∧ ∀ i (h : i < L.length), ∃ b off, a = some ⟨b, off, none⟩ ∧ b < w.heap.size ∧
    w.cell? ⟨b, off + i * 3, none⟩ = some (.int .u8 L[i].k) ∧ w.cell? ⟨b, off + i * 3 + 1, none⟩ = some (.int .u32 L[i].n) ∧ w.cell? ⟨b, off + i * 3 + 2, none⟩ = some (.string (bs L[i].s)) ∧
    L[i].k < 256 ∧ L[i].n < 4294967296 ∧ L[i].s.length ≤ 9223372036854775807
theorem It.keep {X : Nat → Prop} {w w' : World} {v : Value} {L : List Item} (h : It w v L) (hf : Frm X w w') (hn : ∀ k, k < w.heap.size → ¬ X k) : It w' v L := by
  obtain ⟨a, cap, hv, h1, h2, h3⟩ := h
  refine ⟨a, cap, hv, h1, h2, fun i hi => ?_⟩
  obtain ⟨b, off, ha, hb, c0, c1, c2, r⟩ := h3 i hi
  have e := hf.block b hb (hn b hb)
  have ec : ∀ j, w'.cell? ⟨b, j, none⟩ = w.cell? ⟨b, j, none⟩ := fun j => World.cell?_of_block (a := ⟨b, j, none⟩) e
  exact ⟨b, off, ha, Nat.lt_of_lt_of_le hb hf.size, by rw [ec]; exact c0, by rw [ec]; exact c1, by rw [ec]; exact c2, r⟩

theorem ret_bool {a b : Bool} (h : a = b) : Ending.returned (.bool a) = .returned (.bool b) := by rw [h]
end Go.Proofs.Ytojbgckabifnjaa
end
section
namespace Go.Proofs.Ytojbgckabifnjaa
open Go.RowKit

/-- A call that only makes memory of its own answers v. -/
abbrev Ans (f : FuncId) (args : Array Value) (v : Value) : Prop := Hid (∀ w, Calls Try.prog f args w fun e w' => e = .returned v ∧ Frm (fun _ => False) w w')

theorem fEq (f g : Nat → Nat) (q : Bool) (h : eq8 f g = q) : ∀ w, (Op.equalIn 10000 24 (.agg (vv f)) (.agg (vv g))).run Try.prog w = .ok q w := fun w => by rw [run_eq_vec, h]

end Go.Proofs.Ytojbgckabifnjaa
end
section
namespace Go.Proofs.Ytojbgckabifnjaa
open Go.RowKit

theorem fNext (f : Nat → Nat) (r : Nat) (hf : Fit8 f) (hr : r < 256) : Ans 12 #[.agg (vv f), .int .u8 r] (.tuple #[.agg (vv (nextS8 f r).1), .agg (dv (nextS8 f r).2.1.1 (nextS8 f r).2.1.2), .int .i64 (nextS8 f r).2.2]) :=
  Lib.hid fun w => next_any8 f r w hf hr
end Go.Proofs.Ytojbgckabifnjaa
end
