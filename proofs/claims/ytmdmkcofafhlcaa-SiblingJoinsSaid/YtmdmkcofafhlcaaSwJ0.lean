/- The first siblings of a slice, and those behind them: the operations. No condition. -/
import Derived.Test.YtmdmkcofafhlcaaSwE
namespace Go.Proofs.Ytmdmkcofafhlcaa
open Go.RowKit

theorem run_first (w : World) (av : Option Addr) (n cap k : Nat) (hk : k ≤ cap) : (Instr.sliceAt 45 (.slice av n cap) none (some (.int .i64 (k : Int))) none).run Try.prog w = .ok (.slice av k cap) w := by
  have hu := Try.underlying45
  have hz := Try.sizeOf105
  have h0 : (0 : Int) ≤ (k : Int) := by omega
  have h1 : (k : Int) ≤ (cap : Int) := by omega
  go_simp
theorem run_behind (w : World) (av : Option Addr) (n cap k : Nat) (hk : k ≤ n) : (Instr.sliceAt 45 (.slice av n cap) (some (.int .i64 (k : Int))) none none).run Try.prog w = .ok (.slice (if cap = k then av else av.map (fun x : Addr => x.add (k * 3))) (n - k) (cap - k)) w := by
  have hu := Try.underlying45
  have hz := Try.sizeOf105
  have h0 : (0 : Int) ≤ (k : Int) := by omega
  have h1 : (k : Int) ≤ (n : Int) := by omega
  go_simp
theorem wpl_first {ops : Array Oper} {rest : List Oper} {o : Oper} {a : Act} {w : World} {Q : Exit → Act → World → Prop} (hgd : o.guard = none) (x y : Operand) (ho : o.op = .slice 45 x none (some y) none)
    (av : Option Addr) (n cap k : Nat) (hx : a.eval x = .slice av n cap) (hy : a.eval y = .int .i64 (k : Int)) (hk : k ≤ cap) (hK : wpList Try.prog ops Q rest (a.put o.dst (.slice av k cap)) w) : wpList Try.prog ops Q (o :: rest) a w := by
  refine wpList_plain hgd fun K hK' => ?_
  unfold Oper.wp execOp
  simp only [ho, hx, hy, Option.map_some, Option.map_none, Sem.run_bind, run_first w av n cap k hk, Result.andThen_ok, Sem.run_pure]
  exact hK' _ _ hK
theorem wpl_behind {ops : Array Oper} {rest : List Oper} {o : Oper} {a : Act} {w : World} {Q : Exit → Act → World → Prop} (hgd : o.guard = none) (x y : Operand) (ho : o.op = .slice 45 x (some y) none none)
    (av : Option Addr) (n cap k : Nat) (hx : a.eval x = .slice av n cap) (hy : a.eval y = .int .i64 (k : Int)) (hk : k ≤ n) (hK : wpList Try.prog ops Q rest (a.put o.dst (.slice (if cap = k then av else av.map (fun x : Addr => x.add (k * 3))) (n - k) (cap - k))) w) : wpList Try.prog ops Q (o :: rest) a w := by
  refine wpList_plain hgd fun K hK' => ?_
  unfold Oper.wp execOp
  simp only [ho, hx, hy, Option.map_some, Option.map_none, Sem.run_bind, run_behind w av n cap k hk, Result.andThen_ok, Sem.run_pure]
  exact hK' _ _ hK
end Go.Proofs.Ytmdmkcofafhlcaa

