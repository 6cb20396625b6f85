/- Whether contents are equal, as runs. -/
import Derived.Test.YtlajfmpgodcbmaaValX
import Derived.Test.YtlajfmpgodcbmaaValN
namespace Go.Proofs.Ytlajfmpgodcbmaa
open Go.RowKit
theorem run_eq_con (d d' : Bool) (t t' : List UInt8) (w : World) : (Op.equalIn 10000 38 (.agg #[.bool d, .string (bs t)]) (.agg #[.bool d', .string (bs t')])).run Try.prog w = .ok (d == d' && t == t') w := by
  have u3 := Try.underlying4
  have a3 := Try.isAgg4
  have z3 := Try.sizeOf4
  have u5 := Try.underlying9
  have a5 := Try.isAgg9
  have z5 := Try.sizeOf9
  have hS : Try.prog.underlying 38 = some (.struct (Try.prog.fieldsOf 38)) := by kernel_rfl
  rw [show (10000 : Nat) = 9999 + 1 from rfl, run_equalIn_agg w 9999 38 _ _ hS (by kernel_rfl)]
  simp only [Program.fieldsOf, Try.underlying38]
  go_simp
  rw [bs_toList, bs_toList]
  by_cases h : t = t'
  · subst h; cases d <;> cases d' <;> simp
  · cases d <;> cases d' <;> simp [h]
theorem run_eq_rcon (d d' : Bool) (t t' : List UInt8) (w : World) : (Op.equalIn 10000 45 (.agg #[.bool d, .string (bs t)]) (.agg #[.bool d', .string (bs t')])).run Try.prog w = .ok (d == d' && t == t') w := by
  have u3 := Try.underlying4
  have a3 := Try.isAgg4
  have z3 := Try.sizeOf4
  have u5 := Try.underlying9
  have a5 := Try.isAgg9
  have z5 := Try.sizeOf9
  have hS : Try.prog.underlying 45 = some (.struct (Try.prog.fieldsOf 45)) := by kernel_rfl
  rw [show (10000 : Nat) = 9999 + 1 from rfl, run_equalIn_agg w 9999 45 _ _ hS (by kernel_rfl)]
  simp only [Program.fieldsOf, Try.underlying45]
  go_simp
  rw [bs_toList, bs_toList]
  by_cases h : t = t'
  · subst h; cases d <;> cases d' <;> simp
  · cases d <;> cases d' <;> simp [h]
end Go.Proofs.Ytlajfmpgodcbmaa
