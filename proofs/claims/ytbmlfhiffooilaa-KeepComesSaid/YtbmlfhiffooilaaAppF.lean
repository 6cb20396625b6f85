/- An append to a slice that has no room: all that lay stays as it lay. Of no program. No condition. -/
import Derived.Test.YtbmlfhiffooilaaRow
import Derived.Test.YtbmlfhiffooilaaHashS
namespace Go.Proofs.Ytbmlfhiffooilaa
open Go.RowKit

theorem append_full {P : Program} (w : World) (t tx ty e : TypeId) (i : TypeInfo) (z : Value) (size bytes : Nat) (ht : P.underlying t = some (.slice e)) (hi : P.info? e = some i) (hz : i.zero = some z)
    (hsize : i.size = size) (hby : i.bytes = bytes) (hzs : z.cells.size = size) {a : Option Addr} {n : Nat} {xs : List Value} (hr : Row w size (.slice a n n) n xs)
    (x : Value) (m : Nat) (news : List Value) (hs : Src P size tx x m news w) (hm : 0 < m) (h63 : n + m ≤ maxLen) (hbytes : (n + m) * bytes ≤ 140737488355328) :
    ∃ v' w', (Builtin.append_ #[t, tx] ty #[.slice a n n, x]).run P w = .ok v' w' ∧ Row w' size v' (n + m) (xs ++ news) ∧ Frm (fun _ => False) w w' := by
  obtain ⟨v', w', hrun, hrow, _, _⟩ := run_append_row w t tx ty e i z size bytes ht hi hz hsize hby hzs hr x m news hs h63 hbytes
  refine ⟨v', w', hrun, hrow, ?_⟩
  subst hsize hby
  have hsmall : n + m ≤ 9223372036854775807 := by simp only [maxLen] at h63; omega
  rcases hr.2 with ⟨hv, rfl⟩ | ⟨g, cap, hv, h1, h2, h3, h4, h5⟩
  · simp only [Value.slice.injEq] at hv
    obtain ⟨rfl, _, _⟩ := hv
    have hx : xs = [] := List.eq_nil_of_length_eq_zero (by simpa using hr.1)
    subst hx
    have h := run_append_grow_src w t tx ty e i z ht hi hz none 0 0 [] (run_firstCells_none _ _ _ _ _) x m news hs (by omega) (by omega) (growslice_fits (by omega) hbytes)
    rw [hrun] at h
    have h2 := (Result.ok.inj h).2
    rw [h2]
    exact (Frm.refl _ w).drew.alloc _
  · simp only [Value.slice.injEq] at hv
    obtain ⟨rfl, _, rfl⟩ := hv
    have hxl := hr.1
    have hold : (Builtin.firstCells i.size n (.slice (some ⟨g, 0, none⟩) n n)).run P w.drew = .ok xs.toArray w.drew := by
      refine run_firstCells_some w.drew i.size n ⟨g, 0, none⟩ n n xs hxl fun j u hu => ?_
      have hj : j < xs.length := by
        rcases Nat.lt_or_ge j xs.length with h | h
        · exact h
        · rw [List.getElem?_eq_none h] at hu; cases hu
      have hadd : (⟨g, 0, none⟩ : Addr).add j = ⟨g, j, none⟩ := by unfold Addr.add; split <;> simp_all
      rw [hadd]
      show w.cell? ⟨g, j, none⟩ = some u
      rw [h4 j (by omega), hu]
    have h := run_append_grow_src w t tx ty e i z ht hi hz (some ⟨g, 0, none⟩) n n xs hold x m news hs (by omega) (by omega) (growslice_fits (by omega) hbytes)
    rw [hrun] at h
    have h2 := (Result.ok.inj h).2
    rw [h2]
    exact (Frm.refl _ w).drew.alloc _
/-- An append whose run is known, as an operation. -/
theorem exec_append {P : Program} {o : Oper} {a : Act} {W : World} (s x : Operand) (t tx : TypeId) (hop : o.op = Op.call { callee := Callee.builtin Builtin.append, args := #[s, x], argTypes := #[t, tx] }) (vs vx : Value) (hs : a.eval s = vs) (hx : a.eval x = vx) (v' : Value) (w' : World)
    (hr : (Builtin.append_ #[t, tx] o.type #[vs, vx]).run P W = .ok v' w') : (execOp a.eval o).run P W = .ok (.value v') w' := by
  simp [execOp, hop, resolve, invoke, builtin, hs, hx, hr, Result.andThen]
end Go.Proofs.Ytbmlfhiffooilaa
