/- VectorLattice: what the law's call answers. Of any three vectors and dot. No condition but that the numbers have their bits. -/
import Derived.Test.YtmohegglclgcbaaLawVJoins
import Derived.Test.YtmohegglclgcbaaVecOpen
import Derived.Test.YtmohegglclgcbaaVecQ
import Derived.Test.YtmohegglclgcbaaCanonQ
import Derived.Deep.DeepCutAuto
import Derived.Deep.RegionHeld
import Derived.Deep.RegionHeld3
namespace Go.Proofs.Ytmohegglclgcbaa
open Go.RowKit

/-- One of the allocs of a region that asks for its order. -/
theorem alloc_step {ops : Array Oper} {Q : Exit → Act → World → Prop} {K : Act → World → Prop} {i : Nat} {o : Oper} {a : Act} {w : World} (hi : ops[i]? = some o) (hg : o.guard = none) (ho : o.op = .alloc 24)
    (h : K (a.put o.dst (.pointer (some ⟨w.heap.size, 0, none⟩))) (w.alloc (.cells vz 24))) : wpOp Try.prog ops Q i K a w := by
  unfold wpOp
  simp only [hi]
  rw [if_pos (by unfold Region.wanted; rw [hg])]
  refine .inl ?_
  unfold Oper.wp execOp
  simp only [ho]
  go_simp
  exact h
/-- One of the stores of a region that asks for its order. -/
theorem store_step {ops : Array Oper} {Q : Exit → Act → World → Prop} {K : Act → World → Prop} {i : Nat} {o : Oper} {a : Act} {w : World} (hi : ops[i]? = some o) (hg : o.guard = none) (x y : Operand) (ho : o.op = .store 24 x y)
    (b : Nat) (f : Nat → Nat) (old : Array Value) (hx : a.eval x = .pointer (some ⟨b, 0, none⟩)) (hy : a.eval y = .agg (vv f)) (h1 : Blk w b 24 old) (h2 : old.size = 8)
    (h : ∀ w', Blk w' b 24 (vv f) → Frm (· = b) w w' → w'.heap.size = w.heap.size → K (a.put o.dst undef) w') : wpOp Try.prog ops Q i K a w := by
  unfold wpOp
  simp only [hi]
  rw [if_pos (by unfold Region.wanted; rw [hg])]
  refine .inl ?_
  refine wp_store_row 24 x y ho b (vv f) hx hy 24 old h1 (by rw [vv_size]; kernel_rfl) (by rw [h2, vv_size]) (by simp [Value.oneCell']) (h _ ?_ ?_ ?_)
  · simp only [Blk] at h1
    simp only [Blk, World.setRow, Array.getElem?_modify]
    simp [h1]
  · refine ⟨rfl, rfl, rfl, by simp [World.setRow], fun k _ hk => ?_⟩
    simp only [World.setRow, Array.getElem?_modify]
    rw [if_neg (fun e => hk e.symm)]
  · simp [World.setRow]
theorem lHas (f : Nat → Nat) (r n : Nat) (q : Bool) (hr : r < 256) (hn : n < 4294967296) (h : has8 f r n = q) : Ans 14 #[.agg (vv f), .agg (dv r n)] (.bool q) := Lib.hid fun w => by
  rw [← h]; exact has_any f r n w hr hn
/-- Three vectors' numbers, one behind the other. -/
def row3 (f g h : Nat → Nat) : Nat → Nat := fun k => if k < 8 then f k else if k < 16 then g (k - 8) else h (k - 16)
theorem row3_at (f g h : Nat → Nat) (k : Nat) (hk : k < 24) : (vv3 f g h)[k]? = some (.int .u32 (row3 f g h k)) := by
  have s1 : (vv f ++ vv g).size = 16 := by rw [Array.size_append, vv_size, vv_size]
  unfold vv3 row3
  by_cases h1 : k < 8
  · rw [Array.getElem?_append_left (by rw [s1]; omega), Array.getElem?_append_left (by rw [vv_size]; omega), vv_get f k h1, if_pos h1]
  · by_cases h2 : k < 16
    · rw [Array.getElem?_append_left (by rw [s1]; omega), Array.getElem?_append_right (by rw [vv_size]; omega), vv_size, vv_get g (k - 8) (by omega), if_neg h1, if_pos h2]
    · rw [Array.getElem?_append_right (by rw [s1]; omega), s1, vv_get h (k - 16) (by omega), if_neg h1, if_neg h2]

set_option maxRecDepth 100000 in
set_option maxHeartbeats 8000000 in
theorem vectorLattice_any (f g h : Nat → Nat) (r n : Nat) (w : World) (hf : Fit8 f) (_ : Fit8 g) (_ : Fit8 h) (hr : r < 256) (hn : n < 4294967296) :
    Calls Try.prog 3 #[.agg (vv3 f g h), .agg (dv r n)] w fun e w' => e = .returned (.bool true) ∧ Frm (fun _ => False) w w' := by
  have b0 : Blk ((w.alloc (Obj.cells (vv3 f g h) 25)).alloc (Obj.cells (dv r n) 27)) w.heap.size 25 (vv3 f g h) := (Blk.alloc w _ _).old _
  have b1 : Blk ((w.alloc (Obj.cells (vv3 f g h) 25)).alloc (Obj.cells (dv r n) 27)) (w.heap.size + 1) 27 (dv r n) := Blk.at1 w _ _ _
  have g0 : Frm (fun _ => False) w ((w.alloc (Obj.cells (vv3 f g h) 25)).alloc (Obj.cells (dv r n) 27)) := ((Frm.refl _ w).alloc _).alloc _
  have hcell : ∀ k, k < 24 → ((w.alloc (Obj.cells (vv3 f g h) 25)).alloc (Obj.cells (dv r n) 27)).cell? ⟨w.heap.size, k, none⟩ = some (.int .u32 (row3 f g h k)) := fun k hk => b0.cell k (row3_at f g h k hk)
  obtain ⟨X, hX⟩ : ∃ X, vv3 f g h = X := ⟨_, rfl⟩
  rw [hX] at b0 b1 g0 hcell ⊢
  clear hX
  obtain ⟨F, hF⟩ : ∃ F, row3 f g h = F := ⟨_, rfl⟩
  have HF := Lib.hid hF
  rw [hF] at hcell
  clear hF
  go_enter Try.func3, Try.ntmps3
  go_upto_region 1 with fail
  obtain ⟨w0, hw0⟩ : ∃ w0, (w.alloc (Obj.cells X 25)).alloc (Obj.cells (dv r n) 27) = w0 := ⟨_, rfl⟩
  rw [hw0] at b0 b1 g0 hcell ⊢
  clear hw0 b0
  obtain ⟨A, hA⟩ : ∃ A, w.heap.size = A := ⟨_, rfl⟩
  rw [hA] at b1 hcell ⊢
  have HA := Lib.hid hA
  clear hA
  go_cut [5, 6, 7] (fun p5 p6 p7 wr => ∃ x y z : Nat, p5 = .pointer (some ⟨x, 0, none⟩) ∧ p6 = .pointer (some ⟨y, 0, none⟩) ∧ p7 = .pointer (some ⟨z, 0, none⟩) ∧ Blk wr x 24 (vv f) ∧ Blk wr y 24 (vv g) ∧ Blk wr z 24 (vv h) ∧ Blk wr (A + 1) 27 (dv r n) ∧ Frm (fun _ => False) w wr)
  case first => as_aux_lemma =>
    refine wp_region_held_drew (S := fun w' : World => (∀ k, k < 24 → w'.cell? ⟨A, k, none⟩ = some (.int .u32 (F k))) ∧ Frm (fun _ => False) w0 w') (by kernel_rfl) ⟨hcell, (Frm.refl _ w0).drew⟩ (fun hHeld => ?_)
    refine wpAnyH_take (i := 0) (v := ?_) rfl (by kernel_rfl) (by kernel_rfl) (by kernel_rfl) (fun _ _ _ h => h) (Or.inl ⟨by rfl, ?z0⟩) (by assumption) ?_
    case z0 =>
      intro w hSw
      obtain ⟨hSw, _⟩ := hSw
      go_simp
      try (with_reducible rfl)
    try simp only [Act.put, List.getElem_toArray, List.getElem_cons_zero, List.setIfInBounds_toArray, List.set_cons_zero, List.set_cons_succ]
    refine wpAnyH_take (i := 1) (v := ?_) rfl (by kernel_rfl) (by kernel_rfl) (by kernel_rfl) (fun _ _ _ h => h) (Or.inl ⟨by rfl, ?z1⟩) (by assumption) ?_
    case z1 =>
      intro w hSw
      obtain ⟨hSw, _⟩ := hSw
      go_simp
      try (with_reducible rfl)
    try simp only [Act.put, List.getElem_toArray, List.getElem_cons_zero, List.getElem_cons_succ, List.setIfInBounds_toArray, List.set_cons_zero, List.set_cons_succ]
    refine wpAnyH_take (i := 2) (v := ?_) rfl (by kernel_rfl) (by kernel_rfl) (by kernel_rfl) (fun _ _ _ h => h) (Or.inl ⟨by rfl, ?z2⟩) (by assumption) ?_
    case z2 =>
      intro w hSw
      obtain ⟨hSw, _⟩ := hSw
      go_simp
      try (with_reducible rfl)
    try simp only [Act.put, List.getElem_toArray, List.getElem_cons_zero, List.getElem_cons_succ, List.setIfInBounds_toArray, List.set_cons_zero, List.set_cons_succ]
    refine wpAnyH_take (i := 3) (v := ?_) rfl (by kernel_rfl) (by kernel_rfl) (by kernel_rfl) (fun _ _ _ h => h) (Or.inl ⟨by rfl, ?z3⟩) (by assumption) ?_
    case z3 =>
      intro w hSw
      obtain ⟨hSw, _⟩ := hSw
      go_simp
      try (with_reducible rfl)
    try simp only [Act.put, List.getElem_toArray, List.getElem_cons_zero, List.getElem_cons_succ, List.setIfInBounds_toArray, List.set_cons_zero, List.set_cons_succ]
    refine wpAnyH_take (i := 4) (v := ?_) rfl (by kernel_rfl) (by kernel_rfl) (by kernel_rfl) (fun _ _ _ h => h) (Or.inl ⟨by rfl, ?z4⟩) (by assumption) ?_
    case z4 =>
      intro w hSw
      obtain ⟨hSw, _⟩ := hSw
      go_simp
      try (with_reducible rfl)
    try simp only [Act.put, List.getElem_toArray, List.getElem_cons_zero, List.getElem_cons_succ, List.setIfInBounds_toArray, List.set_cons_zero, List.set_cons_succ]
    refine wpAnyH_take (i := 5) (v := ?_) rfl (by kernel_rfl) (by kernel_rfl) (by kernel_rfl) (fun _ _ _ h => h) (Or.inl ⟨by rfl, ?z5⟩) (by assumption) ?_
    case z5 =>
      intro w hSw
      obtain ⟨hSw, _⟩ := hSw
      go_simp
      try (with_reducible rfl)
    try simp only [Act.put, List.getElem_toArray, List.getElem_cons_zero, List.getElem_cons_succ, List.setIfInBounds_toArray, List.set_cons_zero, List.set_cons_succ]
    clear hHeld
    have f0 : Frm (fun _ => False) w0 w0.drew := (Frm.refl _ w0).drew
    obtain ⟨v0, hv0⟩ : ∃ v0, w0.drew = v0 := ⟨_, rfl⟩
    have d1 : Blk v0 (A + 1) 27 (dv r n) := by rw [← hv0]; exact b1.drew
    have hc0 : ∀ k, k < 24 → v0.cell? ⟨A, k, none⟩ = some (.int .u32 (F k)) := by rw [← hv0]; exact hcell
    rw [hv0] at f0
    first | rw [hv0] | skip
    have hx1 : (v0.alloc (.cells vz 24)).heap.size = v0.heap.size + 1 := by simp
    have hx2 : ((v0.alloc (.cells vz 24)).alloc (.cells vz 24)).heap.size = v0.heap.size + 2 := by simp
    have hvw : w0.heap.size ≤ v0.heap.size := f0.size
    have n0 : Blk (((v0.alloc (.cells vz 24)).alloc (.cells vz 24)).alloc (.cells vz 24)) v0.heap.size 24 vz := ((Blk.alloc v0 _ _).old _).old _
    have n1 : Blk (((v0.alloc (.cells vz 24)).alloc (.cells vz 24)).alloc (.cells vz 24)) (v0.alloc (.cells vz 24)).heap.size 24 vz := (Blk.alloc (v0.alloc (.cells vz 24)) _ _).old _
    have n2 : Blk (((v0.alloc (.cells vz 24)).alloc (.cells vz 24)).alloc (.cells vz 24)) ((v0.alloc (.cells vz 24)).alloc (.cells vz 24)).heap.size 24 vz := Blk.alloc ((v0.alloc (.cells vz 24)).alloc (.cells vz 24)) _ _
    have f1 := f0.alloc (.cells vz 24)
    have f2 := f1.alloc (.cells vz 24)
    have f3 := f2.alloc (.cells vz 24)
    have d3 := ((d1.old (.cells vz 24)).old (.cells vz 24)).old (.cells vz 24)
    have hA0 : A + 1 < v0.heap.size := d1.lt
    have e17 : (#[Value.int .u32 (F 0), .int .u32 (F 1), .int .u32 (F 2), .int .u32 (F 3), .int .u32 (F 4), .int .u32 (F 5), .int .u32 (F 6), .int .u32 (F 7)] : Array Value) = vv f := by rw [← HF.out]; rfl
    have e19 : (#[Value.int .u32 (F 8), .int .u32 (F 9), .int .u32 (F 10), .int .u32 (F 11), .int .u32 (F 12), .int .u32 (F 13), .int .u32 (F 14), .int .u32 (F 15)] : Array Value) = vv g := by rw [← HF.out]; rfl
    have e21 : (#[Value.int .u32 (F 16), .int .u32 (F 17), .int .u32 (F 18), .int .u32 (F 19), .int .u32 (F 20), .int .u32 (F 21), .int .u32 (F 22), .int .u32 (F 23)] : Array Value) = vv h := by rw [← HF.out]; rfl
    rw [e17, e19, e21]
    refine wpAnyH_all (rs := [6, 7, 8]) (by kernel_rfl) (by simp) ?_
    intro i hi
    simp only [List.mem_cons, List.not_mem_nil, or_false] at hi
    rcases hi with rfl | rfl | rfl
    · refine alloc_step rfl rfl rfl ⟨⟨fun k hk => f1.cellF (hcell k hk), f1⟩, ?_⟩
      simp only [Act.put, List.getElem_toArray, List.getElem_cons_zero, List.getElem_cons_succ, List.setIfInBounds_toArray, List.set_cons_zero, List.set_cons_succ]
      refine wpAnyH_all (rs := [7, 8]) (by kernel_rfl) (by simp) ?_
      intro i hi
      simp only [List.mem_cons, List.not_mem_nil, or_false] at hi
      rcases hi with rfl | rfl
      · refine alloc_step rfl rfl rfl ⟨⟨fun k hk => f2.cellF (hcell k hk), f2⟩, ?_⟩
        simp only [Act.put, List.getElem_toArray, List.getElem_cons_zero, List.getElem_cons_succ, List.setIfInBounds_toArray, List.set_cons_zero, List.set_cons_succ]
        refine wpAnyH_all (rs := [8]) (by kernel_rfl) (by simp) ?_
        intro i hi
        obtain rfl : i = 8 := by simpa using hi
        · refine alloc_step rfl rfl rfl ⟨⟨fun k hk => f3.cellF (hcell k hk), f3⟩, ?_⟩
          simp only [Act.put, List.getElem_toArray, List.getElem_cons_zero, List.getElem_cons_succ, List.setIfInBounds_toArray, List.set_cons_zero, List.set_cons_succ]
          refine wpAnyH_all (rs := [9]) (by kernel_rfl) (by simp) ?_
          intro i hi
          obtain rfl : i = 9 := by simpa using hi
          refine store_step rfl rfl _ _ rfl v0.heap.size f vz rfl rfl n0 rfl ?_
          intro w9 e9 g9 z9
          have q9 := f3.next (X := fun _ => False) g9 (fun k hk h => by omega)
          refine ⟨⟨fun k hk => q9.cellF (hcell k hk), q9⟩, ?_⟩
          try simp only [Act.put]
          have x7_9 := n1.keep g9 (by omega)
          have x8_9 := n2.keep g9 (by omega)
          have dd9 := d3.keep g9 (by omega)
          refine wpAnyH_all (rs := [10]) (by kernel_rfl) (by simp) ?_
          intro i hi
          obtain rfl : i = 10 := by simpa using hi
          refine store_step rfl rfl _ _ rfl (v0.alloc (.cells vz 24)).heap.size g vz rfl rfl x7_9 rfl ?_
          intro w10 e10 g10 z10
          have q10 := q9.next (X := fun _ => False) g10 (fun k hk h => by omega)
          refine ⟨⟨fun k hk => q10.cellF (hcell k hk), q10⟩, ?_⟩
          try simp only [Act.put]
          have x6_10 := e9.keep g10 (by omega)
          have x8_10 := x8_9.keep g10 (by omega)
          have dd10 := dd9.keep g10 (by omega)
          refine wpAnyH_all (rs := [11]) (by kernel_rfl) (by simp) ?_
          intro i hi
          obtain rfl : i = 11 := by simpa using hi
          refine store_step rfl rfl _ _ rfl ((v0.alloc (.cells vz 24)).alloc (.cells vz 24)).heap.size h vz rfl rfl x8_10 rfl ?_
          intro w11 e11 g11 z11
          have q11 := q10.next (X := fun _ => False) g11 (fun k hk h => by omega)
          refine ⟨⟨fun k hk => q11.cellF (hcell k hk), q11⟩, ?_⟩
          try simp only [Act.put]
          have x6_11 := x6_10.keep g11 (by omega)
          have x7_11 := e10.keep g11 (by omega)
          have dd11 := dd10.keep g11 (by omega)
          refine wpAnyH_done (by kernel_rfl) ?_ _
          go_wp2_with fail
          go_meet
          exact ⟨v0.heap.size, (v0.alloc (.cells vz 24)).heap.size, ((v0.alloc (.cells vz 24)).alloc (.cells vz 24)).heap.size, rfl, rfl, rfl, x6_11, x7_11, e11, dd11, g0.trans q11⟩
      · refine alloc_step rfl rfl rfl ⟨⟨fun k hk => f2.cellF (hcell k hk), f2⟩, ?_⟩
        simp only [Act.put, List.getElem_toArray, List.getElem_cons_zero, List.getElem_cons_succ, List.setIfInBounds_toArray, List.set_cons_zero, List.set_cons_succ]
        refine wpAnyH_all (rs := [7]) (by kernel_rfl) (by simp) ?_
        intro i hi
        obtain rfl : i = 7 := by simpa using hi
        · refine alloc_step rfl rfl rfl ⟨⟨fun k hk => f3.cellF (hcell k hk), f3⟩, ?_⟩
          simp only [Act.put, List.getElem_toArray, List.getElem_cons_zero, List.getElem_cons_succ, List.setIfInBounds_toArray, List.set_cons_zero, List.set_cons_succ]
          refine wpAnyH_all (rs := [9]) (by kernel_rfl) (by simp) ?_
          intro i hi
          obtain rfl : i = 9 := by simpa using hi
          refine store_step rfl rfl _ _ rfl v0.heap.size f vz rfl rfl n0 rfl ?_
          intro w9 e9 g9 z9
          have q9 := f3.next (X := fun _ => False) g9 (fun k hk h => by omega)
          refine ⟨⟨fun k hk => q9.cellF (hcell k hk), q9⟩, ?_⟩
          try simp only [Act.put]
          have x7_9 := n2.keep g9 (by omega)
          have x8_9 := n1.keep g9 (by omega)
          have dd9 := d3.keep g9 (by omega)
          refine wpAnyH_all (rs := [10]) (by kernel_rfl) (by simp) ?_
          intro i hi
          obtain rfl : i = 10 := by simpa using hi
          refine store_step rfl rfl _ _ rfl ((v0.alloc (.cells vz 24)).alloc (.cells vz 24)).heap.size g vz rfl rfl x7_9 rfl ?_
          intro w10 e10 g10 z10
          have q10 := q9.next (X := fun _ => False) g10 (fun k hk h => by omega)
          refine ⟨⟨fun k hk => q10.cellF (hcell k hk), q10⟩, ?_⟩
          try simp only [Act.put]
          have x6_10 := e9.keep g10 (by omega)
          have x8_10 := x8_9.keep g10 (by omega)
          have dd10 := dd9.keep g10 (by omega)
          refine wpAnyH_all (rs := [11]) (by kernel_rfl) (by simp) ?_
          intro i hi
          obtain rfl : i = 11 := by simpa using hi
          refine store_step rfl rfl _ _ rfl (v0.alloc (.cells vz 24)).heap.size h vz rfl rfl x8_10 rfl ?_
          intro w11 e11 g11 z11
          have q11 := q10.next (X := fun _ => False) g11 (fun k hk h => by omega)
          refine ⟨⟨fun k hk => q11.cellF (hcell k hk), q11⟩, ?_⟩
          try simp only [Act.put]
          have x6_11 := x6_10.keep g11 (by omega)
          have x7_11 := e10.keep g11 (by omega)
          have dd11 := dd10.keep g11 (by omega)
          refine wpAnyH_done (by kernel_rfl) ?_ _
          go_wp2_with fail
          go_meet
          exact ⟨v0.heap.size, ((v0.alloc (.cells vz 24)).alloc (.cells vz 24)).heap.size, (v0.alloc (.cells vz 24)).heap.size, rfl, rfl, rfl, x6_11, x7_11, e11, dd11, g0.trans q11⟩
    · refine alloc_step rfl rfl rfl ⟨⟨fun k hk => f1.cellF (hcell k hk), f1⟩, ?_⟩
      simp only [Act.put, List.getElem_toArray, List.getElem_cons_zero, List.getElem_cons_succ, List.setIfInBounds_toArray, List.set_cons_zero, List.set_cons_succ]
      refine wpAnyH_all (rs := [6, 8]) (by kernel_rfl) (by simp) ?_
      intro i hi
      simp only [List.mem_cons, List.not_mem_nil, or_false] at hi
      rcases hi with rfl | rfl
      · refine alloc_step rfl rfl rfl ⟨⟨fun k hk => f2.cellF (hcell k hk), f2⟩, ?_⟩
        simp only [Act.put, List.getElem_toArray, List.getElem_cons_zero, List.getElem_cons_succ, List.setIfInBounds_toArray, List.set_cons_zero, List.set_cons_succ]
        refine wpAnyH_all (rs := [8]) (by kernel_rfl) (by simp) ?_
        intro i hi
        obtain rfl : i = 8 := by simpa using hi
        · refine alloc_step rfl rfl rfl ⟨⟨fun k hk => f3.cellF (hcell k hk), f3⟩, ?_⟩
          simp only [Act.put, List.getElem_toArray, List.getElem_cons_zero, List.getElem_cons_succ, List.setIfInBounds_toArray, List.set_cons_zero, List.set_cons_succ]
          refine wpAnyH_all (rs := [9]) (by kernel_rfl) (by simp) ?_
          intro i hi
          obtain rfl : i = 9 := by simpa using hi
          refine store_step rfl rfl _ _ rfl (v0.alloc (.cells vz 24)).heap.size f vz rfl rfl n1 rfl ?_
          intro w9 e9 g9 z9
          have q9 := f3.next (X := fun _ => False) g9 (fun k hk h => by omega)
          refine ⟨⟨fun k hk => q9.cellF (hcell k hk), q9⟩, ?_⟩
          try simp only [Act.put]
          have x7_9 := n0.keep g9 (by omega)
          have x8_9 := n2.keep g9 (by omega)
          have dd9 := d3.keep g9 (by omega)
          refine wpAnyH_all (rs := [10]) (by kernel_rfl) (by simp) ?_
          intro i hi
          obtain rfl : i = 10 := by simpa using hi
          refine store_step rfl rfl _ _ rfl v0.heap.size g vz rfl rfl x7_9 rfl ?_
          intro w10 e10 g10 z10
          have q10 := q9.next (X := fun _ => False) g10 (fun k hk h => by omega)
          refine ⟨⟨fun k hk => q10.cellF (hcell k hk), q10⟩, ?_⟩
          try simp only [Act.put]
          have x6_10 := e9.keep g10 (by omega)
          have x8_10 := x8_9.keep g10 (by omega)
          have dd10 := dd9.keep g10 (by omega)
          refine wpAnyH_all (rs := [11]) (by kernel_rfl) (by simp) ?_
          intro i hi
          obtain rfl : i = 11 := by simpa using hi
          refine store_step rfl rfl _ _ rfl ((v0.alloc (.cells vz 24)).alloc (.cells vz 24)).heap.size h vz rfl rfl x8_10 rfl ?_
          intro w11 e11 g11 z11
          have q11 := q10.next (X := fun _ => False) g11 (fun k hk h => by omega)
          refine ⟨⟨fun k hk => q11.cellF (hcell k hk), q11⟩, ?_⟩
          try simp only [Act.put]
          have x6_11 := x6_10.keep g11 (by omega)
          have x7_11 := e10.keep g11 (by omega)
          have dd11 := dd10.keep g11 (by omega)
          refine wpAnyH_done (by kernel_rfl) ?_ _
          go_wp2_with fail
          go_meet
          exact ⟨(v0.alloc (.cells vz 24)).heap.size, v0.heap.size, ((v0.alloc (.cells vz 24)).alloc (.cells vz 24)).heap.size, rfl, rfl, rfl, x6_11, x7_11, e11, dd11, g0.trans q11⟩
      · refine alloc_step rfl rfl rfl ⟨⟨fun k hk => f2.cellF (hcell k hk), f2⟩, ?_⟩
        simp only [Act.put, List.getElem_toArray, List.getElem_cons_zero, List.getElem_cons_succ, List.setIfInBounds_toArray, List.set_cons_zero, List.set_cons_succ]
        refine wpAnyH_all (rs := [6]) (by kernel_rfl) (by simp) ?_
        intro i hi
        obtain rfl : i = 6 := by simpa using hi
        · refine alloc_step rfl rfl rfl ⟨⟨fun k hk => f3.cellF (hcell k hk), f3⟩, ?_⟩
          simp only [Act.put, List.getElem_toArray, List.getElem_cons_zero, List.getElem_cons_succ, List.setIfInBounds_toArray, List.set_cons_zero, List.set_cons_succ]
          refine wpAnyH_all (rs := [9]) (by kernel_rfl) (by simp) ?_
          intro i hi
          obtain rfl : i = 9 := by simpa using hi
          refine store_step rfl rfl _ _ rfl ((v0.alloc (.cells vz 24)).alloc (.cells vz 24)).heap.size f vz rfl rfl n2 rfl ?_
          intro w9 e9 g9 z9
          have q9 := f3.next (X := fun _ => False) g9 (fun k hk h => by omega)
          refine ⟨⟨fun k hk => q9.cellF (hcell k hk), q9⟩, ?_⟩
          try simp only [Act.put]
          have x7_9 := n0.keep g9 (by omega)
          have x8_9 := n1.keep g9 (by omega)
          have dd9 := d3.keep g9 (by omega)
          refine wpAnyH_all (rs := [10]) (by kernel_rfl) (by simp) ?_
          intro i hi
          obtain rfl : i = 10 := by simpa using hi
          refine store_step rfl rfl _ _ rfl v0.heap.size g vz rfl rfl x7_9 rfl ?_
          intro w10 e10 g10 z10
          have q10 := q9.next (X := fun _ => False) g10 (fun k hk h => by omega)
          refine ⟨⟨fun k hk => q10.cellF (hcell k hk), q10⟩, ?_⟩
          try simp only [Act.put]
          have x6_10 := e9.keep g10 (by omega)
          have x8_10 := x8_9.keep g10 (by omega)
          have dd10 := dd9.keep g10 (by omega)
          refine wpAnyH_all (rs := [11]) (by kernel_rfl) (by simp) ?_
          intro i hi
          obtain rfl : i = 11 := by simpa using hi
          refine store_step rfl rfl _ _ rfl (v0.alloc (.cells vz 24)).heap.size h vz rfl rfl x8_10 rfl ?_
          intro w11 e11 g11 z11
          have q11 := q10.next (X := fun _ => False) g11 (fun k hk h => by omega)
          refine ⟨⟨fun k hk => q11.cellF (hcell k hk), q11⟩, ?_⟩
          try simp only [Act.put]
          have x6_11 := x6_10.keep g11 (by omega)
          have x7_11 := e10.keep g11 (by omega)
          have dd11 := dd10.keep g11 (by omega)
          refine wpAnyH_done (by kernel_rfl) ?_ _
          go_wp2_with fail
          go_meet
          exact ⟨((v0.alloc (.cells vz 24)).alloc (.cells vz 24)).heap.size, v0.heap.size, (v0.alloc (.cells vz 24)).heap.size, rfl, rfl, rfl, x6_11, x7_11, e11, dd11, g0.trans q11⟩
    · refine alloc_step rfl rfl rfl ⟨⟨fun k hk => f1.cellF (hcell k hk), f1⟩, ?_⟩
      simp only [Act.put, List.getElem_toArray, List.getElem_cons_zero, List.getElem_cons_succ, List.setIfInBounds_toArray, List.set_cons_zero, List.set_cons_succ]
      refine wpAnyH_all (rs := [6, 7]) (by kernel_rfl) (by simp) ?_
      intro i hi
      simp only [List.mem_cons, List.not_mem_nil, or_false] at hi
      rcases hi with rfl | rfl
      · refine alloc_step rfl rfl rfl ⟨⟨fun k hk => f2.cellF (hcell k hk), f2⟩, ?_⟩
        simp only [Act.put, List.getElem_toArray, List.getElem_cons_zero, List.getElem_cons_succ, List.setIfInBounds_toArray, List.set_cons_zero, List.set_cons_succ]
        refine wpAnyH_all (rs := [7]) (by kernel_rfl) (by simp) ?_
        intro i hi
        obtain rfl : i = 7 := by simpa using hi
        · refine alloc_step rfl rfl rfl ⟨⟨fun k hk => f3.cellF (hcell k hk), f3⟩, ?_⟩
          simp only [Act.put, List.getElem_toArray, List.getElem_cons_zero, List.getElem_cons_succ, List.setIfInBounds_toArray, List.set_cons_zero, List.set_cons_succ]
          refine wpAnyH_all (rs := [9]) (by kernel_rfl) (by simp) ?_
          intro i hi
          obtain rfl : i = 9 := by simpa using hi
          refine store_step rfl rfl _ _ rfl (v0.alloc (.cells vz 24)).heap.size f vz rfl rfl n1 rfl ?_
          intro w9 e9 g9 z9
          have q9 := f3.next (X := fun _ => False) g9 (fun k hk h => by omega)
          refine ⟨⟨fun k hk => q9.cellF (hcell k hk), q9⟩, ?_⟩
          try simp only [Act.put]
          have x7_9 := n2.keep g9 (by omega)
          have x8_9 := n0.keep g9 (by omega)
          have dd9 := d3.keep g9 (by omega)
          refine wpAnyH_all (rs := [10]) (by kernel_rfl) (by simp) ?_
          intro i hi
          obtain rfl : i = 10 := by simpa using hi
          refine store_step rfl rfl _ _ rfl ((v0.alloc (.cells vz 24)).alloc (.cells vz 24)).heap.size g vz rfl rfl x7_9 rfl ?_
          intro w10 e10 g10 z10
          have q10 := q9.next (X := fun _ => False) g10 (fun k hk h => by omega)
          refine ⟨⟨fun k hk => q10.cellF (hcell k hk), q10⟩, ?_⟩
          try simp only [Act.put]
          have x6_10 := e9.keep g10 (by omega)
          have x8_10 := x8_9.keep g10 (by omega)
          have dd10 := dd9.keep g10 (by omega)
          refine wpAnyH_all (rs := [11]) (by kernel_rfl) (by simp) ?_
          intro i hi
          obtain rfl : i = 11 := by simpa using hi
          refine store_step rfl rfl _ _ rfl v0.heap.size h vz rfl rfl x8_10 rfl ?_
          intro w11 e11 g11 z11
          have q11 := q10.next (X := fun _ => False) g11 (fun k hk h => by omega)
          refine ⟨⟨fun k hk => q11.cellF (hcell k hk), q11⟩, ?_⟩
          try simp only [Act.put]
          have x6_11 := x6_10.keep g11 (by omega)
          have x7_11 := e10.keep g11 (by omega)
          have dd11 := dd10.keep g11 (by omega)
          refine wpAnyH_done (by kernel_rfl) ?_ _
          go_wp2_with fail
          go_meet
          exact ⟨(v0.alloc (.cells vz 24)).heap.size, ((v0.alloc (.cells vz 24)).alloc (.cells vz 24)).heap.size, v0.heap.size, rfl, rfl, rfl, x6_11, x7_11, e11, dd11, g0.trans q11⟩
      · refine alloc_step rfl rfl rfl ⟨⟨fun k hk => f2.cellF (hcell k hk), f2⟩, ?_⟩
        simp only [Act.put, List.getElem_toArray, List.getElem_cons_zero, List.getElem_cons_succ, List.setIfInBounds_toArray, List.set_cons_zero, List.set_cons_succ]
        refine wpAnyH_all (rs := [6]) (by kernel_rfl) (by simp) ?_
        intro i hi
        obtain rfl : i = 6 := by simpa using hi
        · refine alloc_step rfl rfl rfl ⟨⟨fun k hk => f3.cellF (hcell k hk), f3⟩, ?_⟩
          simp only [Act.put, List.getElem_toArray, List.getElem_cons_zero, List.getElem_cons_succ, List.setIfInBounds_toArray, List.set_cons_zero, List.set_cons_succ]
          refine wpAnyH_all (rs := [9]) (by kernel_rfl) (by simp) ?_
          intro i hi
          obtain rfl : i = 9 := by simpa using hi
          refine store_step rfl rfl _ _ rfl ((v0.alloc (.cells vz 24)).alloc (.cells vz 24)).heap.size f vz rfl rfl n2 rfl ?_
          intro w9 e9 g9 z9
          have q9 := f3.next (X := fun _ => False) g9 (fun k hk h => by omega)
          refine ⟨⟨fun k hk => q9.cellF (hcell k hk), q9⟩, ?_⟩
          try simp only [Act.put]
          have x7_9 := n1.keep g9 (by omega)
          have x8_9 := n0.keep g9 (by omega)
          have dd9 := d3.keep g9 (by omega)
          refine wpAnyH_all (rs := [10]) (by kernel_rfl) (by simp) ?_
          intro i hi
          obtain rfl : i = 10 := by simpa using hi
          refine store_step rfl rfl _ _ rfl (v0.alloc (.cells vz 24)).heap.size g vz rfl rfl x7_9 rfl ?_
          intro w10 e10 g10 z10
          have q10 := q9.next (X := fun _ => False) g10 (fun k hk h => by omega)
          refine ⟨⟨fun k hk => q10.cellF (hcell k hk), q10⟩, ?_⟩
          try simp only [Act.put]
          have x6_10 := e9.keep g10 (by omega)
          have x8_10 := x8_9.keep g10 (by omega)
          have dd10 := dd9.keep g10 (by omega)
          refine wpAnyH_all (rs := [11]) (by kernel_rfl) (by simp) ?_
          intro i hi
          obtain rfl : i = 11 := by simpa using hi
          refine store_step rfl rfl _ _ rfl v0.heap.size h vz rfl rfl x8_10 rfl ?_
          intro w11 e11 g11 z11
          have q11 := q10.next (X := fun _ => False) g11 (fun k hk h => by omega)
          refine ⟨⟨fun k hk => q11.cellF (hcell k hk), q11⟩, ?_⟩
          try simp only [Act.put]
          have x6_11 := x6_10.keep g11 (by omega)
          have x7_11 := e10.keep g11 (by omega)
          have dd11 := dd10.keep g11 (by omega)
          refine wpAnyH_done (by kernel_rfl) ?_ _
          go_wp2_with fail
          go_meet
          exact ⟨((v0.alloc (.cells vz 24)).alloc (.cells vz 24)).heap.size, (v0.alloc (.cells vz 24)).heap.size, v0.heap.size, rfl, rfl, rfl, x6_11, x7_11, e11, dd11, g0.trans q11⟩
  case rest => as_aux_lemma =>
    obtain ⟨x, y, z, rfl, rfl, rfl, bx, by1, bz, bd, k0⟩ := hcut
    clear g0 hcell b1 HF
    have J1 := fJoin f g
    have vx := vcells bx
    have vy := vcells by1
    go_wp2_with fail
    refine (J1.out _).mono ?_
    rintro e w1 ⟨rfl, g1⟩
    have n1 := Blk.alloc w1 24 vz
    have m1 := g1.alloc (.cells vz 24)
    go_upto_region 3 with ((with_reducible refine wpl_store_vec rfl _ _ rfl w1.heap.size (jn8 f g) vz ?_ ?_ n1 rfl ?_); (focus rfl); (focus rfl); intro w2 e2 g2 z2; have m2 := m1.next (X := fun _ => False) g2 (fun k hk h => by have := g1.size; omega))
    have k2 := k0.trans m2
    have vx := vcells (bx.keep m2 (fun h => h))
    have vy := vcells (by1.keep m2 (fun h => h))
    have vz1 := vcells (bz.keep m2 (fun h => h))
    have d0 : w2.cell? ⟨A + 1, 0, none⟩ = some (.int .u8 r) := (bd.keep m2 (fun h => h)).cell 0 rfl
    have d1 : w2.cell? ⟨A + 1, 1, none⟩ = some (.int .u32 n) := (bd.keep m2 (fun h => h)).cell 1 rfl
    obtain ⟨M, hM⟩ : ∃ M, w1.heap.size = M := ⟨_, rfl⟩
    rw [hM] at e2 ⊢
    have vm := vcells e2
    clear bx by1 bz bd k0 n1 m1 g1 g2 z2 m2 hM e2 J1
    have J2 := fJoin g f
    have J3 := fJoin (jn8 f g) h
    have J4 := fJoin g h
    have J5 := fJoin f (jn8 g h)
    have J6 := fJoin (jn8 f g) g
    have J7 := fJoin f f
    have E1 := fEq _ _ true (lat1 f g)
    have E2 := fEq _ _ true (lat2 f g h)
    have E3 := fEq _ _ true (lat3 f g)
    have E4 := fEq _ _ true (lat4 f)
    refine wp_region_canon (fun w' => (∀ k, k < 8 → w'.cell? ⟨x, k, none⟩ = some (.int .u32 (f k))) ∧ (∀ k, k < 8 → w'.cell? ⟨y, k, none⟩ = some (.int .u32 (g k))) ∧ (∀ k, k < 8 → w'.cell? ⟨z, k, none⟩ = some (.int .u32 (h k))) ∧ (∀ k, k < 8 → w'.cell? ⟨M, k, none⟩ = some (.int .u32 ((jn8 f g) k))) ∧ w'.cell? ⟨A + 1, 0, none⟩ = some (.int .u8 r) ∧ w'.cell? ⟨A + 1, 1, none⟩ = some (.int .u32 n) ∧ Frm (fun _ => False) w w') (by kernel_rfl) rfl (by kernel_rfl) (by kernel_rfl) (⟨vx, vy, vz1, vm, d0, d1, k2.drew⟩) ?_
    repeat' first
      | (refine CanonL.skip (by rfl) ?_; (try simp only [Act.put, List.setIfInBounds_toArray, List.set_cons_zero, List.set_cons_succ]))
      | (refine CanonL.callQ (by rfl) (by rfl) ?_ J2 ?_ ?_; (focus (intro w; go_simp; (try (with_reducible rfl)); done)); (focus (rintro w ww hs gg; exact (by obtain ⟨h1, h2, h3, h4, h5, h6, h7⟩ := hs; exact ⟨fun k hk => gg.cellF (h1 k hk), fun k hk => gg.cellF (h2 k hk), fun k hk => gg.cellF (h3 k hk), fun k hk => gg.cellF (h4 k hk), gg.cellF h5, gg.cellF h6, h7.trans gg⟩))); (try simp only [Act.put, List.setIfInBounds_toArray, List.set_cons_zero, List.set_cons_succ]))
      | (refine CanonL.callQ (by rfl) (by rfl) ?_ J3 ?_ ?_; (focus (intro w; go_simp; (try (with_reducible rfl)); done)); (focus (rintro w ww hs gg; exact (by obtain ⟨h1, h2, h3, h4, h5, h6, h7⟩ := hs; exact ⟨fun k hk => gg.cellF (h1 k hk), fun k hk => gg.cellF (h2 k hk), fun k hk => gg.cellF (h3 k hk), fun k hk => gg.cellF (h4 k hk), gg.cellF h5, gg.cellF h6, h7.trans gg⟩))); (try simp only [Act.put, List.setIfInBounds_toArray, List.set_cons_zero, List.set_cons_succ]))
      | (refine CanonL.callQ (by rfl) (by rfl) ?_ J4 ?_ ?_; (focus (intro w; go_simp; (try (with_reducible rfl)); done)); (focus (rintro w ww hs gg; exact (by obtain ⟨h1, h2, h3, h4, h5, h6, h7⟩ := hs; exact ⟨fun k hk => gg.cellF (h1 k hk), fun k hk => gg.cellF (h2 k hk), fun k hk => gg.cellF (h3 k hk), fun k hk => gg.cellF (h4 k hk), gg.cellF h5, gg.cellF h6, h7.trans gg⟩))); (try simp only [Act.put, List.setIfInBounds_toArray, List.set_cons_zero, List.set_cons_succ]))
      | (refine CanonL.callQ (by rfl) (by rfl) ?_ J5 ?_ ?_; (focus (intro w; go_simp; (try (with_reducible rfl)); done)); (focus (rintro w ww hs gg; exact (by obtain ⟨h1, h2, h3, h4, h5, h6, h7⟩ := hs; exact ⟨fun k hk => gg.cellF (h1 k hk), fun k hk => gg.cellF (h2 k hk), fun k hk => gg.cellF (h3 k hk), fun k hk => gg.cellF (h4 k hk), gg.cellF h5, gg.cellF h6, h7.trans gg⟩))); (try simp only [Act.put, List.setIfInBounds_toArray, List.set_cons_zero, List.set_cons_succ]))
      | (refine CanonL.callQ (by rfl) (by rfl) ?_ J6 ?_ ?_; (focus (intro w; go_simp; (try (with_reducible rfl)); done)); (focus (rintro w ww hs gg; exact (by obtain ⟨h1, h2, h3, h4, h5, h6, h7⟩ := hs; exact ⟨fun k hk => gg.cellF (h1 k hk), fun k hk => gg.cellF (h2 k hk), fun k hk => gg.cellF (h3 k hk), fun k hk => gg.cellF (h4 k hk), gg.cellF h5, gg.cellF h6, h7.trans gg⟩))); (try simp only [Act.put, List.setIfInBounds_toArray, List.set_cons_zero, List.set_cons_succ]))
      | (refine CanonL.callQ (by rfl) (by rfl) ?_ J7 ?_ ?_; (focus (intro w; go_simp; (try (with_reducible rfl)); done)); (focus (rintro w ww hs gg; exact (by obtain ⟨h1, h2, h3, h4, h5, h6, h7⟩ := hs; exact ⟨fun k hk => gg.cellF (h1 k hk), fun k hk => gg.cellF (h2 k hk), fun k hk => gg.cellF (h3 k hk), fun k hk => gg.cellF (h4 k hk), gg.cellF h5, gg.cellF h6, h7.trans gg⟩))); (try simp only [Act.put, List.setIfInBounds_toArray, List.set_cons_zero, List.set_cons_succ]))
      | (refine CanonL.val (v := ?_) (by rfl) ?_ ?_; rotate_left 1; (focus (intro w hSw; (try dsimp only at hSw); go_simp; (try (with_reducible rfl)); done)); (try simp only [Act.put, List.setIfInBounds_toArray, List.set_cons_zero, List.set_cons_succ]))
    refine CanonL.done ?_
    intro w9 hS9
    clear vx vy vz1 vm d0 d1 k2 J2 J4 J5 J6 J7 E1 E2 E3 E4
    obtain ⟨vx, vy, vz1, vm, d0, d1, k3⟩ := hS9
    have n5 := Blk.alloc w9 29 #[.int .i64 0, .int .i64 0, .int .i64 0, .int .i64 0]
    have m5 := (Frm.refl (fun _ => False) w9).alloc (.cells #[.int .i64 0, .int .i64 0, .int .i64 0, .int .i64 0] 29)
    go_upto_region 6 with ((with_reducible refine wpl_store_blk rfl 29 _ _ rfl w9.heap.size #[.int .i64 0, .int .i64 2, .int .i64 1, .int .i64 3] #[.int .i64 0, .int .i64 0, .int .i64 0, .int .i64 0] ?_ ?_ n5 rfl ?_ ?_ ?_); (focus rfl); (focus rfl); (focus (show _ = some 4; kernel_rfl)); (focus (simp [Value.oneCell'])); intro w10 e10 g10 z10; have m10 := m5.next (X := fun _ => False) g10 (fun k hk h => by omega))
    have vx := fun k hk => m10.cellF (vx k hk)
    have vy := fun k hk => m10.cellF (vy k hk)
    have vz1 := fun k hk => m10.cellF (vz1 k hk)
    have vm := fun k hk => m10.cellF (vm k hk)
    have d0 := m10.cellF d0
    have d1 := m10.cellF d1
    have k4 := k3.trans m10
    obtain ⟨K, hK⟩ : ∃ K, w9.heap.size = K := ⟨_, rfl⟩
    rw [hK] at e10 ⊢
    have u0 : w10.cell? ⟨K, 0, none⟩ = some (.int .i64 0) := e10.cell 0 rfl
    have u1 : w10.cell? ⟨K, 1, none⟩ = some (.int .i64 2) := e10.cell 1 rfl
    have u2 : w10.cell? ⟨K, 2, none⟩ = some (.int .i64 1) := e10.cell 2 rfl
    have u3 : w10.cell? ⟨K, 3, none⟩ = some (.int .i64 3) := e10.cell 3 rfl
    clear n5 m5 e10 g10 z10 m10 hK k3
    have hcb := cmp_back f g
    have C1 := fCmp f g (cmp8 f g) rfl
    have C2 := fCmp g f (back (cmp8 f g)) hcb.1
    have hcz := cmp_join f g
    have C3 := fCmp f (jn8 f g) (cmp8 f (jn8 f g)) rfl
    have E5 := fEq _ _ _ (cmp_eq f g)
    generalize cmp8 f g = c at *
    generalize cmp8 f (jn8 f g) = cz at *
    have Hcb := Lib.hid hcb.2
    have Hcz := Lib.hid hcz
    clear hcb hcz
    refine wp_region_canon (fun w' => (∀ k, k < 8 → w'.cell? ⟨x, k, none⟩ = some (.int .u32 (f k))) ∧ (∀ k, k < 8 → w'.cell? ⟨y, k, none⟩ = some (.int .u32 (g k))) ∧ (∀ k, k < 8 → w'.cell? ⟨z, k, none⟩ = some (.int .u32 (h k))) ∧ (∀ k, k < 8 → w'.cell? ⟨M, k, none⟩ = some (.int .u32 ((jn8 f g) k))) ∧ w'.cell? ⟨A + 1, 0, none⟩ = some (.int .u8 r) ∧ w'.cell? ⟨A + 1, 1, none⟩ = some (.int .u32 n) ∧ w'.cell? ⟨K, 0, none⟩ = some (.int .i64 0) ∧ w'.cell? ⟨K, 1, none⟩ = some (.int .i64 2) ∧ w'.cell? ⟨K, 2, none⟩ = some (.int .i64 1) ∧ w'.cell? ⟨K, 3, none⟩ = some (.int .i64 3) ∧ Frm (fun _ => False) w w') (by kernel_rfl) rfl (by kernel_rfl) (by kernel_rfl) (⟨vx, vy, vz1, vm, d0, d1, u0, u1, u2, u3, k4.drew⟩) ?_
    repeat' first
      | (refine CanonL.skip (by rfl) ?_; (try simp only [Act.put, List.setIfInBounds_toArray, List.set_cons_zero, List.set_cons_succ]))
      | (refine CanonL.callQ (by rfl) (by rfl) ?_ C1 ?_ ?_; (focus (intro w; go_simp; (try (with_reducible rfl)); done)); (focus (rintro w ww hs gg; exact (by obtain ⟨h1, h2, h3, h4, h5, h6, i1, i2, i3, i4, h7⟩ := hs; exact ⟨fun k hk => gg.cellF (h1 k hk), fun k hk => gg.cellF (h2 k hk), fun k hk => gg.cellF (h3 k hk), fun k hk => gg.cellF (h4 k hk), gg.cellF h5, gg.cellF h6, gg.cellF i1, gg.cellF i2, gg.cellF i3, gg.cellF i4, h7.trans gg⟩))); (try simp only [Act.put, List.setIfInBounds_toArray, List.set_cons_zero, List.set_cons_succ]))
      | (refine CanonL.callQ (by rfl) (by rfl) ?_ C2 ?_ ?_; (focus (intro w; go_simp; (try (with_reducible rfl)); done)); (focus (rintro w ww hs gg; exact (by obtain ⟨h1, h2, h3, h4, h5, h6, i1, i2, i3, i4, h7⟩ := hs; exact ⟨fun k hk => gg.cellF (h1 k hk), fun k hk => gg.cellF (h2 k hk), fun k hk => gg.cellF (h3 k hk), fun k hk => gg.cellF (h4 k hk), gg.cellF h5, gg.cellF h6, gg.cellF i1, gg.cellF i2, gg.cellF i3, gg.cellF i4, h7.trans gg⟩))); (try simp only [Act.put, List.setIfInBounds_toArray, List.set_cons_zero, List.set_cons_succ]))
      | (refine CanonL.callQ (by rfl) (by rfl) ?_ C3 ?_ ?_; (focus (intro w; go_simp; (try (with_reducible rfl)); done)); (focus (rintro w ww hs gg; exact (by obtain ⟨h1, h2, h3, h4, h5, h6, i1, i2, i3, i4, h7⟩ := hs; exact ⟨fun k hk => gg.cellF (h1 k hk), fun k hk => gg.cellF (h2 k hk), fun k hk => gg.cellF (h3 k hk), fun k hk => gg.cellF (h4 k hk), gg.cellF h5, gg.cellF h6, gg.cellF i1, gg.cellF i2, gg.cellF i3, gg.cellF i4, h7.trans gg⟩))); (try simp only [Act.put, List.setIfInBounds_toArray, List.set_cons_zero, List.set_cons_succ]))
      | (refine CanonL.val (v := ?_) (by rfl) ?_ ?_; rotate_left 1; (focus (intro w hSw; (try dsimp only at hSw); go_simp; (try (with_reducible rfl)); done)); (try simp only [Act.put, List.setIfInBounds_toArray, List.set_cons_zero, List.set_cons_succ]))
    refine CanonL.done ?_
    intro w9 hS9
    clear vx vy vz1 vm d0 d1 u0 u1 u2 u3 k4 C1 C2 C3
    obtain ⟨vx, vy, vz1, vm, d0, d1, u0, u1, u2, u3, k5⟩ := hS9
    go_upto_region 7 with fail
    go_cut [97] (fun s97 wx => s97 = .bool false ∧ w9 = wx)
    case first => as_aux_lemma =>
      rcases (show c = 0 ∨ c = 1 ∨ c = 2 ∨ c = 3 by have := Hcb.out; omega) with rfl | rfl | rfl | rfl
      all_goals simp only [back, Nat.reduceEqDiff, if_true, if_false, Nat.reduceLeDiff, decide_true, decide_false, Nat.le_refl, Nat.zero_le] at E5 ⊢
      all_goals rcases Hcz.out with rfl | rfl
      all_goals go_wp2_with fail
      all_goals go_meet
      all_goals exact ⟨rfl, rfl⟩
    case rest => as_aux_lemma =>
      obtain ⟨rfl, rfl⟩ := hcut
      clear u0 u1 u2 u3 E5 Hcb Hcz
      go_upto_region 9 with fail
      go_cut [126] (fun s126 wx => s126 = .bool false ∧ (fun w' => (∀ k, k < 8 → w'.cell? ⟨x, k, none⟩ = some (.int .u32 (f k))) ∧ (∀ k, k < 8 → w'.cell? ⟨y, k, none⟩ = some (.int .u32 (g k))) ∧ (∀ k, k < 8 → w'.cell? ⟨z, k, none⟩ = some (.int .u32 (h k))) ∧ (∀ k, k < 8 → w'.cell? ⟨M, k, none⟩ = some (.int .u32 ((jn8 f g) k))) ∧ w'.cell? ⟨A + 1, 0, none⟩ = some (.int .u8 r) ∧ w'.cell? ⟨A + 1, 1, none⟩ = some (.int .u32 n) ∧ Frm (fun _ => False) w w') wx)
      case first => as_aux_lemma =>
        rcases (show cmp8 f h = 2 ∨ cmp8 f h = 3 ∨ cmp8 f h ≤ 1 by have := (cmp_back f h).2; omega) with c1 | c1 | c1
        · as_aux_lemma =>
          have C1 : Ans 12 #[.agg (vv f), .agg (vv h)] (.int .i64 2) := fCmp f h 2 c1
          refine wp_region_canon (fun w' => (∀ k, k < 8 → w'.cell? ⟨x, k, none⟩ = some (.int .u32 (f k))) ∧ (∀ k, k < 8 → w'.cell? ⟨y, k, none⟩ = some (.int .u32 (g k))) ∧ (∀ k, k < 8 → w'.cell? ⟨z, k, none⟩ = some (.int .u32 (h k))) ∧ (∀ k, k < 8 → w'.cell? ⟨M, k, none⟩ = some (.int .u32 ((jn8 f g) k))) ∧ w'.cell? ⟨A + 1, 0, none⟩ = some (.int .u8 r) ∧ w'.cell? ⟨A + 1, 1, none⟩ = some (.int .u32 n) ∧ Frm (fun _ => False) w w') (by kernel_rfl) rfl (by kernel_rfl) (by kernel_rfl) (⟨vx, vy, vz1, vm, d0, d1, k5.drew⟩) ?_
          repeat' first
            | (refine CanonL.skip (by rfl) ?_; (try simp only [Act.put, List.setIfInBounds_toArray, List.set_cons_zero, List.set_cons_succ]))
            | (refine CanonL.callQ (by rfl) (by rfl) ?_ C1 ?_ ?_; (focus (intro w; go_simp; (try (with_reducible rfl)); done)); (focus (rintro w ww hs gg; exact (by obtain ⟨h1, h2, h3, h4, h5, h6, h7⟩ := hs; exact ⟨fun k hk => gg.cellF (h1 k hk), fun k hk => gg.cellF (h2 k hk), fun k hk => gg.cellF (h3 k hk), fun k hk => gg.cellF (h4 k hk), gg.cellF h5, gg.cellF h6, h7.trans gg⟩))); (try simp only [Act.put, List.setIfInBounds_toArray, List.set_cons_zero, List.set_cons_succ]))
            | (refine CanonL.val (v := ?_) (by rfl) ?_ ?_; rotate_left 1; (focus (intro w hSw; (try dsimp only at hSw); go_simp; (try (with_reducible rfl)); done)); (try simp only [Act.put, List.setIfInBounds_toArray, List.set_cons_zero, List.set_cons_succ]))
          refine CanonL.done ?_
          intro w9 hS9
          go_wp2_with fail
          go_meet
          exact ⟨rfl, hS9⟩
        · as_aux_lemma =>
          have C1 : Ans 12 #[.agg (vv f), .agg (vv h)] (.int .i64 3) := fCmp f h 3 c1
          refine wp_region_canon (fun w' => (∀ k, k < 8 → w'.cell? ⟨x, k, none⟩ = some (.int .u32 (f k))) ∧ (∀ k, k < 8 → w'.cell? ⟨y, k, none⟩ = some (.int .u32 (g k))) ∧ (∀ k, k < 8 → w'.cell? ⟨z, k, none⟩ = some (.int .u32 (h k))) ∧ (∀ k, k < 8 → w'.cell? ⟨M, k, none⟩ = some (.int .u32 ((jn8 f g) k))) ∧ w'.cell? ⟨A + 1, 0, none⟩ = some (.int .u8 r) ∧ w'.cell? ⟨A + 1, 1, none⟩ = some (.int .u32 n) ∧ Frm (fun _ => False) w w') (by kernel_rfl) rfl (by kernel_rfl) (by kernel_rfl) (⟨vx, vy, vz1, vm, d0, d1, k5.drew⟩) ?_
          repeat' first
            | (refine CanonL.skip (by rfl) ?_; (try simp only [Act.put, List.setIfInBounds_toArray, List.set_cons_zero, List.set_cons_succ]))
            | (refine CanonL.callQ (by rfl) (by rfl) ?_ C1 ?_ ?_; (focus (intro w; go_simp; (try (with_reducible rfl)); done)); (focus (rintro w ww hs gg; exact (by obtain ⟨h1, h2, h3, h4, h5, h6, h7⟩ := hs; exact ⟨fun k hk => gg.cellF (h1 k hk), fun k hk => gg.cellF (h2 k hk), fun k hk => gg.cellF (h3 k hk), fun k hk => gg.cellF (h4 k hk), gg.cellF h5, gg.cellF h6, h7.trans gg⟩))); (try simp only [Act.put, List.setIfInBounds_toArray, List.set_cons_zero, List.set_cons_succ]))
            | (refine CanonL.val (v := ?_) (by rfl) ?_ ?_; rotate_left 1; (focus (intro w hSw; (try dsimp only at hSw); go_simp; (try (with_reducible rfl)); done)); (try simp only [Act.put, List.setIfInBounds_toArray, List.set_cons_zero, List.set_cons_succ]))
          refine CanonL.done ?_
          intro w9 hS9
          go_wp2_with fail
          go_meet
          exact ⟨rfl, hS9⟩
        · rcases (show cmp8 g h = 2 ∨ cmp8 g h = 3 ∨ cmp8 g h ≤ 1 by have := (cmp_back g h).2; omega) with c2 | c2 | c2
          · as_aux_lemma =>
            have C2 : Ans 12 #[.agg (vv g), .agg (vv h)] (.int .i64 2) := fCmp g h 2 c2
            obtain ⟨y1, hy1⟩ : ∃ y1, cmp8 f h = y1 := ⟨_, rfl⟩
            have C1 : Ans 12 #[.agg (vv f), .agg (vv h)] (.int .i64 y1) := fCmp f h y1 hy1
            rw [hy1] at c1
            have ay1 : (((y1 : Nat) : Int) = 2) = False := eq_false (by omega)
            have by1 : (((y1 : Nat) : Int) = 3) = False := eq_false (by omega)
            have dy1 : (((y1 : Nat) : Int) == 2) = false := by simp; omega
            have ey1 : (((y1 : Nat) : Int) == 3) = false := by simp; omega
            have fy1 : (((y1 : Nat) : Int) != 2) = true := by simp; omega
            have gy1 : (((y1 : Nat) : Int) != 3) = true := by simp; omega
            have Hcy1 := Lib.hid c1
            clear c1 hy1
            refine wp_region_canon (fun w' => (∀ k, k < 8 → w'.cell? ⟨x, k, none⟩ = some (.int .u32 (f k))) ∧ (∀ k, k < 8 → w'.cell? ⟨y, k, none⟩ = some (.int .u32 (g k))) ∧ (∀ k, k < 8 → w'.cell? ⟨z, k, none⟩ = some (.int .u32 (h k))) ∧ (∀ k, k < 8 → w'.cell? ⟨M, k, none⟩ = some (.int .u32 ((jn8 f g) k))) ∧ w'.cell? ⟨A + 1, 0, none⟩ = some (.int .u8 r) ∧ w'.cell? ⟨A + 1, 1, none⟩ = some (.int .u32 n) ∧ Frm (fun _ => False) w w') (by kernel_rfl) rfl (by kernel_rfl) (by kernel_rfl) (⟨vx, vy, vz1, vm, d0, d1, k5.drew⟩) ?_
            repeat' first
              | (refine CanonL.skip (by rfl) ?_; (try simp only [Act.put, List.setIfInBounds_toArray, List.set_cons_zero, List.set_cons_succ]))
              | (refine CanonL.callQ (by rfl) (by rfl) ?_ C1 ?_ ?_; (focus (intro w; go_simp; (try (with_reducible rfl)); done)); (focus (rintro w ww hs gg; exact (by obtain ⟨h1, h2, h3, h4, h5, h6, h7⟩ := hs; exact ⟨fun k hk => gg.cellF (h1 k hk), fun k hk => gg.cellF (h2 k hk), fun k hk => gg.cellF (h3 k hk), fun k hk => gg.cellF (h4 k hk), gg.cellF h5, gg.cellF h6, h7.trans gg⟩))); (try simp only [Act.put, List.setIfInBounds_toArray, List.set_cons_zero, List.set_cons_succ]))
              | (refine CanonL.callQ (by rfl) (by rfl) ?_ C2 ?_ ?_; (focus (intro w; go_simp; (try (with_reducible rfl)); done)); (focus (rintro w ww hs gg; exact (by obtain ⟨h1, h2, h3, h4, h5, h6, h7⟩ := hs; exact ⟨fun k hk => gg.cellF (h1 k hk), fun k hk => gg.cellF (h2 k hk), fun k hk => gg.cellF (h3 k hk), fun k hk => gg.cellF (h4 k hk), gg.cellF h5, gg.cellF h6, h7.trans gg⟩))); (try simp only [Act.put, List.setIfInBounds_toArray, List.set_cons_zero, List.set_cons_succ]))
              | (refine CanonL.val (v := ?_) (by rfl) ?_ ?_; rotate_left 1; (focus (intro w hSw; (try dsimp only at hSw); go_simp; (try (with_reducible rfl)); done)); (try simp only [Act.put, List.setIfInBounds_toArray, List.set_cons_zero, List.set_cons_succ]))
            refine CanonL.done ?_
            intro w9 hS9
            go_wp2_with fail
            go_meet
            exact ⟨rfl, hS9⟩
          · as_aux_lemma =>
            have C2 : Ans 12 #[.agg (vv g), .agg (vv h)] (.int .i64 3) := fCmp g h 3 c2
            obtain ⟨y1, hy1⟩ : ∃ y1, cmp8 f h = y1 := ⟨_, rfl⟩
            have C1 : Ans 12 #[.agg (vv f), .agg (vv h)] (.int .i64 y1) := fCmp f h y1 hy1
            rw [hy1] at c1
            have ay1 : (((y1 : Nat) : Int) = 2) = False := eq_false (by omega)
            have by1 : (((y1 : Nat) : Int) = 3) = False := eq_false (by omega)
            have dy1 : (((y1 : Nat) : Int) == 2) = false := by simp; omega
            have ey1 : (((y1 : Nat) : Int) == 3) = false := by simp; omega
            have fy1 : (((y1 : Nat) : Int) != 2) = true := by simp; omega
            have gy1 : (((y1 : Nat) : Int) != 3) = true := by simp; omega
            have Hcy1 := Lib.hid c1
            clear c1 hy1
            refine wp_region_canon (fun w' => (∀ k, k < 8 → w'.cell? ⟨x, k, none⟩ = some (.int .u32 (f k))) ∧ (∀ k, k < 8 → w'.cell? ⟨y, k, none⟩ = some (.int .u32 (g k))) ∧ (∀ k, k < 8 → w'.cell? ⟨z, k, none⟩ = some (.int .u32 (h k))) ∧ (∀ k, k < 8 → w'.cell? ⟨M, k, none⟩ = some (.int .u32 ((jn8 f g) k))) ∧ w'.cell? ⟨A + 1, 0, none⟩ = some (.int .u8 r) ∧ w'.cell? ⟨A + 1, 1, none⟩ = some (.int .u32 n) ∧ Frm (fun _ => False) w w') (by kernel_rfl) rfl (by kernel_rfl) (by kernel_rfl) (⟨vx, vy, vz1, vm, d0, d1, k5.drew⟩) ?_
            repeat' first
              | (refine CanonL.skip (by rfl) ?_; (try simp only [Act.put, List.setIfInBounds_toArray, List.set_cons_zero, List.set_cons_succ]))
              | (refine CanonL.callQ (by rfl) (by rfl) ?_ C1 ?_ ?_; (focus (intro w; go_simp; (try (with_reducible rfl)); done)); (focus (rintro w ww hs gg; exact (by obtain ⟨h1, h2, h3, h4, h5, h6, h7⟩ := hs; exact ⟨fun k hk => gg.cellF (h1 k hk), fun k hk => gg.cellF (h2 k hk), fun k hk => gg.cellF (h3 k hk), fun k hk => gg.cellF (h4 k hk), gg.cellF h5, gg.cellF h6, h7.trans gg⟩))); (try simp only [Act.put, List.setIfInBounds_toArray, List.set_cons_zero, List.set_cons_succ]))
              | (refine CanonL.callQ (by rfl) (by rfl) ?_ C2 ?_ ?_; (focus (intro w; go_simp; (try (with_reducible rfl)); done)); (focus (rintro w ww hs gg; exact (by obtain ⟨h1, h2, h3, h4, h5, h6, h7⟩ := hs; exact ⟨fun k hk => gg.cellF (h1 k hk), fun k hk => gg.cellF (h2 k hk), fun k hk => gg.cellF (h3 k hk), fun k hk => gg.cellF (h4 k hk), gg.cellF h5, gg.cellF h6, h7.trans gg⟩))); (try simp only [Act.put, List.setIfInBounds_toArray, List.set_cons_zero, List.set_cons_succ]))
              | (refine CanonL.val (v := ?_) (by rfl) ?_ ?_; rotate_left 1; (focus (intro w hSw; (try dsimp only at hSw); go_simp; (try (with_reducible rfl)); done)); (try simp only [Act.put, List.setIfInBounds_toArray, List.set_cons_zero, List.set_cons_succ]))
            refine CanonL.done ?_
            intro w9 hS9
            go_wp2_with fail
            go_meet
            exact ⟨rfl, hS9⟩
          · as_aux_lemma =>
            have E6 := fEq _ _ true (cmp_least f g h (by omega) (by omega))
            obtain ⟨y2, hy2⟩ : ∃ y2, cmp8 g h = y2 := ⟨_, rfl⟩
            have C2 : Ans 12 #[.agg (vv g), .agg (vv h)] (.int .i64 y2) := fCmp g h y2 hy2
            rw [hy2] at c2
            have ay2 : (((y2 : Nat) : Int) = 2) = False := eq_false (by omega)
            have by2 : (((y2 : Nat) : Int) = 3) = False := eq_false (by omega)
            have dy2 : (((y2 : Nat) : Int) == 2) = false := by simp; omega
            have ey2 : (((y2 : Nat) : Int) == 3) = false := by simp; omega
            have fy2 : (((y2 : Nat) : Int) != 2) = true := by simp; omega
            have gy2 : (((y2 : Nat) : Int) != 3) = true := by simp; omega
            have Hcy2 := Lib.hid c2
            clear c2 hy2
            obtain ⟨y1, hy1⟩ : ∃ y1, cmp8 f h = y1 := ⟨_, rfl⟩
            have C1 : Ans 12 #[.agg (vv f), .agg (vv h)] (.int .i64 y1) := fCmp f h y1 hy1
            rw [hy1] at c1
            have ay1 : (((y1 : Nat) : Int) = 2) = False := eq_false (by omega)
            have by1 : (((y1 : Nat) : Int) = 3) = False := eq_false (by omega)
            have dy1 : (((y1 : Nat) : Int) == 2) = false := by simp; omega
            have ey1 : (((y1 : Nat) : Int) == 3) = false := by simp; omega
            have fy1 : (((y1 : Nat) : Int) != 2) = true := by simp; omega
            have gy1 : (((y1 : Nat) : Int) != 3) = true := by simp; omega
            have Hcy1 := Lib.hid c1
            clear c1 hy1
            refine wp_region_canon (fun w' => (∀ k, k < 8 → w'.cell? ⟨x, k, none⟩ = some (.int .u32 (f k))) ∧ (∀ k, k < 8 → w'.cell? ⟨y, k, none⟩ = some (.int .u32 (g k))) ∧ (∀ k, k < 8 → w'.cell? ⟨z, k, none⟩ = some (.int .u32 (h k))) ∧ (∀ k, k < 8 → w'.cell? ⟨M, k, none⟩ = some (.int .u32 ((jn8 f g) k))) ∧ w'.cell? ⟨A + 1, 0, none⟩ = some (.int .u8 r) ∧ w'.cell? ⟨A + 1, 1, none⟩ = some (.int .u32 n) ∧ Frm (fun _ => False) w w') (by kernel_rfl) rfl (by kernel_rfl) (by kernel_rfl) (⟨vx, vy, vz1, vm, d0, d1, k5.drew⟩) ?_
            repeat' first
              | (refine CanonL.skip (by rfl) ?_; (try simp only [Act.put, List.setIfInBounds_toArray, List.set_cons_zero, List.set_cons_succ]))
              | (refine CanonL.callQ (by rfl) (by rfl) ?_ C1 ?_ ?_; (focus (intro w; go_simp; (try (with_reducible rfl)); done)); (focus (rintro w ww hs gg; exact (by obtain ⟨h1, h2, h3, h4, h5, h6, h7⟩ := hs; exact ⟨fun k hk => gg.cellF (h1 k hk), fun k hk => gg.cellF (h2 k hk), fun k hk => gg.cellF (h3 k hk), fun k hk => gg.cellF (h4 k hk), gg.cellF h5, gg.cellF h6, h7.trans gg⟩))); (try simp only [Act.put, List.setIfInBounds_toArray, List.set_cons_zero, List.set_cons_succ]))
              | (refine CanonL.callQ (by rfl) (by rfl) ?_ C2 ?_ ?_; (focus (intro w; go_simp; (try (with_reducible rfl)); done)); (focus (rintro w ww hs gg; exact (by obtain ⟨h1, h2, h3, h4, h5, h6, h7⟩ := hs; exact ⟨fun k hk => gg.cellF (h1 k hk), fun k hk => gg.cellF (h2 k hk), fun k hk => gg.cellF (h3 k hk), fun k hk => gg.cellF (h4 k hk), gg.cellF h5, gg.cellF h6, h7.trans gg⟩))); (try simp only [Act.put, List.setIfInBounds_toArray, List.set_cons_zero, List.set_cons_succ]))
              | (refine CanonL.callQ (by rfl) (by rfl) ?_ J3 ?_ ?_; (focus (intro w; go_simp; (try (with_reducible rfl)); done)); (focus (rintro w ww hs gg; exact (by obtain ⟨h1, h2, h3, h4, h5, h6, h7⟩ := hs; exact ⟨fun k hk => gg.cellF (h1 k hk), fun k hk => gg.cellF (h2 k hk), fun k hk => gg.cellF (h3 k hk), fun k hk => gg.cellF (h4 k hk), gg.cellF h5, gg.cellF h6, h7.trans gg⟩))); (try simp only [Act.put, List.setIfInBounds_toArray, List.set_cons_zero, List.set_cons_succ]))
              | (refine CanonL.val (v := ?_) (by rfl) ?_ ?_; rotate_left 1; (focus (intro w hSw; (try dsimp only at hSw); go_simp; (try (with_reducible rfl)); done)); (try simp only [Act.put, List.setIfInBounds_toArray, List.set_cons_zero, List.set_cons_succ]))
            refine CanonL.done ?_
            intro w9 hS9
            go_wp2_with fail
            go_meet
            exact ⟨rfl, hS9⟩
      case rest => as_aux_lemma =>
        clear vx vy vz1 vm d0 d1 k5 J3
        obtain ⟨rfl, vx, vy, vz1, vm, d0, d1, k6⟩ := hcut
        have H := fNext f r hf hr
        obtain ⟨N, hN⟩ : ∃ N, nextS8 f r = N := ⟨_, rfl⟩
        rw [hN] at H
        obtain ⟨v, ⟨p, q⟩, e0⟩ := N
        simp only at H
        go_wp2_with fail
        refine (H.out _).mono ?_
        rintro e w10 ⟨rfl, g1⟩
        have vx := fun k hk => g1.cellF (vx k hk)
        have vy := fun k hk => g1.cellF (vy k hk)
        have vz1 := fun k hk => g1.cellF (vz1 k hk)
        have vm := fun k hk => g1.cellF (vm k hk)
        have d0 := g1.cellF d0
        have d1 := g1.cellF d1
        have k7 := k6.trans g1
        have n7 : Blk ((w10.alloc (.cells vz 24)).alloc (.cells dz 27)) w10.heap.size 24 vz := (Blk.alloc w10 _ _).old _
        have n8 : Blk ((w10.alloc (.cells vz 24)).alloc (.cells dz 27)) (w10.heap.size + 1) 27 dz := Blk.at1 w10 _ _ _
        have m1 : Frm (fun _ => False) w10 ((w10.alloc (.cells vz 24)).alloc (.cells dz 27)) := ((Frm.refl _ w10).alloc _).alloc _
        clear k6 g1 H
        go_upto_region 12 with (first
          | ((with_reducible refine wpl_store_vec rfl _ _ rfl w10.heap.size v vz ?_ ?_ n7 rfl ?_); (focus rfl); (focus rfl); intro w11 e7 g2 z2; have m8 := n8.keep g2 (by omega); have m2 := m1.next (X := fun _ => False) g2 (fun k hk h => by omega))
          | ((with_reducible refine wpl_store_dot rfl _ _ rfl (w10.heap.size + 1) p q dz ?_ ?_ m8 rfl ?_); (focus rfl); (focus rfl); intro w12 e8 g3 z3; have e7' := e7.keep g3 (by omega); have m3 := m2.next (X := fun _ => False) g3 (fun k hk h => by omega)))
        have vx := fun k hk => m3.cellF (vx k hk)
        have vy := fun k hk => m3.cellF (vy k hk)
        have vz1 := fun k hk => m3.cellF (vz1 k hk)
        have vm := fun k hk => m3.cellF (vm k hk)
        have d0 := m3.cellF d0
        have d1 := m3.cellF d1
        have k8 := k7.trans m3
        obtain ⟨B, hB⟩ : ∃ B, w10.heap.size = B := ⟨_, rfl⟩
        rw [hB] at e7' e8 ⊢
        have vn := vcells e7'
        have x0 := e8.cell 0 rfl
        have x1 := e8.cell 1 rfl
        clear k7 n7 n8 m1 e7 g2 z2 m8 m2 g3 z3 m3 hB e7' e8
        go_cut [174] (fun s174 wx => s174 = .bool false ∧ (fun w' => (∀ k, k < 8 → w'.cell? ⟨x, k, none⟩ = some (.int .u32 (f k))) ∧ (∀ k, k < 8 → w'.cell? ⟨y, k, none⟩ = some (.int .u32 (g k))) ∧ (∀ k, k < 8 → w'.cell? ⟨z, k, none⟩ = some (.int .u32 (h k))) ∧ (∀ k, k < 8 → w'.cell? ⟨M, k, none⟩ = some (.int .u32 ((jn8 f g) k))) ∧ w'.cell? ⟨A + 1, 0, none⟩ = some (.int .u8 r) ∧ w'.cell? ⟨A + 1, 1, none⟩ = some (.int .u32 n) ∧ Frm (fun _ => False) w w') wx)
        case first => as_aux_lemma =>
          unfold nextS8 at hN
          by_cases hr8 : 8 ≤ r
          · as_aux_lemma =>
            rw [if_pos hr8] at hN
            simp only [Prod.mk.injEq] at hN
            obtain ⟨rfl, ⟨rfl, rfl⟩, rfl⟩ := hN
            refine wp_region_seq (fun w' => (∀ k, k < 8 → w'.cell? ⟨x, k, none⟩ = some (.int .u32 (f k))) ∧ (∀ k, k < 8 → w'.cell? ⟨y, k, none⟩ = some (.int .u32 (g k))) ∧ (∀ k, k < 8 → w'.cell? ⟨z, k, none⟩ = some (.int .u32 (h k))) ∧ (∀ k, k < 8 → w'.cell? ⟨M, k, none⟩ = some (.int .u32 ((jn8 f g) k))) ∧ w'.cell? ⟨A + 1, 0, none⟩ = some (.int .u8 r) ∧ w'.cell? ⟨A + 1, 1, none⟩ = some (.int .u32 n) ∧ (∀ k, k < 8 → w'.cell? ⟨B, k, none⟩ = some (.int .u32 ((fun _ => 0) k))) ∧ w'.cell? ⟨B + 1, 0, none⟩ = some (.int .u8 (0 : Nat)) ∧ w'.cell? ⟨B + 1, 1, none⟩ = some (.int .u32 (0 : Nat)) ∧ Frm (fun _ => False) w w') rfl (⟨vx, vy, vz1, vm, d0, d1, vn, x0, x1, k8⟩) ?_
            repeat' first
              | (refine CanonL.skip (by rfl) ?_; (try simp only [Act.put, List.setIfInBounds_toArray, List.set_cons_zero, List.set_cons_succ]))
              | (refine CanonL.val (v := ?_) (by rfl) ?_ ?_; rotate_left 1; (focus (intro w hSw; (try dsimp only at hSw); go_simp; (try (with_reducible rfl)); done)); (try simp only [Act.put, List.setIfInBounds_toArray, List.set_cons_zero, List.set_cons_succ]))
            refine CanonL.done ?_
            intro w9 hS9
            obtain ⟨vx, vy, vz1, vm, d0, d1, _, _, _, k9⟩ := hS9
            go_wp2_with fail
            go_meet
            exact ⟨rfl, vx, vy, vz1, vm, d0, d1, k9⟩
          · as_aux_lemma =>
            rw [if_neg hr8] at hN
            by_cases hx : 65535 ≤ mx f 8
            · as_aux_lemma =>
              rw [if_pos hx] at hN
              simp only [Prod.mk.injEq] at hN
              obtain ⟨rfl, ⟨rfl, rfl⟩, rfl⟩ := hN
              refine wp_region_seq (fun w' => (∀ k, k < 8 → w'.cell? ⟨x, k, none⟩ = some (.int .u32 (f k))) ∧ (∀ k, k < 8 → w'.cell? ⟨y, k, none⟩ = some (.int .u32 (g k))) ∧ (∀ k, k < 8 → w'.cell? ⟨z, k, none⟩ = some (.int .u32 (h k))) ∧ (∀ k, k < 8 → w'.cell? ⟨M, k, none⟩ = some (.int .u32 ((jn8 f g) k))) ∧ w'.cell? ⟨A + 1, 0, none⟩ = some (.int .u8 r) ∧ w'.cell? ⟨A + 1, 1, none⟩ = some (.int .u32 n) ∧ (∀ k, k < 8 → w'.cell? ⟨B, k, none⟩ = some (.int .u32 ((fun _ => 0) k))) ∧ w'.cell? ⟨B + 1, 0, none⟩ = some (.int .u8 (0 : Nat)) ∧ w'.cell? ⟨B + 1, 1, none⟩ = some (.int .u32 (0 : Nat)) ∧ Frm (fun _ => False) w w') rfl (⟨vx, vy, vz1, vm, d0, d1, vn, x0, x1, k8⟩) ?_
              repeat' first
                | (refine CanonL.skip (by rfl) ?_; (try simp only [Act.put, List.setIfInBounds_toArray, List.set_cons_zero, List.set_cons_succ]))
                | (refine CanonL.val (v := ?_) (by rfl) ?_ ?_; rotate_left 1; (focus (intro w hSw; (try dsimp only at hSw); go_simp; (try (with_reducible rfl)); done)); (try simp only [Act.put, List.setIfInBounds_toArray, List.set_cons_zero, List.set_cons_succ]))
              refine CanonL.done ?_
              intro w9 hS9
              obtain ⟨vx, vy, vz1, vm, d0, d1, _, _, _, k9⟩ := hS9
              go_wp2_with fail
              go_meet
              exact ⟨rfl, vx, vy, vz1, vm, d0, d1, k9⟩
            · as_aux_lemma =>
              rw [if_neg hx] at hN
              simp only [Prod.mk.injEq] at hN
              obtain ⟨rfl, ⟨rfl, rfl⟩, rfl⟩ := hN
              have y1 := lHas f r (mx f 8 + 1) false hr (by omega) (has_above f r _ (by omega))
              have y2 := lHas (upd8 f r (mx f 8 + 1)) r (mx f 8 + 1) true hr (by omega) (next_has f r (by omega) (by omega))
              have y3 : Ans 12 #[.agg (vv f), .agg (vv (upd8 f r (mx f 8 + 1)))] (.int .i64 1) := fCmp f _ 1 (next_cmp f r (by omega))
              have y4 := lHas f (r % 8) (mx f 8 + 1) false (by omega) (by omega) (has_above f (r % 8) _ (by omega))
              have y5 := lHas f ((r + 1) % 8) (mx f 8 + 1) false (by omega) (by omega) (has_above f ((r + 1) % 8) _ (by omega))
              have t1 : (r : Int) % 8 = ((r % 8 : Nat) : Int) := by omega
              have t1' : ((r : Int)).tmod 8 = ((r % 8 : Nat) : Int) := by rw [Int.tmod_eq_emod_of_nonneg (by omega)]; omega
              have t5 : IntKind.u8.wrap ((r : Int) + 1) = ((r : Int) + 1) := by rw [IntKind.wrap_u8]; omega
              have t6 : ((r : Int) + 1) % 256 % 8 = (((r + 1) % 8 : Nat) : Int) := by omega
              have t6' : (((r : Int) + 1) % 256).tmod 8 = (((r + 1) % 8 : Nat) : Int) := by rw [Int.tmod_eq_emod_of_nonneg (by omega)]; omega
              have t7 : ((r + 1 : Nat) : Int) % 256 % 8 = (((r + 1) % 8 : Nat) : Int) := by omega
              have t4 : ((r : Int) + 1) % 8 = (((r + 1) % 8 : Nat) : Int) := by omega
              have t4' : ((r : Int) + 1).tmod 8 = (((r + 1) % 8 : Nat) : Int) := by rw [Int.tmod_eq_emod_of_nonneg (by omega)]; omega
              obtain ⟨V, hV⟩ : ∃ V, upd8 f r (mx f 8 + 1) = V := ⟨_, rfl⟩
              obtain ⟨N, hN⟩ : ∃ N, mx f 8 + 1 = N := ⟨_, rfl⟩
              obtain ⟨r1, hr1⟩ : ∃ r1, r % 8 = r1 := ⟨_, rfl⟩
              obtain ⟨r2, hr2⟩ : ∃ r2, (r + 1) % 8 = r2 := ⟨_, rfl⟩
              rw [hV] at y2 y3 vn
              rw [hN] at y1 y2 y4 y5 x1
              rw [hr1] at y4 t1 t1'
              rw [hr2] at y5 t6 t6' t7 t4 t4'
              clear hV hN hr1 hr2
              refine wp_region_seq (fun w' => (∀ k, k < 8 → w'.cell? ⟨x, k, none⟩ = some (.int .u32 (f k))) ∧ (∀ k, k < 8 → w'.cell? ⟨y, k, none⟩ = some (.int .u32 (g k))) ∧ (∀ k, k < 8 → w'.cell? ⟨z, k, none⟩ = some (.int .u32 (h k))) ∧ (∀ k, k < 8 → w'.cell? ⟨M, k, none⟩ = some (.int .u32 ((jn8 f g) k))) ∧ w'.cell? ⟨A + 1, 0, none⟩ = some (.int .u8 r) ∧ w'.cell? ⟨A + 1, 1, none⟩ = some (.int .u32 n) ∧ (∀ k, k < 8 → w'.cell? ⟨B, k, none⟩ = some (.int .u32 (V k))) ∧ w'.cell? ⟨B + 1, 0, none⟩ = some (.int .u8 r) ∧ w'.cell? ⟨B + 1, 1, none⟩ = some (.int .u32 N) ∧ Frm (fun _ => False) w w') rfl (⟨vx, vy, vz1, vm, d0, d1, vn, x0, x1, k8⟩) ?_
              repeat' first
                | (refine CanonL.skip (by rfl) ?_; (try simp only [Act.put, List.setIfInBounds_toArray, List.set_cons_zero, List.set_cons_succ]))
                | (refine CanonL.callQ (by rfl) (by rfl) ?_ y1 ?_ ?_; (focus (intro w; go_simp; (try (with_reducible rfl)); done)); (focus (rintro w ww hs gg; exact (by obtain ⟨h1, h2, h3, h4, h5, h6, i1, i2, i3, h7⟩ := hs; exact ⟨fun k hk => gg.cellF (h1 k hk), fun k hk => gg.cellF (h2 k hk), fun k hk => gg.cellF (h3 k hk), fun k hk => gg.cellF (h4 k hk), gg.cellF h5, gg.cellF h6, fun k hk => gg.cellF (i1 k hk), gg.cellF i2, gg.cellF i3, h7.trans gg⟩))); (try simp only [Act.put, List.setIfInBounds_toArray, List.set_cons_zero, List.set_cons_succ]))
                | (refine CanonL.callQ (by rfl) (by rfl) ?_ y2 ?_ ?_; (focus (intro w; go_simp; (try (with_reducible rfl)); done)); (focus (rintro w ww hs gg; exact (by obtain ⟨h1, h2, h3, h4, h5, h6, i1, i2, i3, h7⟩ := hs; exact ⟨fun k hk => gg.cellF (h1 k hk), fun k hk => gg.cellF (h2 k hk), fun k hk => gg.cellF (h3 k hk), fun k hk => gg.cellF (h4 k hk), gg.cellF h5, gg.cellF h6, fun k hk => gg.cellF (i1 k hk), gg.cellF i2, gg.cellF i3, h7.trans gg⟩))); (try simp only [Act.put, List.setIfInBounds_toArray, List.set_cons_zero, List.set_cons_succ]))
                | (refine CanonL.callQ (by rfl) (by rfl) ?_ y3 ?_ ?_; (focus (intro w; go_simp; (try (with_reducible rfl)); done)); (focus (rintro w ww hs gg; exact (by obtain ⟨h1, h2, h3, h4, h5, h6, i1, i2, i3, h7⟩ := hs; exact ⟨fun k hk => gg.cellF (h1 k hk), fun k hk => gg.cellF (h2 k hk), fun k hk => gg.cellF (h3 k hk), fun k hk => gg.cellF (h4 k hk), gg.cellF h5, gg.cellF h6, fun k hk => gg.cellF (i1 k hk), gg.cellF i2, gg.cellF i3, h7.trans gg⟩))); (try simp only [Act.put, List.setIfInBounds_toArray, List.set_cons_zero, List.set_cons_succ]))
                | (refine CanonL.callQ (by rfl) (by rfl) ?_ y4 ?_ ?_; (focus (intro w; go_simp; (try (with_reducible rfl)); done)); (focus (rintro w ww hs gg; exact (by obtain ⟨h1, h2, h3, h4, h5, h6, i1, i2, i3, h7⟩ := hs; exact ⟨fun k hk => gg.cellF (h1 k hk), fun k hk => gg.cellF (h2 k hk), fun k hk => gg.cellF (h3 k hk), fun k hk => gg.cellF (h4 k hk), gg.cellF h5, gg.cellF h6, fun k hk => gg.cellF (i1 k hk), gg.cellF i2, gg.cellF i3, h7.trans gg⟩))); (try simp only [Act.put, List.setIfInBounds_toArray, List.set_cons_zero, List.set_cons_succ]))
                | (refine CanonL.callQ (by rfl) (by rfl) ?_ y5 ?_ ?_; (focus (intro w; go_simp; (try (with_reducible rfl)); done)); (focus (rintro w ww hs gg; exact (by obtain ⟨h1, h2, h3, h4, h5, h6, i1, i2, i3, h7⟩ := hs; exact ⟨fun k hk => gg.cellF (h1 k hk), fun k hk => gg.cellF (h2 k hk), fun k hk => gg.cellF (h3 k hk), fun k hk => gg.cellF (h4 k hk), gg.cellF h5, gg.cellF h6, fun k hk => gg.cellF (i1 k hk), gg.cellF i2, gg.cellF i3, h7.trans gg⟩))); (try simp only [Act.put, List.setIfInBounds_toArray, List.set_cons_zero, List.set_cons_succ]))
                | (refine CanonL.val (v := ?_) (by rfl) ?_ ?_; rotate_left 1; (focus (intro w hSw; (try dsimp only at hSw); go_simp; (try (with_reducible rfl)); done)); (try simp only [Act.put, List.setIfInBounds_toArray, List.set_cons_zero, List.set_cons_succ]))
              refine CanonL.done ?_
              intro w9 hS9
              obtain ⟨vx, vy, vz1, vm, d0, d1, _, _, _, k9⟩ := hS9
              go_wp2_with fail
              go_meet
              exact ⟨rfl, vx, vy, vz1, vm, d0, d1, k9⟩
        case rest => as_aux_lemma =>
          clear vx vy vz1 vm d0 d1 vn x0 x1 k8 hN
          obtain ⟨rfl, vx, vy, vz1, vm, d0, d1, k9⟩ := hcut
          have y1 := lHas (jn8 f g) r n _ hr hn (has_join f g r n)
          have y2 := lHas f r n _ hr hn rfl
          have y3 := lHas g r n _ hr hn rfl
          have AW := fAwake
          go_upto_region 14 with fail
          rcases hq1 : has8 f r n with _ | _
          all_goals rw [hq1] at y1 y2
          all_goals rcases hq2 : has8 g r n with _ | _
          all_goals rw [hq2] at y1 y3
          all_goals (first | rw [Bool.or_true] at y1 | rw [Bool.or_false] at y1)
          · as_aux_lemma =>
            refine wp_region_canon (fun w' => (∀ k, k < 8 → w'.cell? ⟨x, k, none⟩ = some (.int .u32 (f k))) ∧ (∀ k, k < 8 → w'.cell? ⟨y, k, none⟩ = some (.int .u32 (g k))) ∧ (∀ k, k < 8 → w'.cell? ⟨z, k, none⟩ = some (.int .u32 (h k))) ∧ (∀ k, k < 8 → w'.cell? ⟨M, k, none⟩ = some (.int .u32 ((jn8 f g) k))) ∧ w'.cell? ⟨A + 1, 0, none⟩ = some (.int .u8 r) ∧ w'.cell? ⟨A + 1, 1, none⟩ = some (.int .u32 n) ∧ Frm (fun _ => False) w w') (by kernel_rfl) rfl (by kernel_rfl) (by kernel_rfl) (⟨vx, vy, vz1, vm, d0, d1, k9.drew⟩) ?_
            repeat' first
              | (refine CanonL.skip (by rfl) ?_; (try simp only [Act.put, List.setIfInBounds_toArray, List.set_cons_zero, List.set_cons_succ]))
              | (refine CanonL.callQ (by rfl) (by rfl) ?_ y1 ?_ ?_; (focus (intro w; go_simp; (try (with_reducible rfl)); done)); (focus (rintro w ww hs gg; exact (by obtain ⟨h1, h2, h3, h4, h5, h6, h7⟩ := hs; exact ⟨fun k hk => gg.cellF (h1 k hk), fun k hk => gg.cellF (h2 k hk), fun k hk => gg.cellF (h3 k hk), fun k hk => gg.cellF (h4 k hk), gg.cellF h5, gg.cellF h6, h7.trans gg⟩))); (try simp only [Act.put, List.setIfInBounds_toArray, List.set_cons_zero, List.set_cons_succ]))
              | (refine CanonL.callQ (by rfl) (by rfl) ?_ y2 ?_ ?_; (focus (intro w; go_simp; (try (with_reducible rfl)); done)); (focus (rintro w ww hs gg; exact (by obtain ⟨h1, h2, h3, h4, h5, h6, h7⟩ := hs; exact ⟨fun k hk => gg.cellF (h1 k hk), fun k hk => gg.cellF (h2 k hk), fun k hk => gg.cellF (h3 k hk), fun k hk => gg.cellF (h4 k hk), gg.cellF h5, gg.cellF h6, h7.trans gg⟩))); (try simp only [Act.put, List.setIfInBounds_toArray, List.set_cons_zero, List.set_cons_succ]))
              | (refine CanonL.callQ (by rfl) (by rfl) ?_ y3 ?_ ?_; (focus (intro w; go_simp; (try (with_reducible rfl)); done)); (focus (rintro w ww hs gg; exact (by obtain ⟨h1, h2, h3, h4, h5, h6, h7⟩ := hs; exact ⟨fun k hk => gg.cellF (h1 k hk), fun k hk => gg.cellF (h2 k hk), fun k hk => gg.cellF (h3 k hk), fun k hk => gg.cellF (h4 k hk), gg.cellF h5, gg.cellF h6, h7.trans gg⟩))); (try simp only [Act.put, List.setIfInBounds_toArray, List.set_cons_zero, List.set_cons_succ]))
              | (refine CanonL.callQ (by rfl) (by rfl) ?_ AW ?_ ?_; (focus (intro w; go_simp; (try (with_reducible rfl)); done)); (focus (rintro w ww hs gg; exact (by obtain ⟨h1, h2, h3, h4, h5, h6, h7⟩ := hs; exact ⟨fun k hk => gg.cellF (h1 k hk), fun k hk => gg.cellF (h2 k hk), fun k hk => gg.cellF (h3 k hk), fun k hk => gg.cellF (h4 k hk), gg.cellF h5, gg.cellF h6, h7.trans gg⟩))); (try simp only [Act.put, List.setIfInBounds_toArray, List.set_cons_zero, List.set_cons_succ]))
              | (refine CanonL.val (v := ?_) (by rfl) ?_ ?_; rotate_left 1; (focus (intro w hSw; (try dsimp only at hSw); go_simp; (try (with_reducible rfl)); done)); (try simp only [Act.put, List.setIfInBounds_toArray, List.set_cons_zero, List.set_cons_succ]))
            refine CanonL.done ?_
            intro w9 hS9
            obtain ⟨_, _, _, _, _, _, k10⟩ := hS9
            go_wp2_with fail
            go_ret
            exact ⟨rfl, k10⟩
          · as_aux_lemma =>
            refine wp_region_canon (fun w' => (∀ k, k < 8 → w'.cell? ⟨x, k, none⟩ = some (.int .u32 (f k))) ∧ (∀ k, k < 8 → w'.cell? ⟨y, k, none⟩ = some (.int .u32 (g k))) ∧ (∀ k, k < 8 → w'.cell? ⟨z, k, none⟩ = some (.int .u32 (h k))) ∧ (∀ k, k < 8 → w'.cell? ⟨M, k, none⟩ = some (.int .u32 ((jn8 f g) k))) ∧ w'.cell? ⟨A + 1, 0, none⟩ = some (.int .u8 r) ∧ w'.cell? ⟨A + 1, 1, none⟩ = some (.int .u32 n) ∧ Frm (fun _ => False) w w') (by kernel_rfl) rfl (by kernel_rfl) (by kernel_rfl) (⟨vx, vy, vz1, vm, d0, d1, k9.drew⟩) ?_
            repeat' first
              | (refine CanonL.skip (by rfl) ?_; (try simp only [Act.put, List.setIfInBounds_toArray, List.set_cons_zero, List.set_cons_succ]))
              | (refine CanonL.callQ (by rfl) (by rfl) ?_ y1 ?_ ?_; (focus (intro w; go_simp; (try (with_reducible rfl)); done)); (focus (rintro w ww hs gg; exact (by obtain ⟨h1, h2, h3, h4, h5, h6, h7⟩ := hs; exact ⟨fun k hk => gg.cellF (h1 k hk), fun k hk => gg.cellF (h2 k hk), fun k hk => gg.cellF (h3 k hk), fun k hk => gg.cellF (h4 k hk), gg.cellF h5, gg.cellF h6, h7.trans gg⟩))); (try simp only [Act.put, List.setIfInBounds_toArray, List.set_cons_zero, List.set_cons_succ]))
              | (refine CanonL.callQ (by rfl) (by rfl) ?_ y2 ?_ ?_; (focus (intro w; go_simp; (try (with_reducible rfl)); done)); (focus (rintro w ww hs gg; exact (by obtain ⟨h1, h2, h3, h4, h5, h6, h7⟩ := hs; exact ⟨fun k hk => gg.cellF (h1 k hk), fun k hk => gg.cellF (h2 k hk), fun k hk => gg.cellF (h3 k hk), fun k hk => gg.cellF (h4 k hk), gg.cellF h5, gg.cellF h6, h7.trans gg⟩))); (try simp only [Act.put, List.setIfInBounds_toArray, List.set_cons_zero, List.set_cons_succ]))
              | (refine CanonL.callQ (by rfl) (by rfl) ?_ y3 ?_ ?_; (focus (intro w; go_simp; (try (with_reducible rfl)); done)); (focus (rintro w ww hs gg; exact (by obtain ⟨h1, h2, h3, h4, h5, h6, h7⟩ := hs; exact ⟨fun k hk => gg.cellF (h1 k hk), fun k hk => gg.cellF (h2 k hk), fun k hk => gg.cellF (h3 k hk), fun k hk => gg.cellF (h4 k hk), gg.cellF h5, gg.cellF h6, h7.trans gg⟩))); (try simp only [Act.put, List.setIfInBounds_toArray, List.set_cons_zero, List.set_cons_succ]))
              | (refine CanonL.callQ (by rfl) (by rfl) ?_ AW ?_ ?_; (focus (intro w; go_simp; (try (with_reducible rfl)); done)); (focus (rintro w ww hs gg; exact (by obtain ⟨h1, h2, h3, h4, h5, h6, h7⟩ := hs; exact ⟨fun k hk => gg.cellF (h1 k hk), fun k hk => gg.cellF (h2 k hk), fun k hk => gg.cellF (h3 k hk), fun k hk => gg.cellF (h4 k hk), gg.cellF h5, gg.cellF h6, h7.trans gg⟩))); (try simp only [Act.put, List.setIfInBounds_toArray, List.set_cons_zero, List.set_cons_succ]))
              | (refine CanonL.val (v := ?_) (by rfl) ?_ ?_; rotate_left 1; (focus (intro w hSw; (try dsimp only at hSw); go_simp; (try (with_reducible rfl)); done)); (try simp only [Act.put, List.setIfInBounds_toArray, List.set_cons_zero, List.set_cons_succ]))
            refine CanonL.done ?_
            intro w9 hS9
            obtain ⟨_, _, _, _, _, _, k10⟩ := hS9
            go_wp2_with fail
            go_ret
            exact ⟨rfl, k10⟩
          · as_aux_lemma =>
            refine wp_region_canon (fun w' => (∀ k, k < 8 → w'.cell? ⟨x, k, none⟩ = some (.int .u32 (f k))) ∧ (∀ k, k < 8 → w'.cell? ⟨y, k, none⟩ = some (.int .u32 (g k))) ∧ (∀ k, k < 8 → w'.cell? ⟨z, k, none⟩ = some (.int .u32 (h k))) ∧ (∀ k, k < 8 → w'.cell? ⟨M, k, none⟩ = some (.int .u32 ((jn8 f g) k))) ∧ w'.cell? ⟨A + 1, 0, none⟩ = some (.int .u8 r) ∧ w'.cell? ⟨A + 1, 1, none⟩ = some (.int .u32 n) ∧ Frm (fun _ => False) w w') (by kernel_rfl) rfl (by kernel_rfl) (by kernel_rfl) (⟨vx, vy, vz1, vm, d0, d1, k9.drew⟩) ?_
            repeat' first
              | (refine CanonL.skip (by rfl) ?_; (try simp only [Act.put, List.setIfInBounds_toArray, List.set_cons_zero, List.set_cons_succ]))
              | (refine CanonL.callQ (by rfl) (by rfl) ?_ y1 ?_ ?_; (focus (intro w; go_simp; (try (with_reducible rfl)); done)); (focus (rintro w ww hs gg; exact (by obtain ⟨h1, h2, h3, h4, h5, h6, h7⟩ := hs; exact ⟨fun k hk => gg.cellF (h1 k hk), fun k hk => gg.cellF (h2 k hk), fun k hk => gg.cellF (h3 k hk), fun k hk => gg.cellF (h4 k hk), gg.cellF h5, gg.cellF h6, h7.trans gg⟩))); (try simp only [Act.put, List.setIfInBounds_toArray, List.set_cons_zero, List.set_cons_succ]))
              | (refine CanonL.callQ (by rfl) (by rfl) ?_ y2 ?_ ?_; (focus (intro w; go_simp; (try (with_reducible rfl)); done)); (focus (rintro w ww hs gg; exact (by obtain ⟨h1, h2, h3, h4, h5, h6, h7⟩ := hs; exact ⟨fun k hk => gg.cellF (h1 k hk), fun k hk => gg.cellF (h2 k hk), fun k hk => gg.cellF (h3 k hk), fun k hk => gg.cellF (h4 k hk), gg.cellF h5, gg.cellF h6, h7.trans gg⟩))); (try simp only [Act.put, List.setIfInBounds_toArray, List.set_cons_zero, List.set_cons_succ]))
              | (refine CanonL.callQ (by rfl) (by rfl) ?_ y3 ?_ ?_; (focus (intro w; go_simp; (try (with_reducible rfl)); done)); (focus (rintro w ww hs gg; exact (by obtain ⟨h1, h2, h3, h4, h5, h6, h7⟩ := hs; exact ⟨fun k hk => gg.cellF (h1 k hk), fun k hk => gg.cellF (h2 k hk), fun k hk => gg.cellF (h3 k hk), fun k hk => gg.cellF (h4 k hk), gg.cellF h5, gg.cellF h6, h7.trans gg⟩))); (try simp only [Act.put, List.setIfInBounds_toArray, List.set_cons_zero, List.set_cons_succ]))
              | (refine CanonL.callQ (by rfl) (by rfl) ?_ AW ?_ ?_; (focus (intro w; go_simp; (try (with_reducible rfl)); done)); (focus (rintro w ww hs gg; exact (by obtain ⟨h1, h2, h3, h4, h5, h6, h7⟩ := hs; exact ⟨fun k hk => gg.cellF (h1 k hk), fun k hk => gg.cellF (h2 k hk), fun k hk => gg.cellF (h3 k hk), fun k hk => gg.cellF (h4 k hk), gg.cellF h5, gg.cellF h6, h7.trans gg⟩))); (try simp only [Act.put, List.setIfInBounds_toArray, List.set_cons_zero, List.set_cons_succ]))
              | (refine CanonL.val (v := ?_) (by rfl) ?_ ?_; rotate_left 1; (focus (intro w hSw; (try dsimp only at hSw); go_simp; (try (with_reducible rfl)); done)); (try simp only [Act.put, List.setIfInBounds_toArray, List.set_cons_zero, List.set_cons_succ]))
            refine CanonL.done ?_
            intro w9 hS9
            obtain ⟨_, _, _, _, _, _, k10⟩ := hS9
            go_wp2_with fail
            go_ret
            exact ⟨rfl, k10⟩
          · as_aux_lemma =>
            refine wp_region_canon (fun w' => (∀ k, k < 8 → w'.cell? ⟨x, k, none⟩ = some (.int .u32 (f k))) ∧ (∀ k, k < 8 → w'.cell? ⟨y, k, none⟩ = some (.int .u32 (g k))) ∧ (∀ k, k < 8 → w'.cell? ⟨z, k, none⟩ = some (.int .u32 (h k))) ∧ (∀ k, k < 8 → w'.cell? ⟨M, k, none⟩ = some (.int .u32 ((jn8 f g) k))) ∧ w'.cell? ⟨A + 1, 0, none⟩ = some (.int .u8 r) ∧ w'.cell? ⟨A + 1, 1, none⟩ = some (.int .u32 n) ∧ Frm (fun _ => False) w w') (by kernel_rfl) rfl (by kernel_rfl) (by kernel_rfl) (⟨vx, vy, vz1, vm, d0, d1, k9.drew⟩) ?_
            repeat' first
              | (refine CanonL.skip (by rfl) ?_; (try simp only [Act.put, List.setIfInBounds_toArray, List.set_cons_zero, List.set_cons_succ]))
              | (refine CanonL.callQ (by rfl) (by rfl) ?_ y1 ?_ ?_; (focus (intro w; go_simp; (try (with_reducible rfl)); done)); (focus (rintro w ww hs gg; exact (by obtain ⟨h1, h2, h3, h4, h5, h6, h7⟩ := hs; exact ⟨fun k hk => gg.cellF (h1 k hk), fun k hk => gg.cellF (h2 k hk), fun k hk => gg.cellF (h3 k hk), fun k hk => gg.cellF (h4 k hk), gg.cellF h5, gg.cellF h6, h7.trans gg⟩))); (try simp only [Act.put, List.setIfInBounds_toArray, List.set_cons_zero, List.set_cons_succ]))
              | (refine CanonL.callQ (by rfl) (by rfl) ?_ y2 ?_ ?_; (focus (intro w; go_simp; (try (with_reducible rfl)); done)); (focus (rintro w ww hs gg; exact (by obtain ⟨h1, h2, h3, h4, h5, h6, h7⟩ := hs; exact ⟨fun k hk => gg.cellF (h1 k hk), fun k hk => gg.cellF (h2 k hk), fun k hk => gg.cellF (h3 k hk), fun k hk => gg.cellF (h4 k hk), gg.cellF h5, gg.cellF h6, h7.trans gg⟩))); (try simp only [Act.put, List.setIfInBounds_toArray, List.set_cons_zero, List.set_cons_succ]))
              | (refine CanonL.callQ (by rfl) (by rfl) ?_ y3 ?_ ?_; (focus (intro w; go_simp; (try (with_reducible rfl)); done)); (focus (rintro w ww hs gg; exact (by obtain ⟨h1, h2, h3, h4, h5, h6, h7⟩ := hs; exact ⟨fun k hk => gg.cellF (h1 k hk), fun k hk => gg.cellF (h2 k hk), fun k hk => gg.cellF (h3 k hk), fun k hk => gg.cellF (h4 k hk), gg.cellF h5, gg.cellF h6, h7.trans gg⟩))); (try simp only [Act.put, List.setIfInBounds_toArray, List.set_cons_zero, List.set_cons_succ]))
              | (refine CanonL.callQ (by rfl) (by rfl) ?_ AW ?_ ?_; (focus (intro w; go_simp; (try (with_reducible rfl)); done)); (focus (rintro w ww hs gg; exact (by obtain ⟨h1, h2, h3, h4, h5, h6, h7⟩ := hs; exact ⟨fun k hk => gg.cellF (h1 k hk), fun k hk => gg.cellF (h2 k hk), fun k hk => gg.cellF (h3 k hk), fun k hk => gg.cellF (h4 k hk), gg.cellF h5, gg.cellF h6, h7.trans gg⟩))); (try simp only [Act.put, List.setIfInBounds_toArray, List.set_cons_zero, List.set_cons_succ]))
              | (refine CanonL.val (v := ?_) (by rfl) ?_ ?_; rotate_left 1; (focus (intro w hSw; (try dsimp only at hSw); go_simp; (try (with_reducible rfl)); done)); (try simp only [Act.put, List.setIfInBounds_toArray, List.set_cons_zero, List.set_cons_succ]))
            refine CanonL.done ?_
            intro w9 hS9
            obtain ⟨_, _, _, _, _, _, k10⟩ := hS9
            go_wp2_with fail
            go_ret
            exact ⟨rfl, k10⟩
end Go.Proofs.Ytmohegglclgcbaa
