/- A log in memory; what its small functions answer. No condition. -/
import Derived.Test.YtddjkbpgaenpgaaGreatWlB
import Derived.Test.YtddjkbpgaenpgaaGreatRgW
namespace Go.Proofs.YtddjkbpgaenpgaaGreat
open Go.RowKit Go.Shelf

/-- A log: how many blocks each region has, which one is used, its generation, whether an error of the line was told. -/
structure WV where
  n : Nat
  side : Nat
  gen : Nat
  dead : Bool
/-- What is noted of a log at block q: its line at l, its region (rp). -/
def Wlk (w : World) (q l : Nat) (V : WV) (rp : Option Addr) : Prop := Blk w q 91 #[.pointer (some ⟨q, 0, none⟩), .pointer (some ⟨l, 0, none⟩), .int .i64 (V.n : Nat), .int .i64 (V.side : Nat), .int .u32 (V.gen : Nat), .pointer rp, .bool V.dead]
structure WV.ok (V : WV) (N : Nat) : Prop where
  n2 : 2 ≤ V.n
  inn : 2 * V.n ≤ N
  N2 : N ≤ 2048
  s1 : V.side ≤ 1
  glt : V.gen < 4294967296
theorem wl_neq (w : World) (a : Addr) : (binOp .neq 73 (.pointer (some a)) (.pointer none)).run Tryz.prog w = .ok (.bool true) w := by
  have h : ∀ d : Nat, (Op.equalIn (d + 1) 73 (.pointer (some a)) (.pointer none)).run Tryz.prog w = .ok false w := fun d => by
    simp [Op.equalIn, run_underlying Tryz.underlying73]
  simp only [binOp]
  simp [Op.equal, Op.maxDepth, h 9999]
theorem wl_neqn (w : World) : (binOp .neq 73 (.pointer none) (.pointer none)).run Tryz.prog w = .ok (.bool false) w := by
  have h : ∀ d : Nat, (Op.equalIn (d + 1) 73 (.pointer none) (.pointer none)).run Tryz.prog w = .ok true w := fun d => by
    simp [Op.equalIn, run_underlying Tryz.underlying73]
  simp only [binOp]
  simp [Op.equal, Op.maxDepth, h 9999]
theorem wl_same (w : World) (a : Addr) : (binOp .eql 73 (.pointer (some a)) (.pointer (some a))).run Tryz.prog w = .ok (.bool true) w := by
  obtain ⟨j, hj⟩ := Option.isSome_iff_exists.1 (show (Tryz.prog.info? 91).isSome = true by kernel_rfl)
  exact run_eql_ptr_same w a Tryz.underlying73 hj
theorem wl_nil (w : World) (a : Addr) : (binOp .eql 73 (.pointer none) (.pointer (some a))).run Tryz.prog w = .ok (.bool false) w := by
  have h : ∀ d : Nat, (Op.equalIn (d + 1) 73 (.pointer none) (.pointer (some a))).run Tryz.prog w = .ok false w := fun d => by
    simp [Op.equalIn, run_underlying Tryz.underlying73]
  simp only [binOp]
  simp [Op.equal, Op.maxDepth, h 9999]
theorem rg_neqnn (w : World) : (binOp .neq 37 (.pointer none) (.pointer none)).run Tryz.prog w = .ok (.bool false) w := by
  have h : ∀ d : Nat, (Op.equalIn (d + 1) 37 (.pointer none) (.pointer none)).run Tryz.prog w = .ok true w := fun d => by
    simp [Op.equalIn, run_underlying Tryz.underlying37]
  simp only [binOp]
  simp [Op.equal, Op.maxDepth, h 9999]
theorem rg_neqs (w : World) (a : Addr) : (binOp .neq 37 (.pointer (some a)) (.pointer none)).run Tryz.prog w = .ok (.bool true) w := by
  have h : ∀ d : Nat, (Op.equalIn (d + 1) 37 (.pointer (some a)) (.pointer none)).run Tryz.prog w = .ok false w := fun d => by
    simp [Op.equalIn, run_underlying Tryz.underlying37]
  simp only [binOp]
  simp [Op.equal, Op.maxDepth, h 9999]
/-- There is no log: nil, or one that neither Make nor Open returned. -/
def NoWl (p : Value) (w : World) : Prop := p = .pointer none ∨ ∃ b, p = .pointer (some ⟨b, 0, none⟩) ∧ w.cell? ⟨b, 0, none⟩ = some (.pointer none)
section
variable {w w' : World} {q l : Nat} {V : WV} {rp : Option Addr}
theorem Wlk.keepF (h : Wlk w q l V rp) (hf : Frm (fun _ => False) w w') : Wlk w' q l V rp := Blk.keep h hf (fun h => h)
theorem Wlk.keepX {X : Nat → Prop} (h : Wlk w q l V rp) (hf : Frm X w w') (hn : ¬ X q) : Wlk w' q l V rp := Blk.keep h hf hn
end
set_option maxHeartbeats 400000 in
theorem wmade_any (q l : Nat) (V : WV) (rp : Option Addr) (w : World) (h : Wlk w q l V rp) :
    Calls Tryz.prog 98 #[.pointer (some ⟨q, 0, none⟩)] w fun e w' => e = .returned (.bool true) ∧ w = w' := by
  have c0 := Blk.cell h 0 rfl
  have hq := wl_same
  have hn := wl_neq
  clear h
  go_enter Tryz.func98, Tryz.ntmps98
  go_wp2
  go_ret
  exact ⟨rfl, rfl⟩
set_option maxHeartbeats 400000 in
theorem wmade_no (p : Value) (w : World) (h : NoWl p w) :
    Calls Tryz.prog 98 #[p] w fun e w' => e = .returned (.bool false) ∧ w = w' := by
  rcases h with rfl | ⟨b, rfl, c0⟩
  · have hn := wl_neqn
    go_enter Tryz.func98, Tryz.ntmps98
    go_wp2
    go_ret
    exact ⟨rfl, rfl⟩
  · have hq := wl_nil
    have hn := wl_neq
    go_enter Tryz.func98, Tryz.ntmps98
    go_wp2
    go_ret
    exact ⟨rfl, rfl⟩
set_option maxHeartbeats 1000000 in
theorem wgen_any (q l : Nat) (V : WV) (rp : Option Addr) (w : World) (h : Wlk w q l V rp) :
    Calls Tryz.prog 44 #[.pointer (some ⟨q, 0, none⟩)] w fun e w' => e = .returned (.int .u32 (V.gen : Nat)) ∧ w = w' := by
  have c4 := Blk.cell h 4 rfl
  have HM := Lib.hid (wmade_any q l V rp w h)
  clear h
  go_enter Tryz.func44, Tryz.ntmps44
  go_wp2_with fail
  refine HM.out.mono ?_
  rintro e w1 ⟨rfl, rfl⟩
  go_wp2_with fail
  go_ret
  exact ⟨rfl, rfl⟩
set_option maxHeartbeats 1000000 in
theorem wgen_no (p : Value) (w : World) (h : NoWl p w) :
    Calls Tryz.prog 44 #[p] w fun e w' => e = .returned (.int .u32 0) ∧ w = w' := by
  have HM := Lib.hid (wmade_no p w h)
  clear h
  go_enter Tryz.func44, Tryz.ntmps44
  go_wp2_with fail
  refine HM.out.mono ?_
  rintro e w1 ⟨rfl, rfl⟩
  go_wp2_with fail
  go_ret
  exact ⟨rfl, rfl⟩
/-- How many bytes the first group may have. -/
def WV.room (V : WV) : Nat := 58 * (V.n - 1)
set_option maxHeartbeats 1000000 in
theorem wroom_any (q l : Nat) (V : WV) (rp : Option Addr) (w : World) (h : Wlk w q l V rp) (h2 : 2 ≤ V.n) (h3 : V.n ≤ 2048) :
    Calls Tryz.prog 49 #[.pointer (some ⟨q, 0, none⟩)] w fun e w' => e = .returned (.int .i64 (V.room : Nat)) ∧ w = w' := by
  have c2 := Blk.cell h 2 rfl
  have HM := Lib.hid (wmade_any q l V rp w h)
  have hs : (V.n : Int) - 1 = ((V.n - 1 : Nat) : Int) := by omega
  have hw1 : IntKind.i64.wrap ((V.n - 1 : Nat) : Int) = ((V.n - 1 : Nat) : Int) := IntWalk.i64_in _ (by omega)
  unfold WV.room
  obtain ⟨m, hm⟩ : ∃ m, V.n - 1 = m := ⟨_, rfl⟩
  rw [hm] at hs hw1 ⊢
  have hw2 : IntKind.i64.wrap (58 * (m : Int)) = 58 * (m : Int) := IntWalk.i64_in _ (by omega)
  have HE := Lib.hid (show (58 * (m : Int)) = ((58 * m : Nat) : Int) by omega)
  clear h h2 h3 hm
  go_enter Tryz.func49, Tryz.ntmps49
  go_wp2_with fail
  refine HM.out.mono ?_
  rintro e w1 ⟨rfl, rfl⟩
  go_wp2_with fail
  go_ret
  exact ⟨by rw [← HE.out]; rfl, rfl⟩
set_option maxHeartbeats 1000000 in
theorem wroom_no (p : Value) (w : World) (h : NoWl p w) :
    Calls Tryz.prog 49 #[p] w fun e w' => e = .returned (.int .i64 0) ∧ w = w' := by
  have HM := Lib.hid (wmade_no p w h)
  clear h
  go_enter Tryz.func49, Tryz.ntmps49
  go_wp2_with fail
  refine HM.out.mono ?_
  rintro e w1 ⟨rfl, rfl⟩
  go_wp2_with fail
  go_ret
  exact ⟨rfl, rfl⟩
/-- Can groups be committed? -/
def wrB (V : WV) (rp : Option Addr) : Bool := rp.isSome && !V.dead
set_option maxHeartbeats 1000000 in
theorem wwrit_any (q l : Nat) (V : WV) (rp : Option Addr) (w : World) (h : Wlk w q l V rp) :
    Calls Tryz.prog 100 #[.pointer (some ⟨q, 0, none⟩)] w fun e w' => e = .returned (.bool (wrB V rp)) ∧ w = w' := by
  have c5 := Blk.cell h 5 rfl
  have c6 := Blk.cell h 6 rfl
  have HM := Lib.hid (wmade_any q l V rp w h)
  have h1 := rg_neqnn
  have h2 := rg_neqs
  clear h
  unfold wrB
  cases rp with
  | none =>
    go_enter Tryz.func100, Tryz.ntmps100
    go_wp2_with fail
    refine HM.out.mono ?_
    rintro e w1 ⟨rfl, rfl⟩
    go_wp2_with fail
    go_ret
    exact ⟨rfl, rfl⟩
  | some a =>
    cases hd : V.dead with
    | true =>
      rw [hd] at c6
      go_enter Tryz.func100, Tryz.ntmps100
      go_wp2_with fail
      refine HM.out.mono ?_
      rintro e w1 ⟨rfl, rfl⟩
      go_wp2_with fail
      go_ret
      exact ⟨rfl, rfl⟩
    | false =>
      rw [hd] at c6
      go_enter Tryz.func100, Tryz.ntmps100
      go_wp2_with fail
      refine HM.out.mono ?_
      rintro e w1 ⟨rfl, rfl⟩
      go_wp2_with fail
      go_ret
      exact ⟨rfl, rfl⟩
set_option maxHeartbeats 1000000 in
theorem wwrit_no (p : Value) (w : World) (h : NoWl p w) :
    Calls Tryz.prog 100 #[p] w fun e w' => e = .returned (.bool false) ∧ w = w' := by
  have HM := Lib.hid (wmade_no p w h)
  clear h
  go_enter Tryz.func100, Tryz.ntmps100
  go_wp2_with fail
  refine HM.out.mono ?_
  rintro e w1 ⟨rfl, rfl⟩
  go_wp2_with fail
  go_ret
  exact ⟨rfl, rfl⟩
set_option maxHeartbeats 1000000 in
theorem wtakes_any (q l : Nat) (V : WV) (rp : Option Addr) (s : List UInt8) (w : World) (h : Wlk w q l V rp) (h2 : 2 ≤ V.n) (h3 : V.n ≤ 2048) :
    Calls Tryz.prog 92 #[.pointer (some ⟨q, 0, none⟩), .string (bs s)] w fun e w' => e = .returned (.int .i64 (if V.room < s.length then 7 else 0)) ∧ w = w' := by
  have HM := Lib.hid (wroom_any q l V rp w h h2 h3)
  have hsz : (bs s).size = s.length := rfl
  obtain ⟨r, hr⟩ : ∃ r, V.room = r := ⟨_, rfl⟩
  rw [hr] at HM ⊢
  clear h hr
  by_cases hlt : r < s.length
  · have hi : (r : Int) < (s.length : Int) := by omega
    rw [if_pos hlt]
    go_enter Tryz.func92, Tryz.ntmps92
    go_wp2_with fail
    refine HM.out.mono ?_
    rintro e w1 ⟨rfl, rfl⟩
    go_wp2_with fail
    go_ret
    exact ⟨rfl, rfl⟩
  · have hi : ¬ (r : Int) < (s.length : Int) := by omega
    rw [if_neg hlt]
    go_enter Tryz.func92, Tryz.ntmps92
    go_wp2_with fail
    refine HM.out.mono ?_
    rintro e w1 ⟨rfl, rfl⟩
    go_wp2_with fail
    go_ret
    exact ⟨rfl, rfl⟩
set_option maxHeartbeats 1000000 in
theorem wother_any (q l : Nat) (V : WV) (rp : Option Addr) (w : World) (h : Wlk w q l V rp) (h1 : V.side ≤ 1) :
    Calls Tryz.prog 104 #[.pointer (some ⟨q, 0, none⟩)] w fun e w' => e = .returned (.int .i64 ((1 - V.side : Nat) : Int)) ∧ w = w' := by
  have c3 := Blk.cell h 3 rfl
  have hs : 1 - (V.side : Int) = ((1 - V.side : Nat) : Int) := by omega
  obtain ⟨m, hm⟩ : ∃ m, 1 - V.side = m := ⟨_, rfl⟩
  rw [hm] at hs ⊢
  have hw1 : IntKind.i64.wrap (m : Int) = (m : Int) := IntWalk.i64_in _ (by omega)
  clear h hm
  go_enter Tryz.func104, Tryz.ntmps104
  go_wp2_with fail
  go_ret
  exact ⟨rfl, rfl⟩
end Go.Proofs.YtddjkbpgaenpgaaGreat

