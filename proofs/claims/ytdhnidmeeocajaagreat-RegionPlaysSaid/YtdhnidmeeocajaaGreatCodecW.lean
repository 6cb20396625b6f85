/- What the calls on a codec.Writer do: they append to what was written. -/
import Derived.Test.YtdhnidmeeocajaaGreatDvM
import Derived.Test.YtdhnidmeeocajaaGreatCodecT
import Derived.Test.YtdhnidmeeocajaaGreatRow
import Derived.Deep.QuietTactic
import Derived.BigQuiet
namespace Go.Proofs.YtdhnidmeeocajaaGreat
open Go.RowKit
/-- A writer, and the blocks that are its own. -/
def Wr (w : World) (b : Nat) (s : List UInt8) (fp : List Nat) : Prop :=
  s.length ≤ 70368744177664 ∧ ((s = [] ∧ fp = [b] ∧ Blk w b 146 #[.pointer none, .int .i64 0]) ∨
    ∃ p v, fp = b :: p :: v.ownBlock.toList ∧ Blk w b 146 #[.pointer (some ⟨p, 0, none⟩), .int .i64 s.length] ∧ Blk w p 77 #[v] ∧ Row w 1 v s.length (u8s s) ∧ p ≠ b ∧ v.ownBlock ≠ some b ∧ v.ownBlock ≠ some p)
theorem Wr.lt {w : World} {b : Nat} {s : List UInt8} {fp : List Nat} (h : Wr w b s fp) : ∀ k ∈ fp, k < w.heap.size := by
  intro k hk
  rcases h.2 with ⟨_, rfl, hb⟩ | ⟨p, v, rfl, hb, hp, hr, _⟩
  · obtain rfl : k = b := by simpa using hk
    exact hb.lt
  · rcases List.mem_cons.1 hk with rfl | hk
    · exact hb.lt
    · rcases List.mem_cons.1 hk with rfl | hk
      · exact hp.lt
      · exact hr.blk k (by simpa using hk)
theorem Wr.keep {X : Nat → Prop} {w w' : World} {b : Nat} {s : List UInt8} {fp : List Nat} (h : Wr w b s fp) (hf : Frm X w w') (hn : ∀ k ∈ fp, ¬ X k) : Wr w' b s fp := by
  refine ⟨h.1, ?_⟩
  rcases h.2 with ⟨h1, rfl, hb⟩ | ⟨p, v, rfl, hb, hp, hr, h1, h2, h3⟩
  · exact .inl ⟨h1, rfl, hb.keep hf (hn b (by simp))⟩
  · exact .inr ⟨p, v, rfl, hb.keep hf (hn b (by simp)), hp.keep hf (hn p (by simp)), hr.keep hf (fun g hg => hn g (by simp [hg])), h1, h2, h3⟩
theorem Wr.zero {w : World} {b : Nat} (h : Blk w b 146 #[.pointer none, .int .i64 0]) : Wr w b [] [b] := ⟨by simp, .inl ⟨rfl, rfl, h⟩⟩

theorem step_append_row {P : Program} {ops : Array Oper} {o : Oper} {a : Act} {w : World} {K : Act → World → Prop} {Q : Exit → Act → World → Prop} {E : Prop}
    (hg : o.guard = none) (s x : Operand) (t tx : TypeId) (hop : o.op = Op.call { callee := Callee.builtin Builtin.append, args := #[s, x], argTypes := #[t, tx] })
    (e : TypeId) (i : TypeInfo) (z : Value) (size bytes : Nat) (ht : P.underlying t = some (.slice e)) (hi : P.info? e = some i) (hz : i.zero = some z)
    (hsize : i.size = size) (hby : i.bytes = bytes) (hzs : z.cells.size = size) {v : Value} {n : Nat} {xs : List Value} (hs : a.eval s = v) (hr : Row w size v n xs)
    (y : Value) (hx : a.eval x = y) (m : Nat) (news : List Value) (hsrc : Src P size tx y m news w) (h63 : n + m ≤ maxLen) (hbytes : (n + m) * bytes ≤ 140737488355328)
    (hK : ∀ v' w', Row w' size v' (n + m) (xs ++ news) → w.grownBy w' v.ownBlock → (∀ g, v'.ownBlock = some g → v.ownBlock = some g ∨ w.heap.size ≤ g) → K (a.put o.dst v') w') :
    if Region.wanted o (yielded ops a.tmps) = true then Oper.wp P o a w K Q else E := by
  have hw : Region.wanted o (yielded ops a.tmps) = true := by simp [Region.wanted, hg]
  rw [if_pos hw]
  obtain ⟨v', w', hrun, h1, h2, h3⟩ := run_append_row w t tx o.type e i z size bytes ht hi hz hsize hby hzs hr y m news hsrc h63 hbytes
  unfold Oper.wp
  simp [execOp, hop, resolve, invoke, builtin, hs, hx, hrun, Result.andThen]
  exact hK v' w' h1 h2 h3

theorem Tryz.info5 : (Tryz.prog.info? 5).map (fun i => (i.zero, i.size, i.bytes)) = some (some (.int .u8 0), 1, 1) := by kernel_rfl

set_option maxHeartbeats 1000000 in
/-- What was written is there. -/
theorem bytes_nil (b : Nat) (w : World) (h : Blk w b 146 #[.pointer none, .int .i64 0]) :
    Calls Tryz.prog 97 #[.pointer (some ⟨b, 0, none⟩)] w fun r w' => r = .returned (.string (bs [])) ∧ w = w' := by
  have c0 : w.cell? ⟨b, 0, none⟩ = some (.pointer none) := h.cell 0 rfl
  go_enter Tryz.func97, Tryz.ntmps97
  go_wp2
  go_ret
  exact ⟨rfl, rfl⟩

set_option maxHeartbeats 1000000 in
theorem bytes_some (b p : Nat) (v : Value) (s : List UInt8) (w : World) (h : Blk w b 146 #[.pointer (some ⟨p, 0, none⟩), .int .i64 s.length]) (hp : Blk w p 77 #[v]) (hr : Row w 1 v s.length (u8s s)) :
    Calls Tryz.prog 97 #[.pointer (some ⟨b, 0, none⟩)] w fun r w' => r = .returned (.string (bs s)) ∧ Frm (fun _ => False) w w' := by
  have c0 : w.cell? ⟨b, 0, none⟩ = some (.pointer (some ⟨p, 0, none⟩)) := h.cell 0 rfl
  have c1 : w.cell? ⟨b, 1, none⟩ = some (.int .i64 s.length) := h.cell 1 rfl
  obtain ⟨a, cap, rfl, hc1, hc2⟩ := hr.slice
  have cp : w.cell? ⟨p, 0, none⟩ = some (.slice a s.length cap) := hp.cell 0 rfl
  have hmax : cap ≤ 9223372036854775807 := by unfold maxLen at hc2; omega
  go_enter Tryz.func97, Tryz.ntmps97
  go_wp2
  have hconv : ∀ n, (convert 77 9 (.slice a s.length cap)).run Tryz.prog (w.drewN n) = .ok (.string (bs s)) (w.drewN n) := fun n =>
    run_text_of Tryz.underlying77 Tryz.underlying9 Tryz.underlying5 (w.drewN n) _ s (hr.keep ((Frm.refl (fun _ => False) w).drewN n) (fun _ _ h => h))
  have hlc : (s.length : Int) ≤ cap := by omega
  go_quiet (fail)
  go_wp2
  go_ret
  exact ⟨rfl, (Frm.refl _ w).drewN _⟩
theorem bytes_any (b : Nat) (s : List UInt8) (fp : List Nat) (w : World) (h : Wr w b s fp) :
    Calls Tryz.prog 97 #[.pointer (some ⟨b, 0, none⟩)] w fun r w' => r = .returned (.string (bs s)) ∧ Frm (fun _ => False) w w' := by
  rcases h.2 with ⟨rfl, _, hb⟩ | ⟨p, v, _, hb, hp, hr, _⟩
  · exact (bytes_nil b w hb).mono fun r w' ⟨h1, h2⟩ => ⟨h1, by subst h2; exact Frm.refl _ _⟩
  · exact bytes_some b p v s w hb hp hr

/-- A block that is beside a row that grew. -/
theorem Blk.beside {w w' : World} {b : Nat} {t : TypeId} {cs : Array Value} {row : Option Nat} (h : Blk w b t cs) (hg : w.grownBy w' row) (hn : row ≠ some b) : Blk w' b t cs := (hg.block b h.lt fun e => hn e.symm).trans h

set_option maxRecDepth 100000 in
set_option maxHeartbeats 1000000 in
theorem raw_more (b p : Nat) (v : Value) (s t : List UInt8) (w : World) (hl : s.length + t.length ≤ 70368744177664) (h : Blk w b 146 #[.pointer (some ⟨p, 0, none⟩), .int .i64 s.length]) (hp : Blk w p 77 #[v]) (hr : Row w 1 v s.length (u8s s))
    (h1 : p ≠ b) (h2 : v.ownBlock ≠ some b) (h3 : v.ownBlock ≠ some p) :
    Calls Tryz.prog 95 #[.pointer (some ⟨b, 0, none⟩), .string (bs t)] w fun r w' => r = .returned (.tuple #[]) ∧
      ∃ v', Blk w' b 146 #[.pointer (some ⟨p, 0, none⟩), .int .i64 (s ++ t).length] ∧ Blk w' p 77 #[v'] ∧ Row w' 1 v' (s ++ t).length (u8s (s ++ t)) ∧ Frm (fun k => k = b ∨ k = p ∨ v.ownBlock = some k) w w' ∧ (∀ g, v'.ownBlock = some g → v.ownBlock = some g ∨ w.heap.size ≤ g) := by
  have c0 : w.cell? ⟨b, 0, none⟩ = some (.pointer (some ⟨p, 0, none⟩)) := h.cell 0 rfl
  have c1 : w.cell? ⟨b, 1, none⟩ = some (.int .i64 s.length) := h.cell 1 rfl
  obtain ⟨a, cap, rfl, hc1, hc2⟩ := hr.slice
  have cp : w.cell? ⟨p, 0, none⟩ = some (.slice a s.length cap) := hp.cell 0 rfl
  have hlt : decide (s.length < s.length) = false := by simp
  go_enter Tryz.func95, Tryz.ntmps95
  go_wp2
  go_quiet (fail)
  obtain ⟨w0, hw0⟩ : ∃ w0, w.drewN nq = w0 := ⟨_, rfl⟩
  have hf0 : Frm (fun _ => False) w w0 := by rw [← hw0]; exact (Frm.refl _ w).drewN _
  have hb0 : Blk w0 b 146 #[.pointer (some ⟨p, 0, none⟩), .int .i64 s.length] := h.keep hf0 (fun h => h)
  have hp0 : Blk w0 p 77 #[.slice a s.length cap] := hp.keep hf0 (fun h => h)
  have hr0 : Row w0.drew 1 (.slice a s.length cap) s.length (u8s s) := hr.keep hf0.drew (fun _ _ h => h)
  rw [hw0]
  clear hw0 c0 c1 cp hc1 hc2 hlt
  have c0 : w0.cell? ⟨b, 0, none⟩ = some (.pointer (some ⟨p, 0, none⟩)) := hb0.cell 0 rfl
  have cp : w0.cell? ⟨p, 0, none⟩ = some (.slice a s.length cap) := hp0.cell 0 rfl
  have fp := hp0.free 0
  have fb := hb0.free 1
  obtain ⟨i0, hi, hz0, hz1, hz2⟩ := info_parts Tryz.info5
  have HB : s.length + (bs t).size ≤ maxLen := by unfold maxLen; have : (bs t).size = t.length := rfl; omega
  have HC : (s.length + (bs t).size) * 1 ≤ 140737488355328 := by have : (bs t).size = t.length := rfl; omega
  go_wp2
  go_region_law ((refine step_append_row rfl (.tmp 41) (.tmp 42) 77 9 rfl 5 i0 (.int .u8 0) 1 1 Tryz.underlying77 hi hz0 hz1 hz2 rfl rfl hr0 (.string (bs t)) rfl (bs t).size (byteCells (bs t)) (Src.ofString _ Tryz.underlying9 (bs t)) HB HC ?_; intro v' w' hrow hgrow hown; obtain ⟨a', cap', rfl, hc1', hc2'⟩ := hrow.slice; have hb1 := hb0.drew.beside hgrow h2; have hp1 := hp0.drew.beside hgrow h3; have c0' : w'.cell? ⟨b, 0, none⟩ = some (.pointer (some ⟨p, 0, none⟩)) := hb1.cell 0 rfl; have cp' : w'.cell? ⟨p, 0, none⟩ = some (.slice a s.length cap) := hp1.cell 0 rfl; have fp' := hp1.free 0; have fb' := hb1.free 1))
  all_goals
    have hn2 : Value.ownBlock (.slice a' (s.length + (bs t).size) cap') ≠ some b := fun e => (hown b e).elim (fun e => h2 e) (fun e => by have := hb0.lt; have e2 : w0.drew.heap.size = w0.heap.size := rfl; omega)
    have hn3 : Value.ownBlock (.slice a' (s.length + (bs t).size) cap') ≠ some p := fun e => (hown p e).elim (fun e => h3 e) (fun e => by have := hp0.lt; have e2 : w0.drew.heap.size = w0.heap.size := rfl; omega)
    have hp2 := hp1.set 0 (.slice a' (s.length + (bs t).size) cap')
    have hb2 := hb1.other (p := ⟨p, 0, none⟩) (Ne.symm h1) (.slice a' (s.length + (bs t).size) cap')
    have hr2 := hrow.setOther (p := ⟨p, 0, none⟩) hn3 (.slice a' (s.length + (bs t).size) cap')
    have hf2 : Frm (fun k => k = b ∨ k = p ∨ Value.ownBlock (.slice a s.length cap) = some k) w (w'.setCell ⟨p, 0, none⟩ (.slice a' (s.length + (bs t).size) cap')) :=
      ((hf0.drew.mono (Y := fun k => k = b ∨ k = p ∨ Value.ownBlock (.slice a s.length cap) = some k) (fun _ _ h => h.elim)).grown hgrow (fun k _ e => .inr (.inr e))).setCell (p := ⟨p, 0, none⟩) (fun _ => .inr (.inl rfl)) _
    generalize w'.setCell ⟨p, 0, none⟩ (.slice a' (s.length + (bs t).size) cap') = w2 at *
    have c0 : w2.cell? ⟨b, 0, none⟩ = some (.pointer (some ⟨p, 0, none⟩)) := hb2.cell 0 rfl
    have cp : w2.cell? ⟨p, 0, none⟩ = some (.slice a' (s.length + (bs t).size) cap') := hp2.cell 0 rfl
    have c1 : w2.cell? ⟨b, 1, none⟩ = some (.int .i64 s.length) := hb2.cell 1 rfl
    have fb := hb2.free 1
    go_wp2
    go_end0
    refine ⟨rfl, .slice a' (s.length + (bs t).size) cap', ?_, hp2.other (p := ⟨b, 1, none⟩) h1 _, ?_, hf2.setCell (p := ⟨b, 1, none⟩) (fun _ => .inl rfl) _, fun g hg => (hown g hg).imp id fun e => Nat.le_trans hf0.size e⟩
    · have e : ((s ++ t).length : Int) = (s.length : Int) + ((bs t).size : Int) := by rw [List.length_append]; exact Int.natCast_add _ _
      rw [e]; exact hb2.set 1 _
    · rw [u8s_append, List.length_append]
      exact hr2.setOther (p := ⟨b, 1, none⟩) hn2 _

set_option maxRecDepth 100000 in
set_option maxHeartbeats 1000000 in
theorem raw_first (b : Nat) (t : List UInt8) (w : World) (hl : t.length ≤ 70368744177664) (h : Blk w b 146 #[.pointer none, .int .i64 0]) :
    Calls Tryz.prog 95 #[.pointer (some ⟨b, 0, none⟩), .string (bs t)] w fun r w' => r = .returned (.tuple #[]) ∧
      ∃ p v', Blk w' b 146 #[.pointer (some ⟨p, 0, none⟩), .int .i64 t.length] ∧ Blk w' p 77 #[v'] ∧ Row w' 1 v' t.length (u8s t) ∧ Frm (· = b) w w' ∧ w.heap.size ≤ p ∧ (∀ g, v'.ownBlock = some g → w.heap.size ≤ g ∧ g ≠ p) := by
  have c0 : w.cell? ⟨b, 0, none⟩ = some (.pointer none) := h.cell 0 rfl
  go_enter Tryz.func95, Tryz.ntmps95
  go_wp2
  go_quiet (fail)
  obtain ⟨w0, hw0⟩ : ∃ w0, w.drewN nq = w0 := ⟨_, rfl⟩
  have hf0 : Frm (fun _ => False) w w0 := by rw [← hw0]; exact (Frm.refl _ w).drewN _
  have hb0 : Blk w0 b 146 #[.pointer none, .int .i64 0] := h.keep hf0 (fun h => h)
  rw [hw0]
  clear hw0 c0
  go_wp2_with (go_at_call 97; refine (bytes_nil b _ hb0).mono ?_; rintro r w' ⟨rfl, rfl⟩)
  obtain ⟨cap, w1, hrun, hrow, hg, hz⟩ := run_bytes_of (P := Tryz.prog) Tryz.underlying9 Tryz.underlying77 Tryz.underlying5 [] w0 (by decide)
  rw [hrun]
  clear hrun
  have hb1 := hb0.beside hg (by simp)
  have c1 : w1.cell? ⟨b, 0, none⟩ = some (.pointer none) := hb1.cell 0 rfl
  have f1 := hb1.free 0
  have c1a := (hb1.old (.cells #[.slice (some ⟨w0.heap.size, 0, none⟩) 0 cap] 77)).cell 0 rfl
  have f1a := (hb1.old (.cells #[.slice (some ⟨w0.heap.size, 0, none⟩) 0 cap] 77)).free 0
  have hblt := hb0.lt
  have Hz : w0.heap.size < w1.heap.size := by omega
  clear hz
  go_wp2
  obtain ⟨w3, hw3⟩ : ∃ w3, ((w1.alloc (.cells #[.slice (some ⟨w0.heap.size, 0, none⟩) 0 cap] 77)).setCell ⟨b, 0, none⟩ (.pointer (some ⟨w1.heap.size, 0, none⟩))) = w3 := ⟨_, rfl⟩
  have hb3 : Blk w3 b 146 #[.pointer (some ⟨w1.heap.size, 0, none⟩), .int .i64 0] := by rw [← hw3]; exact (hb1.old _).set 0 _
  have hp3 : Blk w3 w1.heap.size 77 #[.slice (some ⟨w0.heap.size, 0, none⟩) 0 cap] := by rw [← hw3]; exact (Blk.alloc w1 _ _).other (by simp; omega) _
  have hr3 : Row w3.drew 1 (.slice (some ⟨w0.heap.size, 0, none⟩) 0 cap) 0 (u8s []) := by rw [← hw3]; exact ((hrow.alloc _).setOther (p := ⟨b, 0, none⟩) (fun e => by have e2 : w0.heap.size = b := Option.some.inj e; omega) _).drew
  have hf3 : Frm (· = b) w w3 := by
    rw [← hw3]
    exact (((hf0.mono (Y := (· = b)) (fun _ _ h => h.elim)).grown hg (fun _ _ e => by cases e)).alloc _).setCell (p := ⟨b, 0, none⟩) (fun _ => rfl) _
  have h2 : Value.ownBlock (.slice (some ⟨w0.heap.size, 0, none⟩) 0 cap) ≠ some b := fun e => by have e2 : w0.heap.size = b := Option.some.inj e; omega
  have h3 : Value.ownBlock (.slice (some ⟨w0.heap.size, 0, none⟩) 0 cap) ≠ some w1.heap.size := fun e => by have e2 : w0.heap.size = w1.heap.size := Option.some.inj e; omega
  have h1 : w1.heap.size ≠ b := by omega
  rw [hw3]
  clear hw3 c1 f1 c1a f1a
  have c0 : w3.cell? ⟨b, 0, none⟩ = some (.pointer (some ⟨w1.heap.size, 0, none⟩)) := hb3.cell 0 rfl
  have cp : w3.cell? ⟨w1.heap.size, 0, none⟩ = some (.slice (some ⟨w0.heap.size, 0, none⟩) 0 cap) := hp3.cell 0 rfl
  have fp := hp3.free 0
  have fb := hb3.free 1
  obtain ⟨i0, hi, hz0, hz1, hz2⟩ := info_parts Tryz.info5
  have HB : 0 + (bs t).size ≤ maxLen := by unfold maxLen; have : (bs t).size = t.length := rfl; omega
  have HC : (0 + (bs t).size) * 1 ≤ 140737488355328 := by have : (bs t).size = t.length := rfl; omega
  go_region_law ((refine step_append_row rfl (.tmp 41) (.tmp 42) 77 9 rfl 5 i0 (.int .u8 0) 1 1 Tryz.underlying77 hi hz0 hz1 hz2 rfl rfl hr3 (.string (bs t)) rfl (bs t).size (byteCells (bs t)) (Src.ofString _ Tryz.underlying9 (bs t)) HB HC ?_; intro v' w' hrow3 hgrow hown; rw [Nat.zero_add] at hrow3; obtain ⟨a', cap', rfl, hc1', hc2'⟩ := hrow3.slice; have hb1 := hb3.drew.beside hgrow h2; have hp1 := hp3.drew.beside hgrow h3; have c0' : w'.cell? ⟨b, 0, none⟩ = some (.pointer (some ⟨w1.heap.size, 0, none⟩)) := hb1.cell 0 rfl; have cp' : w'.cell? ⟨w1.heap.size, 0, none⟩ = some (.slice (some ⟨w0.heap.size, 0, none⟩) 0 cap) := hp1.cell 0 rfl; have fp' := hp1.free 0; have fb' := hb1.free 1))
  all_goals
    have hn2 : Value.ownBlock (.slice a' (bs t).size cap') ≠ some b := fun e => (hown b e).elim (fun e => h2 e) (fun e => by have := hb3.lt; have e2 : w3.drew.heap.size = w3.heap.size := rfl; omega)
    have hn3 : Value.ownBlock (.slice a' (bs t).size cap') ≠ some w1.heap.size := fun e => (hown w1.heap.size e).elim (fun e => h3 e) (fun e => by have := hp3.lt; have e2 : w3.drew.heap.size = w3.heap.size := rfl; omega)
    have hp2 := hp1.set 0 (.slice a' (bs t).size cap')
    have hb2 := hb1.other (p := ⟨w1.heap.size, 0, none⟩) (Ne.symm h1) (.slice a' (bs t).size cap')
    have hr2 := hrow3.setOther (p := ⟨w1.heap.size, 0, none⟩) hn3 (.slice a' (bs t).size cap')
    have hf2 : Frm (· = b) w (w'.setCell ⟨w1.heap.size, 0, none⟩ (.slice a' (bs t).size cap')) :=
      ((hf3.drew).grown hgrow (fun k hk e => by have e2 : w0.heap.size = k := Option.some.inj e; have := hf0.size; omega)).setCell (p := ⟨w1.heap.size, 0, none⟩) (fun h => absurd h (by have := hf0.size; simp; omega)) _
    generalize w'.setCell ⟨w1.heap.size, 0, none⟩ (.slice a' (bs t).size cap') = w2 at *
    have c0 : w2.cell? ⟨b, 0, none⟩ = some (.pointer (some ⟨w1.heap.size, 0, none⟩)) := hb2.cell 0 rfl
    have cp : w2.cell? ⟨w1.heap.size, 0, none⟩ = some (.slice a' (bs t).size cap') := hp2.cell 0 rfl
    have c1 : w2.cell? ⟨b, 1, none⟩ = some (.int .i64 0) := hb2.cell 1 rfl
    have fb := hb2.free 1
    go_wp2
    go_end0
    refine ⟨rfl, w1.heap.size, .slice a' (bs t).size cap', ?_, hp2.other (p := ⟨b, 1, none⟩) h1 _, ?_, hf2.setCell (p := ⟨b, 1, none⟩) (fun _ => rfl) _, by have := hf0.size; omega, fun g hg => ⟨?_, fun e => hn3 (by rw [hg, e])⟩⟩
    · exact hb2.set 1 _
    · exact hr2.setOther (p := ⟨b, 1, none⟩) hn2 _
    · rcases hown g hg with e | e
      · have e2 : w0.heap.size = g := Option.some.inj e
        have := hf0.size
        omega
      · exact Nat.le_trans hf3.size e

/-- A call of Raw on a writer. -/
theorem raw_any (b : Nat) (s t : List UInt8) (fp : List Nat) (w : World) (h : Wr w b s fp) (hl : s.length + t.length ≤ 70368744177664) :
    Calls Tryz.prog 95 #[.pointer (some ⟨b, 0, none⟩), .string (bs t)] w fun r w' => r = .returned (.tuple #[]) ∧
      ∃ fp', Wr w' b (s ++ t) fp' ∧ Frm (· ∈ fp) w w' ∧ ∀ k ∈ fp', k ∈ fp ∨ w.heap.size ≤ k := by
  rcases h.2 with ⟨rfl, rfl, hb⟩ | ⟨p, v, rfl, hb, hp, hr, h1, h2, h3⟩
  · refine (raw_first b t w (by simpa using hl) hb).mono ?_
    rintro r w' ⟨rfl, p, v, hb', hp', hr', hf, hp1, hv⟩
    have hblt := hb.lt
    refine ⟨rfl, b :: p :: v.ownBlock.toList, ⟨by simpa using hl, .inr ⟨p, v, rfl, hb', hp', hr', by omega, fun e => ?_, fun e => (hv p e).2 rfl⟩⟩, hf.mono (fun k _ hk => by simp [hk]), fun k hk => ?_⟩
    · have := (hv b e).1; omega
    · rcases List.mem_cons.1 hk with rfl | hk
      · exact .inl (by simp)
      · rcases List.mem_cons.1 hk with rfl | hk
        · exact .inr hp1
        · exact .inr (hv k (by simpa using hk)).1
  · refine (raw_more b p v s t w hl hb hp hr h1 h2 h3).mono ?_
    rintro r w' ⟨rfl, v', hb', hp', hr', hf, hv⟩
    have hblt := hb.lt
    have hplt := hp.lt
    refine ⟨rfl, b :: p :: v'.ownBlock.toList, ⟨by rw [List.length_append]; exact hl, .inr ⟨p, v', rfl, hb', hp', hr', h1, fun e => (hv b e).elim (fun e => h2 e) (fun e => by omega), fun e => (hv p e).elim (fun e => h3 e) (fun e => by omega)⟩⟩, hf.mono (fun k _ hk => ?_), fun k hk => ?_⟩
    · rcases hk with rfl | rfl | hk
      · simp
      · simp
      · simp [hk]
    · rcases List.mem_cons.1 hk with rfl | hk
      · exact .inl (by simp)
      · rcases List.mem_cons.1 hk with rfl | hk
        · exact .inl (by simp)
        · rcases hv k (by simpa using hk) with e | e
          · exact .inl (by simp [e])
          · exact .inr e
end Go.Proofs.YtdhnidmeeocajaaGreat

