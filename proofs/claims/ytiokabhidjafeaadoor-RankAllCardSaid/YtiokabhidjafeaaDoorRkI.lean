/- All of a register, as it is gone through; a register's directories, and all else. No condition but that what is handed in leaves all as it lay, and that texts and registers aren't too long. -/
import Derived.Test.YtiokabhidjafeaaDoorRkH
import Derived.RegionIn
section
namespace Go.Proofs.YtiokabhidjafeaaDoor
open Go.RowKit Go.Shelf
attribute [local go_sem] Oper.semAt_some

set_option maxRecDepth 100000 in
set_option maxHeartbeats 2000000 in
theorem sall_gives (B : Nat) (v : Value) (l : List SibI) (K : Nat → Prop) (w : World) (hB : Blk w B 25 #[v]) (hs : SL w v l) (hKlt : ∀ q, K q → q < w.heap.size) (hKv : ∀ g, blkOf v = some g → K g) (h2 : ∀ x ∈ l, x.s.length ≤ 200) :
    GivesM Fence.wide 8 Tryd.prog 60 #[.pointer (some ⟨B, 0, none⟩)] sEnc (fun x _ _ => x.s.length ≤ 200) K (fun xs => xs = l) l.length w := fun l0 J W hW hY h0 => by
  have hBW : Blk W B 25 #[v] := hB.keep hW (fun h => h)
  have hsW : SL W v l := hs.keepF hW
  obtain ⟨a, cap, rfl, hc1, hc2⟩ := hsW.slice
  unfold maxLen at hc2
  have c0 := hBW.cell 0 rfl
  have hfe := yield_eql
  refine callsIn_of_wp Tryd.func60 rfl trivial ?_ rfl
  simp only [Tryd.ntmps60, List.size_toArray, List.length_cons, List.length_nil, Nat.reduceAdd, Nat.reduceSub, Array.replicate_succ, Array.replicate_zero, List.push_toArray, List.append_toArray, List.nil_append, List.cons_append]
  gi_wp2
  gi_loopw [9] (fun i wr => ∃ k : Nat, i = .int .i64 k ∧ k ≤ l.length ∧ J (l.take k) wr ∧ keptS K W wr) (fun i _ => l.length - (intOf i).toNat)
  case atStart => exact ⟨0, rfl, by omega, by rw [List.take_zero]; exact h0, fun _ _ => rfl⟩
  case round =>
    obtain ⟨k, rfl, hk, hJs, hkp⟩ := hrel
    by_cases hlt : k < l.length
    · have hk0 : (0 : Int) ≤ (k : Int) := by omega
      have hki : (k : Int) < (l.length : Int) := by omega
      have hsr := hsW.keepK hkp hKv
      obtain ⟨g, off, rfl, hg, hcell⟩ := Sl.elem sibc sibc_len hsr k hlt (by omega)
      have c1 : wr.cell? ⟨g, off + k * 3, none⟩ = some (.int .u8 l[k].r) := hcell 0 (by omega)
      have c2 : wr.cell? ⟨g, off + k * 3 + 1, none⟩ = some (.int .u32 l[k].n) := by rw [Nat.add_assoc]; exact hcell 1 (by omega)
      have c3 : wr.cell? ⟨g, off + k * 3 + 2, none⟩ = some (.string (bs l[k].s)) := by rw [Nat.add_assoc]; exact hcell 2 (by omega)
      clear hcell hsr
      have hlw : ∀ q, K q → q < wr.heap.size := fun q hq => by
        have e := hkp q hq
        have hl := Nat.lt_of_lt_of_le (hKlt q hq) hW.size
        rw [Array.getElem?_eq_getElem hl] at e
        exact (Array.getElem?_eq_some_iff.1 e).1
      have hkW : ∀ q, K q → (wr.alloc (.cells #[.int .u8 l[k].r, .int .u32 l[k].n, .string (bs l[k].s)] 63)).heap[q]? = wr.heap[q]? := fun q hq => Below.heap_alloc _ _ _ (hlw q hq)
      obtain ⟨fn, tmps, assign, body, hy, hR⟩ := hY (l.take k) l[k] wr (wr.alloc (.cells #[.int .u8 l[k].r, .int .u32 l[k].n, .string (bs l[k].s)] 63)) hJs ((Frm.refl _ wr).alloc _) (h2 _ (List.getElem_mem hlt)) (by simp; omega)
      dsimp only [sEnc] at hy
      have HK := Lib.hid hkW
      have HT := Lib.hid (show l.take k ++ [l[k]] = l.take (k + 1) from (List.take_succ_eq_append_getElem hlt).symm)
      clear hkW hY hlw
      gi_wp2
      refine hR.mono ?_
      rintro e W3 ⟨rfl, hJ3, hk3⟩
      gi_wp2
      go_roundw
      case rel =>
        exact ⟨k + 1, by go_num, hlt, by rw [← HT.out]; exact hJ3, fun q hq => (hk3 q hq).trans ((HK.out q hq).trans (hkp q hq))⟩
      case measure => simp [intOf]; omega
    · obtain rfl : k = l.length := by omega
      rw [List.take_length] at hJs
      gi_wp2
      go_end0
      exact ⟨⟨_, rfl⟩, l, wr, rfl, hJs, Frm.refl _ _⟩
/-- A function value that tells something of a text, and leaves all as it lay. -/
def DirTo (w : World) (dv : Value) (p : List UInt8 → Bool) : Prop := ∃ gf caps, dv = .func (.func gf) #[] caps ∧ (∀ args W, (callFunc gf args).run Tryd.prog W = .ok (.enter gf args) W) ∧
  ∀ (a : List UInt8) (W : World), Frm (fun _ => False) w W → a.length ≤ 200 → Calls Tryd.prog gf (#[.string (bs a)] ++ caps) W fun e w' => e = .returned (.bool (p a)) ∧ Frm (fun _ => False) W w'
theorem DirTo.keep {w w' : World} {dv : Value} {p : List UInt8 → Bool} (h : DirTo w dv p) (g : Frm (fun _ => False) w w') : DirTo w' dv p := by
  obtain ⟨gf, caps, e, h1, h2⟩ := h
  exact ⟨gf, caps, e, h1, fun a W gW => h2 a W (g.trans gW)⟩
/-- A text that says that there is a directory. -/
def isDir (a : List UInt8) : Bool := a == [47]
theorem dir_any (a : List UInt8) (w : World) : Calls Tryd.prog 29 #[.string (bs a)] w fun e w' => e = .returned (.bool (isDir a)) ∧ Frm (fun _ => False) w w' := by
  go_enter Tryd.func29, Tryd.ntmps29
  go_wp2
  go_ret
  exact ⟨by simp only [bs_toList]; rfl, Frm.refl _ _⟩
theorem dir_to (w : World) : DirTo w (.func (.func 29) #[] #[]) isDir :=
  ⟨_, _, rfl, enters_of Tryd.func29 (by kernel_rfl) rfl, fun a W _ _ => by simpa using dir_any a W⟩
theorem parted1_any (S V : Nat) (a : List UInt8) (dv : Value) (p : List UInt8 → Bool) (w : World) (hS : Blk w S 58 #[dv]) (hV : Blk w V 9 #[.string (bs a)]) (hp : DirTo w dv p) (ha : a.length ≤ 200) :
    Calls Tryd.prog 76 #[.pointer (some ⟨S, 0, none⟩), .pointer (some ⟨V, 0, none⟩)] w fun e w' => e = .returned (.bool (p a)) ∧ Frm (fun _ => False) w w' := by
  obtain ⟨gf, caps, rfl, hen, hc⟩ := hp
  have HC := Lib.hid hc
  have c0 := hS.cell 0 rfl
  have c1 := hV.cell 0 rfl
  clear hc
  go_enter Tryd.func76, Tryd.ntmps76
  go_wp2_with fail
  refine (HC.out a w (Frm.refl _ w) ha).mono ?_
  rintro e w1 ⟨rfl, g1⟩
  go_wp2_with fail
  go_ret
  exact ⟨rfl, g1⟩
end Go.Proofs.YtiokabhidjafeaaDoor
end
section
namespace Go.Proofs.YtiokabhidjafeaaDoor
open Go.RowKit Go.Shelf
attribute [local go_sem] Oper.semAt_some

theorem Row.blkOf {w : World} {size n : Nat} {v : Value} {xs : List Value} (h : Row w size v n xs) : ∀ g, Go.Proofs.YtiokabhidjafeaaDoor.blkOf v = some g → v.ownBlock = some g := fun g hg => by
  rcases h.2 with ⟨e, _⟩ | ⟨g', c', e, _⟩
  · subst e; cases hg
  · subst e; cases hg; rfl
/-- What lies between two rounds: the groups that came, in memory of the call's own. -/
structure LsI (w1 : World) (Bo : Nat) (pre : List (GrpI × Value)) (W : World) : Prop where
  res : ∃ u, Blk W Bo 30 #[u] ∧ GrO w1.heap.size W u pre
  frm : Frm (fun q => q = Bo) w1 W
theorem LsI.tw {w1 W W' : World} {Bo : Nat} {pre : List (GrpI × Value)} (h : LsI w1 Bo pre W) (g : Tw w1.heap.size W W') : LsI w1 Bo pre W' := by
  obtain ⟨u, h1, h2⟩ := h.res
  exact ⟨⟨u, g.blk h1, h2.tw g⟩, g.frm h.frm (Nat.le_refl _)⟩
theorem Row.fresh {w : World} {size n : Nat} {v : Value} {xs : List Value} (h : Row w size v n xs) {g : Nat} (e : v.ownBlock = some g) : g < w.heap.size := Row.blk h g e
/-- What must be kept while groups are gone through. -/
def grK (B : Nat) (u : Value) (P : List (GrpI × Value)) (q : Nat) : Prop := q = B ∨ Go.Proofs.YtiokabhidjafeaaDoor.blkOf u = some q ∨ ∃ i, ∃ h : i < P.length, Go.Proofs.YtiokabhidjafeaaDoor.blkOf P[i].2 = some q
theorem grK_lt {B n1 : Nat} {u : Value} {P : List (GrpI × Value)} {W : World} {t : TypeId} {cs : Array Value} (hB : Blk W B t cs) (hn : n1 ≤ B) (h : GrO n1 W u P) : ∀ q, grK B u P q → n1 ≤ q ∧ q < W.heap.size := fun q hq => by
  rcases hq with rfl | hq | ⟨i, hi, hq⟩
  · exact ⟨hn, hB.lt⟩
  · have e := Row.blkOf h.row q hq
    exact ⟨h.lo q e, Row.blk h.row q e⟩
  · have e := Row.blkOf (h.dots i hi) q hq
    exact ⟨h.lod i hi q e, Row.blk (h.dots i hi) q e⟩
end Go.Proofs.YtiokabhidjafeaaDoor
end
