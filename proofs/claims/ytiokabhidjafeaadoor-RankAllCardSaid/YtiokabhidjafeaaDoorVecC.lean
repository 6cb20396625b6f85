/- What is seen, as a list in memory: its elements; sees of one of them. No condition. -/
import Derived.Test.YtiokabhidjafeaaDoorRkSe
import Derived.Test.YtiokabhidjafeaaDoorRound
section
namespace Go.Proofs.YtiokabhidjafeaaDoor
open Go.RowKit Go.Shelf

/-- A list of what is seen. -/
def SeV (W : World) (u : Value) (L : List SeenI) : Prop := ∃ n1 P, SeO n1 W u P ∧ P.map Prod.fst = L
theorem SeV.keepF {W W' : World} {u : Value} {L : List SeenI} (h : SeV W u L) (g : Frm (fun _ => False) W W') : SeV W' u L := by
  obtain ⟨n1, P, h1, h2⟩ := h
  exact ⟨n1, P, h1.keepF g, h2⟩
theorem SeV.slice {W : World} {u : Value} {L : List SeenI} (h : SeV W u L) : ∃ a c, u = .slice a L.length c := by
  obtain ⟨n1, P, h1, h2⟩ := h
  obtain ⟨a, c, e, _, _⟩ := Row.slice h1.row
  exact ⟨a, c, by rw [e, ← h2, List.length_map]⟩
theorem SeV.addr {W : World} {u : Value} {L : List SeenI} (h : SeV W u L) (hL : 0 < L.length) : ∃ g off c, u = .slice (some ⟨g, off, none⟩) L.length c ∧ g < W.heap.size := by
  obtain ⟨n1, P, h1, h2⟩ := h
  obtain ⟨a, c, e, _, _⟩ := Row.slice h1.row
  have hl : P.length = L.length := by rw [← h2, List.length_map]
  subst e
  obtain ⟨g, off, ad, cd, ea, hg, _⟩ := SeO.elem h1 rfl 0 (by omega)
  subst ea
  exact ⟨g, off, c, by rw [hl], hg⟩
/-- The cells of one that is seen. -/
structure SeC (W : World) (g o : Nat) (x : SeenI) (ad : Option Addr) (cd : Nat) : Prop where
  c0 : W.cell? ⟨g, o, none⟩ = some (.string (bs x.n))
  c1 : W.cell? ⟨g, o + 1, none⟩ = some (.bool x.dir)
  c2 : W.cell? ⟨g, o + 2, none⟩ = some (.bool x.con)
  c3 : W.cell? ⟨g, o + 3, none⟩ = some (.string (bs x.g.s))
  c4 : W.cell? ⟨g, o + 4, none⟩ = some (.slice ad x.g.d.length cd)
  dl : DL W (.slice ad x.g.d.length cd) x.g.d
theorem SeC.keepF {W W' : World} {g o : Nat} {x : SeenI} {ad : Option Addr} {cd : Nat} (h : SeC W g o x ad cd) (f : Frm (fun _ => False) W W') : SeC W' g o x ad cd :=
  ⟨f.cellF h.c0, f.cellF h.c1, f.cellF h.c2, f.cellF h.c3, f.cellF h.c4, h.dl.keepF f⟩
theorem SeV.at {W : World} {g off n c : Nat} {L : List SeenI} (h : SeV W (.slice (some ⟨g, off, none⟩) n c) L) (i : Nat) (hi : i < L.length) : ∃ ad cd, SeC W g (off + i * 5) L[i] ad cd := by
  obtain ⟨n1, P, h1, rfl⟩ := h
  have hl : i < P.length := by rw [List.length_map] at hi; exact hi
  obtain ⟨a, c', e, _, _⟩ := Row.slice h1.row
  cases e
  obtain ⟨g', off', ad, cd, ea, hg, c0, c1, c2, c3, c4, hd⟩ := SeO.elem h1 rfl i hl
  cases ea
  have e : (P.map Prod.fst)[i] = P[i].1 := List.getElem_map ..
  exact ⟨ad, cd, by rw [e]; exact ⟨c0, c1, c2, c3, c4, hd⟩⟩
/-- The law's at, as such a list. -/
theorem at14_v (f : Nat → Nat) (nm : List UInt8) (v : Value) (l : List SibI) (q : Bool) (w : World) (hv : VarT w) (h : SL w v l) (hs : ∀ x ∈ l, x.s.length ≤ 200) (hb : l.length ≤ 1000) (L : List SeenI) (hL : seenA cfR nm (sameR q) isDir l = L) :
    Calls Tryd.prog 14 #[rg f v, .string (bs nm), .bool q] w fun e w' => ∃ u, e = .returned u ∧ SeV w' u L ∧ Frm (fun _ => False) w w' :=
  (at14_laid f nm v l q w hv h hs hb).mono fun _ _ ⟨u, P, h1, h2, h3, h4⟩ => ⟨u, h1, ⟨_, P, h2, by rw [h3, hL]⟩, h4⟩
end Go.Proofs.YtiokabhidjafeaaDoor
end
section
namespace Go.Proofs.YtiokabhidjafeaaDoor
open Go.RowKit

set_option maxRecDepth 100000 in
set_option maxHeartbeats 1000000 in
theorem marks_any (f : Nat → Nat) (w : World) :
    Calls Tryd.prog 57 #[.agg (vv f)] w fun e w' => e = .returned (.int .u8 (mk8 f 8)) ∧ Frm (fun _ => False) w w' := by
  have hb : Blk (w.alloc (Obj.cells (vv f) 24)) w.heap.size 24 (vv f) := Blk.alloc w _ _
  have g0 : Frm (fun _ => False) w (w.alloc (Obj.cells (vv f) 24)) := (Frm.refl _ w).alloc _
  go_enter Tryd.func57, Tryd.ntmps57
  go_wp2
  go_loop [3, 5] (fun n i => ∃ k : Nat, k ≤ 8 ∧ i = .int .i64 k ∧ n = .int .u8 (mk8 f k)) (fun _ i => 8 - (intOf i).toNat)
  case atStart => exact ⟨0, by omega, rfl, rfl⟩
  case round =>
    obtain ⟨k, hk, rfl, rfl⟩ := hrel
    by_cases hlt : k < 8
    · have c0 := vblk_cell hb hlt
      have hki : (k : Int) < 8 := by omega
      have hk0 : (0 : Int) ≤ (k : Int) := by omega
      by_cases h0 : 0 < f k
      · have h0i : (0 : Int) < (f k : Int) := by omega
        have h2 : mk8 f (k + 1) = mk8 f k + 2 ^ k := by simp [mk8, h0]
        have h3 := or_bit (mk8 f k) k hlt (mk8_lt f k)
        rw [← h2] at h3
        clear h2
        go_wp2
        go_round
        case rel => exact ⟨k + 1, by omega, by go_num, rfl⟩
        case measure => simp [intOf]; omega
      · have h0i : ¬ (0 : Int) < (f k : Int) := by omega
        have h2 : mk8 f (k + 1) = mk8 f k := by simp [mk8, h0]
        go_wp2
        go_round
        case rel => exact ⟨k + 1, by omega, by go_num, by rw [h2]⟩
        case measure => simp [intOf]; omega
    · obtain rfl : k = 8 := by omega
      go_wp2
      go_ret
      exact ⟨rfl, g0⟩

end Go.Proofs.YtiokabhidjafeaaDoor
end
