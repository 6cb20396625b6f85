/- What is seen, as a list in memory: its elements; sees of one of them. No condition. -/
import Derived.Test.YtiokabhidjafeaaDoorRkSe
section
namespace Go.Proofs.YtiokabhidjafeaaDoor
open Go.RowKit Go.Shelf

/-- A list of what is seen. -/
def SeV (W : World) (u : Value) (L : List SeenI) : Prop := ∃ n1 P, SeO n1 W u P ∧ P.map Prod.fst = L
theorem SeV.keepF {W W' : World} {u : Value} {L : List SeenI} (h : SeV W u L) (g : Frm (fun _ => False) W W') : SeV W' u L := by
  obtain ⟨n1, P, h1, h2⟩ := h
  exact ⟨n1, P, h1.keepF g, h2⟩
theorem SeV.slice {W : World} {u : Value} {L : List SeenI} (h : SeV W u L) : ∃ a c, u = .slice a L.length c := by
  obtain ⟨n1, P, h1, h2⟩ := h
  obtain ⟨a, c, e, _, _⟩ := Row.slice h1.row
  exact ⟨a, c, by rw [e, ← h2, List.length_map]⟩
theorem SeV.addr {W : World} {u : Value} {L : List SeenI} (h : SeV W u L) (hL : 0 < L.length) : ∃ g off c, u = .slice (some ⟨g, off, none⟩) L.length c ∧ g < W.heap.size := by
  obtain ⟨n1, P, h1, h2⟩ := h
  obtain ⟨a, c, e, _, _⟩ := Row.slice h1.row
  have hl : P.length = L.length := by rw [← h2, List.length_map]
  subst e
  obtain ⟨g, off, ad, cd, ea, hg, _⟩ := SeO.elem h1 rfl 0 (by omega)
  subst ea
  exact ⟨g, off, c, by rw [hl], hg⟩
/-- The cells of one that is seen. -/
structure SeC (W : World) (g o : Nat) (x : SeenI) (ad : Option Addr) (cd : Nat) : Prop where
  c0 : W.cell? ⟨g, o, none⟩ = some (.string (bs x.n))
  c1 : W.cell? ⟨g, o + 1, none⟩ = some (.bool x.dir)
  c2 : W.cell? ⟨g, o + 2, none⟩ = some (.bool x.con)
  c3 : W.cell? ⟨g, o + 3, none⟩ = some (.string (bs x.g.s))
  c4 : W.cell? ⟨g, o + 4, none⟩ = some (.slice ad x.g.d.length cd)
  dl : DL W (.slice ad x.g.d.length cd) x.g.d
theorem SeC.keepF {W W' : World} {g o : Nat} {x : SeenI} {ad : Option Addr} {cd : Nat} (h : SeC W g o x ad cd) (f : Frm (fun _ => False) W W') : SeC W' g o x ad cd :=
  ⟨f.cellF h.c0, f.cellF h.c1, f.cellF h.c2, f.cellF h.c3, f.cellF h.c4, h.dl.keepF f⟩
theorem SeV.at {W : World} {g off n c : Nat} {L : List SeenI} (h : SeV W (.slice (some ⟨g, off, none⟩) n c) L) (i : Nat) (hi : i < L.length) : ∃ ad cd, SeC W g (off + i * 5) L[i] ad cd := by
  obtain ⟨n1, P, h1, rfl⟩ := h
  have hl : i < P.length := by rw [List.length_map] at hi; exact hi
  obtain ⟨a, c', e, _, _⟩ := Row.slice h1.row
  cases e
  obtain ⟨g', off', ad, cd, ea, hg, c0, c1, c2, c3, c4, hd⟩ := SeO.elem h1 rfl i hl
  cases ea
  have e : (P.map Prod.fst)[i] = P[i].1 := List.getElem_map ..
  exact ⟨ad, cd, by rw [e]; exact ⟨c0, c1, c2, c3, c4, hd⟩⟩
/-- sees of one that is seen. -/
theorem SeC.sees {W : World} {g o : Nat} {x : SeenI} {ad : Option Addr} {cd : Nat} (h : SeC W g o x ad cd) (d0 : DotI) (dr : List DotI) (hd : x.g.d = d0 :: dr) (hdir : isDir x.g.s = x.dir) (hcon : (x.n != [110]) = x.con) :
    Calls Tryd.prog 23 #[.agg #[.string (bs x.n), .bool x.dir, .bool x.con, .string (bs x.g.s), .slice ad x.g.d.length cd], .string (bs x.n), .string (bs x.g.s), .agg #[.int .u8 (d0.r : Int), .int .u32 (d0.n : Int)], .int .i64 (x.g.d.length : Nat)] W fun e w' => e = .returned (.bool true) ∧ Frm (fun _ => False) W w' := by
  have hdl := h.dl
  obtain ⟨gd, od, rfl, z0, z1⟩ := hdl.load 0 (by rw [hd]; simp)
  simp only [hd, List.getElem_cons_zero] at z0 z1
  exact sees_any x gd od cd d0 dr hd hdir hcon W (by simpa using z0) (by simpa using z1)
/-- The law's at, as such a list. -/
theorem at14_v (f : Nat → Nat) (nm : List UInt8) (v : Value) (l : List SibI) (q : Bool) (w : World) (hv : VarT w) (h : SL w v l) (hs : ∀ x ∈ l, x.s.length ≤ 200) (hb : l.length ≤ 1000) (L : List SeenI) (hL : seenA cfR nm (sameR q) isDir l = L) :
    Calls Tryd.prog 14 #[rg f v, .string (bs nm), .bool q] w fun e w' => ∃ u, e = .returned u ∧ SeV w' u L ∧ Frm (fun _ => False) w w' :=
  (at14_laid f nm v l q w hv h hs hb).mono fun _ _ ⟨u, P, h1, h2, h3, h4⟩ => ⟨u, h1, ⟨_, P, h2, by rw [h3, hL]⟩, h4⟩
end Go.Proofs.YtiokabhidjafeaaDoor
end
section
namespace Go.Proofs.YtiokabhidjafeaaDoor
open Go.RowKit Go.Shelf

/-- A group at number i, in memory. -/
theorem GrO.elem {n1 : Nat} {W : World} {a : Option Addr} {n c : Nat} {P : List (GrpI × Value)} (h : GrO n1 W (.slice a n c) P) (hn : n = P.length) (i : Nat) (hi : i < P.length) :
    ∃ g off ad cd, a = some ⟨g, off, none⟩ ∧ g < W.heap.size ∧ W.cell? ⟨g, off + i * 2, none⟩ = some (.string (bs P[i].1.s)) ∧ W.cell? ⟨g, off + i * 2 + 1, none⟩ = some (.slice ad P[i].1.d.length cd) ∧ DL W (.slice ad P[i].1.d.length cd) P[i].1.d := by
  subst hn
  obtain ⟨g, off, e, h0, hc⟩ := Sl.elem grc grc_len h.row.sl2 i hi (by omega)
  have hd := (h.dots i hi).dl
  obtain ⟨ad, cd, hv, _, _⟩ := DL.slice hd
  rw [hv] at hd
  have h4 := hc 1 (by omega)
  have e4 : (grc P[i])[1]? = some P[i].2 := rfl
  rw [e4, hv] at h4
  refine ⟨g, off, ad, cd, e, h0, hc 0 (by omega), ?_, hd⟩
  rw [Nat.add_assoc]; exact h4
end Go.Proofs.YtiokabhidjafeaaDoor
end
