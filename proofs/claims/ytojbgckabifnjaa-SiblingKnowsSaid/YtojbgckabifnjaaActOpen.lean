/- A law's row, whatever its parameters: if the call answers true and nothing that lay has turned, the arguments read as they did. Of no program. No condition. -/
import Derived.Test.YtojbgckabifnjaaRows
import Derived.WalkKit
import Derived.ProofKit
import Derived.OpenShut
import Derived.ShutString
import Derived.Carry
import Derived.Deep.Slices
import Derived.Deep.Fields
import Derived.Test.YtojbgckabifnjaaVec
import Derived.Laws.IdiomArrays
import Derived.Test.YtojbgckabifnjaaSibD
import Derived.Test.YtojbgckabifnjaaSmA
section
namespace Go.Proofs.Ytojbgckabifnjaa
open Go.ChangeShapes Go.WideShapes Go.ChangeAt Go.RowKit

theorem trodAll_keep {H : Type} {enc : TypeId × Value → H} {P : Program} (hl : laidOutB P = true) {W W' : World} (hb : Below W.heap.size W W') :
    ∀ (ts : List TypeId) (vs : List Value) (ds : List (DataW H)) (ps : List MemPlace), ts.all (fun t => P.readableRec t && decide (t < P.types.size)) = true →
      DataW.TrodAll enc P W 0 (fun _ => true) true ts vs ds ps → (∀ x ∈ ps, x.block < W.heap.size) → DataW.TrodAll enc P W' 0 (fun b => decide (b < W.heap.size)) true ts vs ds ps := by
  intro ts
  induction ts with
  | nil => intro vs ds ps _ h _; cases vs <;> cases ds <;> exact h
  | cons t ts ih =>
    intro vs ds ps hr h hlt
    cases vs with
    | nil => exact h.elim
    | cons v vs =>
      cases ds with
      | nil => exact h.elim
      | cons d ds =>
        obtain ⟨p, q, h1, h2, rfl⟩ := h
        rw [List.all_cons, Bool.and_eq_true, Bool.and_eq_true] at hr
        exact ⟨p, q, Below.trod hl hr.1.1 (of_decide_eq_true hr.1.2) h1 hb (fun x hx => hlt x (List.mem_append_left _ hx)), ih vs ds q hr.2 h2 (fun x hx => hlt x (List.mem_append_right _ hx)), rfl⟩

theorem lawPost {H : Type} {enc : TypeId × Value → H} {P : Program} {f : Func} {s : ChangeSpec} {apart fresh handsOn : Bool} {W W' : World} {args : Array Value} {ds gs : List (DataW H)} {before : List MemPlace} {tb : TypeId}
    (hl : laidOutB P = true) (hr : f.params.toList.all (fun t => P.readableRec t && decide (t < P.types.size)) = true) (hv : s.vars = []) (hrt : f.resultTypes = #[tb]) (htb : P.underlying tb = some .bool)
    (hW : DataW.Whole enc P f.params.toList s.vars apart W args.toList ds gs before) (hfn : s.fn H (ds ++ gs) = { results := [.lit (.bool true)], args := ds }) (hb : Below W.heap.size W W') :
    s.post enc P f apart fresh handsOn false W args (.bool true) W' := by
  have hW0 := hW
  obtain ⟨p, q, h1, h2, h3, h4, h5⟩ := hW0
  refine ⟨ds, gs, before, [], p, [], hW, ?_, ?_, ?_, ?_, fun h => by cases h⟩
  · rw [hfn, hrt]
    exact trodAll_cons_mk (shut_bool htb _) trodAll_mk0
  · rw [hfn]
    refine trodAll_keep hl hb _ _ _ _ hr h1 fun x hx => ?_
    have hlt := hW.lt x (by rw [h3]; exact List.mem_append_left _ hx)
    simpa using hlt
  · rw [hfn, hv]
    exact rfl
  · exact hb.frame _
end Go.Proofs.Ytojbgckabifnjaa
end
section
namespace Go.Proofs.Ytojbgckabifnjaa
open Go.ChangeShapes Go.WideShapes Go.ChangeAt Go.RowKit Go.Deep
section
variable {H : Type} {enc : TypeId × Value → H} {P : Program} {w : World} {base : Nat} {spare : Nat → Bool} {held : Bool}
theorem spot_of_cell {a : Addr} {v : Value} (h : w.cell? a = some v) : a.spot = none := by
  unfold World.cell? at h
  split at h
  · split at h
    · cases h
    · rename_i hs; simpa using hs
  · cases h
/-- What a row's first cell tells of its address. -/
theorem addr_of_cell {a : Addr} {v : Value} (h : w.cell? (a.add 0) = some v) : ∃ b off, a = ⟨b, off, none⟩ ∧ b < w.heap.size := by
  have h0 : a.add 0 = a := by simp [Addr.add]
  rw [h0] at h
  obtain ⟨b, off, sp⟩ := a
  have hs : sp = none := spot_of_cell h
  subst hs
  exact ⟨b, off, rfl, World.block_lt_of_cell? w _ h⟩
end
theorem listOf {α : Type} {p : Nat → α → Prop} : ∀ n, (∀ i, i < n → ∃ x, p i x) → ∃ l : List α, l.length = n ∧ ∀ i (h : i < l.length), p i l[i] := by
  intro n
  induction n with
  | zero => intro _; exact ⟨[], rfl, fun i h => by simp at h⟩
  | succ n ih =>
    intro h
    obtain ⟨l, hl, hp⟩ := ih fun i hi => h i (by omega)
    obtain ⟨x, hx⟩ := h n (by omega)
    refine ⟨l ++ [x], by simp [hl], fun i hi => ?_⟩
    by_cases hin : i < l.length
    · rw [List.getElem_append_left hin]; exact hp i hin
    · have : i = n := by simp at hi; omega
      subst this
      rw [List.getElem_append_right (by omega)]
      simpa [hl] using hx
end Go.Proofs.Ytojbgckabifnjaa
end
section
namespace Go.Proofs.Ytojbgckabifnjaa
open Go.ChangeShapes Go.WideShapes Go.ChangeAt Go.RowKit Go.Deep
section
variable {H : Type} {enc : TypeId × Value → H} {P : Program} {w : World} {base : Nat} {spare : Nat → Bool} {held : Bool}
/-- A slice of elements that came in. -/
theorem openFlat {α : Type} (en : α → List Value) {c : Nat} (hc0 : 0 < c) (hlen : ∀ x, (en x).length = c) {t e : TypeId} {fuel : Nat} {cv : Value} {y : DataW H × List MemPlace} (ht : P.underlying t = some (.slice e)) (hC : P.cellsOf e = c)
    (hx : ∀ (m : Nat) (row : List Value) (y : DataW H × List MemPlace), row.length = c → DataW.trod enc P w base spare held m e row = some y → ∃ x, row = en x)
    (h : DataW.trod enc P w base spare held fuel t [cv] = some y) : ∃ l : List α, Sl w c cv l.length (flat en l) := by
  rcases open_slice ht h with ⟨h0, _⟩ | ⟨a', len, cap, m, n', D, Pl, hcs, _, hl, hm, hmm, _, hi⟩
  · simp only [List.cons.injEq, and_true] at h0
    subst h0
    exact ⟨[], Sl.nil_ w c none 0 (by decide)⟩
  · simp only [List.cons.injEq, and_true] at hcs
    subst hcs
    have hadd : ∀ (b o j : Nat), (⟨b, o, none⟩ : Addr).add j = ⟨b, o + j, none⟩ := fun b o j => by unfold Addr.add; split <;> simp_all
    obtain ⟨L, hL, hp⟩ := listOf (p := fun i (x : α) => ∃ b off, a' = ⟨b, off, none⟩ ∧ b < w.heap.size ∧ ∀ j, j < c → w.cell? ⟨b, off + (i * c + j), none⟩ = (en x)[j]?) len fun i hin => by
      have h00 : 0 < m := by rw [hmm]; split <;> omega
      obtain ⟨row0, hrow0, htrod0⟩ := hi 0 h00
      obtain ⟨_, hlen0, hcell0⟩ := World.cells?_some hrow0
      have hc0' := hcell0 0 (by rw [hC]; omega)
      obtain ⟨x0, e00⟩ := hx _ row0 _ (by rw [hlen0, hC]) htrod0
      have him : i < m := by rw [hmm]; split <;> omega
      obtain ⟨row, hrow, htrod⟩ := hi i him
      obtain ⟨_, hlen1, hcell⟩ := World.cells?_some hrow
      obtain ⟨x, e0⟩ := hx _ row _ (by rw [hlen1, hC]) htrod
      have hr0 : row0[0]? = some (row0[0]'(by rw [hlen0, hC]; exact hc0)) := List.getElem?_eq_getElem _
      rw [hr0] at hc0'
      obtain ⟨b, off, rfl, hb⟩ := addr_of_cell (a := a') (by simpa [Addr.add] using hc0')
      refine ⟨x, b, off, rfl, hb, fun j hj => ?_⟩
      have h1 := hcell j (by rw [hC]; exact hj)
      rw [hadd, hadd, hC, e0, Nat.add_assoc] at h1
      exact h1
    subst hL
    refine ⟨L, ⟨flat_len en hlen L, some a', cap, rfl, hl, hm, ?_⟩⟩
    rcases Nat.eq_zero_or_pos L.length with h0 | h0
    · exact .inl h0
    · obtain ⟨b, off, rfl, hb, _⟩ := hp 0 h0
      refine .inr ⟨b, off, rfl, hb, fun j hj => ?_⟩
      have hq : j / c < L.length := Nat.div_lt_of_lt_mul (by rw [Nat.mul_comm]; exact hj)
      obtain ⟨b', off', e, _, hcj⟩ := hp (j / c) hq
      cases e
      have hm := hcj (j % c) (Nat.mod_lt _ hc0)
      have hdm : j / c * c + j % c = j := by rw [Nat.mul_comm]; exact Nat.div_add_mod j c
      rw [← flat_at en hlen L (j / c) hq (j % c) (Nat.mod_lt _ hc0), hdm] at hm
      exact hm
end
section
variable {H : Type} {enc : TypeId × Value → H} {w : World} {base : Nat} {spare : Nat → Bool} {held : Bool}
end
end Go.Proofs.Ytojbgckabifnjaa
end
section
namespace Go.Proofs.Ytojbgckabifnjaa
open Go.ChangeShapes Go.WideShapes Go.ChangeAt Go.RowKit Go.Deep
section
variable {H : Type} {enc : TypeId × Value → H} {w : World} {base : Nat} {spare : Nat → Bool} {held : Bool}
theorem actFields : ∃ f0 f1 f2 f3 f4 : Field, Try.prog.underlying 85 = some (.struct #[f0, f1, f2, f3, f4]) ∧ (f0.offset = 0 ∧ f1.offset = 1 ∧ f2.offset = 2 ∧ f3.offset = 3 ∧ f4.offset = 4) ∧ f0.type = 5 ∧ f1.type = 5 ∧ f2.type = 5 ∧ f3.type = 5 ∧ f4.type = 9 :=
  ⟨_, _, _, _, _, Try.underlying85, ⟨rfl, rfl, rfl, rfl, rfl⟩, rfl, rfl, rfl, rfl, rfl⟩
set_option maxRecDepth 100000 in
theorem act_cells (m : Nat) (row : List Value) (y : DataW H × List MemPlace) (hl : row.length = 5) (h : DataW.trod enc Try.prog w base spare held m 85 row = some y) : ∃ x : SActI, row = sactc x := by
  obtain ⟨f0, f1, f2, f3, f4, ht, ⟨o0, o1, o2, o3, o4⟩, t0, t1, t2, t3, t4⟩ := actFields
  match row, hl with
  | [c0, c1, c2, c3, c4], _ =>
    obtain ⟨ys, n', _, _, hlen, hyl, hx⟩ := DataW.trod_struct ht h
    have h0 := hx 0 f0 rfl
    have h1 := hx 1 f1 rfl
    have h2 := hx 2 f2 rfl
    have h3 := hx 3 f3 rfl
    have h4 := hx 4 f4 rfl
    have hyl' : ys.length = 5 := hyl
    rw [List.getElem?_eq_getElem (by omega)] at h0 h1 h2 h3 h4
    rw [t0, show Try.prog.cellsOf 5 = 1 from by kernel_rfl, o0] at h0
    rw [t1, show Try.prog.cellsOf 5 = 1 from by kernel_rfl, o1] at h1
    rw [t2, show Try.prog.cellsOf 5 = 1 from by kernel_rfl, o2] at h2
    rw [t3, show Try.prog.cellsOf 5 = 1 from by kernel_rfl, o3] at h3
    rw [t4, show Try.prog.cellsOf 9 = 1 from by kernel_rfl, o4] at h4
    simp only [List.drop_zero, List.drop_succ_cons, List.take_succ_cons, List.take_zero] at h0 h1 h2 h3 h4
    obtain ⟨k, e0, _, w0⟩ := DataW.trod_int Try.underlying5 h0
    obtain ⟨r, e1, _, w1⟩ := DataW.trod_int Try.underlying5 h1
    obtain ⟨m, e2, _, w2⟩ := DataW.trod_int Try.underlying5 h2
    obtain ⟨o, e3, _, w3⟩ := DataW.trod_int Try.underlying5 h3
    obtain ⟨s, e4, _, w4⟩ := DataW.trod_string Try.underlying9 h4
    simp only [List.cons.injEq, and_true] at e0 e1 e2 e3 e4
    have b0 := bounds_u8 w0
    have b1 := bounds_u8 w1
    have b2 := bounds_u8 w2
    have b3 := bounds_u8 w3
    obtain ⟨k, rfl⟩ := Int.eq_ofNat_of_zero_le b0.1
    obtain ⟨r, rfl⟩ := Int.eq_ofNat_of_zero_le b1.1
    obtain ⟨m, rfl⟩ := Int.eq_ofNat_of_zero_le b2.1
    obtain ⟨o, rfl⟩ := Int.eq_ofNat_of_zero_le b3.1
    have hs : s.data.toList.length ≤ 9223372036854775807 := by
      unfold maxLen at w4
      have : s.data.toList.length = s.size := by simp
      omega
    exact ⟨⟨k, r, m, o, s.data.toList, by omega, by omega, by omega, by omega, hs⟩, by rw [e0, e1, e2, e3, e4]; unfold sactc; rw [bs_data]⟩
/-- A slice of acts. -/
theorem open_acts {v : Value} {d : DataW H} {p : List MemPlace} (hv : ∃ a n c, v = .slice a n c) (h : DataW.Trod enc Try.prog w base spare held 77 v d p) : ∃ l, AcL w v l := by
  obtain ⟨fuel, hf⟩ := h
  obtain ⟨a, n, c, rfl⟩ := hv
  exact openFlat sactc (by decide) sactc_len Try.underlying77 (by kernel_rfl) act_cells hf
end
end Go.Proofs.Ytojbgckabifnjaa
end
