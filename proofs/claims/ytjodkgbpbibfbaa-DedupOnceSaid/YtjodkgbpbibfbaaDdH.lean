/- What the statement notes of contents that are held, in a slice of its own. No condition. -/
import Derived.Test.YtjodkgbpbibfbaaDdN
import Derived.Test.YtjodkgbpbibfbaaDdQ
namespace Go.Proofs.Ytjodkgbpbibfbaa
open Go.RowKit

def hdc (x : HdV) : List Value := [.string (bs x.s), .int .u32 (x.id : Nat), .int .i64 x.b, .int .i64 (x.r : Nat)]
theorem hdc_len (x : HdV) : (hdc x).length = 4 := rfl
theorem hdc_one : ∀ (x : HdV), ∀ u ∈ hdc x, u.oneCell' = true := fun x u hu => by
  unfold hdc at hu
  simp only [List.mem_cons, List.not_mem_nil, or_false] at hu
  rcases hu with rfl | rfl | rfl | rfl <;> rfl
/-- Contents in a slice that the call holds by itself. -/
def OwnH (w : World) (v : Value) (l : List HdV) : Prop := Row w 4 v l.length (flat hdc l)
section
variable {w w' : World} {v : Value} {l : List HdV}
theorem OwnH.nil_ (w : World) : OwnH w (.slice none 0 0) [] := Row.nil_ w 4
theorem OwnH.keep {X : Nat → Prop} (h : OwnH w v l) (hf : Frm X w w') (hn : ∀ g, v.ownBlock = some g → ¬ X g) : OwnH w' v l := Row.keep h hf hn
theorem OwnH.keepF (h : OwnH w v l) (hf : Frm (fun _ => False) w w') : OwnH w' v l := Row.keep h hf (fun _ _ h => h)
theorem OwnH.slice (h : OwnH w v l) : ∃ a cap, v = .slice a l.length cap ∧ l.length ≤ cap ∧ cap ≤ maxLen := Row.slice h
theorem OwnH.at_ {a : Option Addr} {cap : Nat} (h : OwnH w (.slice a l.length cap) l) (k : Nat) (hk : k < l.length) : ∃ g, a = some ⟨g, 0, none⟩ ∧ g < w.heap.size ∧
    w.cell? ⟨g, k * 4, none⟩ = some (.string (bs l[k].s)) ∧ w.cell? ⟨g, k * 4 + 1, none⟩ = some (.int .u32 (l[k].id : Nat)) ∧ w.cell? ⟨g, k * 4 + 2, none⟩ = some (.int .i64 l[k].b) ∧ w.cell? ⟨g, k * 4 + 3, none⟩ = some (.int .i64 (l[k].r : Nat)) ∧
    (∀ j, j < 4 → w.frozen? ⟨g, k * 4 + j, none⟩ = false) := by
  have hb := Row.blk h
  obtain ⟨g, cap', e, h1, h2, hc⟩ := Row.elem hdc hdc_len h k hk
  cases e
  refine ⟨g, rfl, hb g rfl, hc 0 (by omega), hc 1 (by omega), hc 2 (by omega), hc 3 (by omega), fun j hj => ?_⟩
  rcases h.2 with ⟨e, _⟩ | ⟨g', cap', e, h1, h2, h3, h4, h5⟩
  · cases e
  · cases e
    refine (h5 (k * 4 + j) ?_).2
    have := Nat.mul_le_mul_right 4 (show k + 1 ≤ cap by omega)
    omega
/-- One cell of a content is stored anew. -/
theorem OwnH.cell {g cap : Nat} (h : OwnH w (.slice (some ⟨g, 0, none⟩) l.length cap) l) (k : Nat) (hk : k < l.length) (x : HdV) (j : Nat) (hj : j < 4) (u : Value) (hx : hdc x = (hdc l[k]).set j u) :
    OwnH (w.setCell ⟨g, k * 4 + j, none⟩ u) (.slice (some ⟨g, 0, none⟩) l.length cap) (l.set k x) := by
  have hlt : k * 4 + j < l.length * 4 := by omega
  have e : flat hdc (l.set k x) = (flat hdc l).set (k * 4 + j) u := by
    apply List.ext_getElem?
    intro q
    by_cases hq4 : q < l.length * 4
    · have hq : q / 4 < l.length := by omega
      have hq2 : q = q / 4 * 4 + q % 4 := by omega
      have hr : q % 4 < 4 := Nat.mod_lt _ (by decide)
      have hL : (flat hdc (l.set k x))[q]? = (hdc ((l.set k x)[q / 4]'(by rw [List.length_set]; exact hq)))[q % 4]? := by
        conv => lhs; rw [hq2]
        exact flat_at hdc hdc_len _ _ (by rw [List.length_set]; exact hq) _ hr
      have hR : (flat hdc l)[q]? = (hdc l[q / 4])[q % 4]? := by
        conv => lhs; rw [hq2]
        exact flat_at hdc hdc_len _ _ hq _ hr
      rw [hL, List.getElem?_set, List.getElem_set]
      by_cases ek : k = q / 4
      · rw [if_pos ek]
        subst ek
        rw [hx, List.getElem?_set]
        by_cases e3 : q % 4 = j
        · rw [if_pos e3.symm, if_pos (by rw [hdc_len]; exact hj), if_pos (by omega), if_pos (by rw [flat_len hdc hdc_len]; exact hlt)]
        · rw [if_neg (fun h => e3 h.symm), if_neg (by omega), hR]
      · rw [if_neg ek, if_neg (by omega), hR]
    · rw [List.getElem?_eq_none (by rw [flat_len hdc hdc_len, List.length_set]; omega), List.getElem?_eq_none (by rw [List.length_set, flat_len hdc hdc_len]; omega)]
  have := Row.setAtC h (k * 4 + j) hlt u
  unfold OwnH
  rw [List.length_set, e]
  exact this
end
theorem infoH : (Try.prog.info? 47).map (fun i => (i.zero, i.size, i.bytes)) = some (some (.agg #[.string ⟨#[]⟩, .int .u32 0, .int .i64 0, .int .i64 0]), 4, 40) := by kernel_rfl
theorem append_hs (w : World) (v x : Value) (l m : List HdV) (h : OwnH w v l) (hs : Sl w 4 x m.length (flat hdc m)) (hb : l.length + m.length ≤ 1000000) :
    ∃ v' w', (Builtin.append_ #[42, 42] 42 #[v, x]).run Try.prog w = .ok v' w' ∧ OwnH w' v' (l ++ m) ∧ w.grownBy w' v.ownBlock ∧ (∀ g, v'.ownBlock = some g → v.ownBlock = some g ∨ w.heap.size ≤ g) := by
  obtain ⟨i0, hi, hz0, hz1, hz2⟩ := cinfo_parts infoH
  obtain ⟨v', w', h1, h2, h3, h4⟩ := run_append_row w 42 42 42 47 i0 (.agg #[.string ⟨#[]⟩, .int .u32 0, .int .i64 0, .int .i64 0]) 4 40 Try.underlying42 hi hz0 hz1 hz2 rfl h x m.length (flat hdc m)
    (Sl.src hs Try.underlying42 (flat_one hdc hdc_one m)) (by unfold maxLen; omega) (by omega)
  exact ⟨v', w', h1, by unfold OwnH; rw [List.length_append, flat_append]; exact h2, h3, h4⟩
/-- One content in a slice of its own. -/
theorem Sl.held (w : World) (t : TypeId) (x : HdV) : Sl (w.alloc (.cells #[.string (bs x.s), .int .u32 (x.id : Nat), .int .i64 x.b, .int .i64 (x.r : Nat)] t)) 4 (.slice (some ⟨w.heap.size, 0, none⟩) 1 1) 1 (flat hdc [x]) :=
  Sl.built hdc hdc_len w t x #[.string (bs x.s), .int .u32 (x.id : Nat), .int .i64 x.b, .int .i64 (x.r : Nat)] rfl
def hix (A : List HdV) (s : List UInt8) : Option Nat := A.findIdx? fun x => decide (x.s = s)
theorem hix_some {A : List HdV} {s : List UInt8} {k : Nat} (h : hix A s = some k) : ∃ hk : k < A.length, A[k].s = s := by
  unfold hix at h
  rw [List.findIdx?_eq_some_iff_getElem] at h
  obtain ⟨hk, h1, _⟩ := h
  exact ⟨hk, by simpa using h1⟩
theorem hix_none {A : List HdV} {s : List UInt8} (h : hix A s = none) : ∀ x ∈ A, x.s ≠ s := by
  unfold hix at h
  rw [List.findIdx?_eq_none_iff] at h
  intro x hx
  simpa using h x hx
set_option maxRecDepth 100000 in
set_option maxHeartbeats 2000000 in
theorem hfind_any (v : Value) (A : List HdV) (s : List UInt8) (w : World) (h : OwnH w v A) :
    Calls Try.prog 19 #[v, .string (bs s)] w fun e w' => e = .returned (.int .i64 (ixZ (hix A s))) ∧ w = w' := by
  obtain ⟨a, cap, rfl, hc1, hc2⟩ := h.slice
  unfold maxLen at hc2
  have H := Lib.hid h
  clear h
  go_enter Try.func19, Try.ntmps19
  go_wp2_with fail
  go_loop [5] (fun j => ∃ k : Nat, k ≤ A.length ∧ j = .int .i64 (k : Nat) ∧ ∀ q (hq : q < A.length), q < k → A[q].s ≠ s) (fun j => A.length - (intOf j).toNat)
  case atStart => exact ⟨0, Nat.zero_le _, rfl, fun q _ h => by omega⟩
  case round =>
    obtain ⟨k, hk, rfl, hno⟩ := hrel
    by_cases hlt : k < A.length
    · have hki : (k : Int) < (A.length : Int) := by omega
      obtain ⟨g, rfl, hg, d0, _⟩ := H.out.at_ k hlt
      have hbe := bs_beqC A[k].s s
      by_cases he : A[k].s = s
      · have hat : hix A s = some k := by
          unfold hix
          rw [List.findIdx?_eq_some_iff_getElem]
          refine ⟨hlt, by simpa using he, fun j hj => ?_⟩
          have := hno j (by omega) hj
          simpa using this
        have HAT := Lib.hid hat
        rw [decide_eq_true he] at hbe
        clear hat hno he
        go_wp2_with fail
        go_ret
        exact ⟨by rw [HAT.out]; rfl, rfl⟩
      · rw [decide_eq_false he] at hbe
        have HNO := Lib.hid (show ∀ j (hj : j < A.length), j < k + 1 → A[j].s ≠ s from fun j hj hjk => by
          by_cases e : j = k
          · subst e; exact he
          · exact hno j hj (by omega))
        clear hno he
        go_wp2_with fail
        go_round
        case rel => exact ⟨k + 1, by omega, by go_num, HNO.out⟩
        case measure => simp [intOf]; omega
    · have hat : hix A s = none := by
        unfold hix
        rw [List.findIdx?_eq_none_iff]
        intro x hx
        obtain ⟨j, hj, rfl⟩ := List.getElem_of_mem hx
        simpa using hno j hj (by omega)
      have hkn : ¬ (k : Int) < (A.length : Int) := by omega
      have HAT := Lib.hid hat
      clear hat hno
      go_wp2_with fail
      go_ret
      exact ⟨by rw [HAT.out]; rfl, rfl⟩
end Go.Proofs.Ytjodkgbpbibfbaa
