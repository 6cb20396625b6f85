/- What path.Name, path.fault, path.clean answer: whether a text is a name, or why it is none. No condition. -/
import Derived.Test.YtiokabhidjafeaaDoorDigs
import Derived.Lib.OthersKept
import Derived.Lib.TrimU
import Derived.Lib.MapLaws
import Derived.Deep.LoopGhost
namespace Go.Proofs.YtiokabhidjafeaaDoor
open Go.RowKit

theorem inName_any (r : Nat) (w : World) (hr : r < 2147483648) :
    Calls Tryd.prog 82 #[.int .i32 r] w fun e w' => e = .returned (.bool (decide (33 ≤ r ∧ r ≤ 125 ∧ r ≠ 47))) ∧ w' = w := by
  by_cases h1 : (33 : Int) ≤ r
  · by_cases h2 : (r : Int) ≤ 126
    · by_cases h3 : (r : Int) = 47
      · obtain rfl : r = 47 := by omega
        go_enter Tryd.func82, Tryd.ntmps82
        go_wp2
        go_ret
        exact ⟨rfl, rfl⟩
      · by_cases h4 : (r : Int) = 126
        · obtain rfl : r = 126 := by omega
          go_enter Tryd.func82, Tryd.ntmps82
          go_wp2
          go_ret
          exact ⟨rfl, rfl⟩
        · have hd : decide (33 ≤ r ∧ r ≤ 125 ∧ r ≠ 47) = true := by simp; omega
          have e1 : ((r : Int) != 47) = true := by simp; omega
          have e2 : ((r : Int) != 126) = true := by simp; omega
          rw [hd]
          clear hd h3 h4
          go_enter Tryd.func82, Tryd.ntmps82
          go_wp2
          go_ret
          exact ⟨rfl, rfl⟩
    · have hd : decide (33 ≤ r ∧ r ≤ 125 ∧ r ≠ 47) = false := by simp; omega
      rw [hd]
      clear hd
      have h2' : (126 : Int) < r := by omega
      go_enter Tryd.func82, Tryd.ntmps82
      go_wp2
      go_ret
      exact ⟨rfl, rfl⟩
  · have hd : decide (33 ≤ r ∧ r ≤ 125 ∧ r ≠ 47) = false := by simp; omega
    rw [hd]
    clear hd
    have h2' : (r : Int) < 33 := by omega
    go_enter Tryd.func82, Tryd.ntmps82
    go_wp2
    go_ret
    exact ⟨rfl, rfl⟩

theorem bs_get (l : List UInt8) (pos : Nat) (h : pos < l.length) : (bs l).get! pos = l[pos] := by
  have this : pos < (bs l).data.size := h
  exact getElem!_pos (bs l).data pos this
theorem decode_bad (l : List UInt8) (pos : Nat) (h : pos < l.length) (hb : okc l[pos] = false) : decide (33 ≤ (Utf8.decode (bs l) pos).1 ∧ (Utf8.decode (bs l) pos).1 ≤ 125 ∧ (Utf8.decode (bs l) pos).1 ≠ 47) = false := by
  have e := bs_get l pos h
  rw [Lib.decode_at, e]
  unfold okc at hb
  rw [decide_eq_false_iff_not] at hb ⊢
  rcases Lib.decodeN_shape ((bs l).size - pos) l[pos].toNat ((bs l).get! (pos + 1)).toNat ((bs l).get! (pos + 2)).toNat ((bs l).get! (pos + 3)).toNat with ⟨_, e⟩ | ⟨_, _, _, _, e⟩ | ⟨_, _, _, _, _, _, e⟩ | ⟨_, _, _, _, _, _, _, e⟩ | e
  · rw [e]; exact hb
  · rw [e]; simp only; omega
  · rw [e]; simp only; omega
  · rw [e]; simp only; omega
  · rw [e]; simp only; omega
theorem decode_good (l : List UInt8) (pos : Nat) (h : pos < l.length) (hb : okc l[pos] = true) : Utf8.decode (bs l) pos = (l[pos].toNat, 1) ∧ decide (33 ≤ l[pos].toNat ∧ l[pos].toNat ≤ 125 ∧ l[pos].toNat ≠ 47) = true := by
  have e := bs_get l pos h
  unfold okc at hb
  refine ⟨?_, hb⟩
  rw [Lib.decode_at, e, Lib.decodeN_ascii _ _ _ _ _ (by have := of_decide_eq_true hb; omega)]
theorem frm_iter {w0 w : World} {k : Nat} (h : Fr w0 w) (hk : w0.heap.size ≤ k) (s : ByteArray) (p : Nat) : Fr w0 (w.iterAt k s p) :=
  ⟨h.os, h.tape, h.output, by simpa [World.iterAt] using h.size, fun j hj hn => by
    rw [← h.block j hj hn]
    simp only [World.iterAt]
    rw [Array.getElem?_setIfInBounds_ne (by omega)]⟩

set_option maxRecDepth 100000 in
set_option maxHeartbeats 2000000 in
theorem clean_any (l : List UInt8) (w : World) :
    Calls Tryd.prog 65 #[.string (bs l)] w fun e w' => e = .returned (.bool (l.all okc)) ∧ Fr w w' := by
  have hsz : (bs l).size = l.length := rfl
  go_enter Tryd.func65, Tryd.ntmps65
  go_wp2
  go_loopg [] l.length (fun g wx => ∃ pos : Nat, wx.heap[w.heap.size]? = some (.stringIter (bs l) pos) ∧ Fr w wx ∧ (l.drop pos).all okc = l.all okc ∧ l.length ≤ pos + g)
  case atStart => exact ⟨0, World.iter_heap w (bs l) 0, (Frm.refl _ w).alloc _, rfl, by omega⟩
  case round =>
    obtain ⟨pos, hit, hbw, hall, hfu⟩ := hrel
    have Hall := Lib.hid hall
    clear hall
    have hszw : w.heap.size < wr.heap.size := (Array.getElem?_eq_some_iff.1 hit).1
    by_cases hp : pos < l.length
    · obtain ⟨g, rfl⟩ : ∃ g, gk = g + 1 := ⟨gk - 1, by omega⟩
      have hnx : ∀ ty, (Instr.next (.pointer (some ⟨w.heap.size, 0, none⟩)) true ty).run Tryd.prog wr = _ := fun ty => Lib.run_next_any_at wr w.heap.size (bs l) pos ty hit (by rw [hsz]; exact hp)
      cases hb : okc l[pos] with
      | true =>
        obtain ⟨hd, hn⟩ := decode_good l pos hp hb
        rw [hd] at hnx
        simp only at hnx
        have hit2 := Lib.iterAt_heap wr w.heap.size (bs l) pos (pos + 1) hit
        have hbw2 := frm_iter hbw (Nat.le_refl _) (bs l) (pos + 1)
        generalize wr.iterAt w.heap.size (bs l) (pos + 1) = W at *
        have cS := inName_any l[pos].toNat W (by have := l[pos].toNat_lt; omega)
        rw [hn] at cS
        have hds : l.drop pos = l[pos] :: l.drop (pos + 1) := List.drop_eq_getElem_cons hp
        have hall2 : (l.drop (pos + 1)).all okc = l.all okc := by rw [← Hall.out, hds, List.all_cons, hb, Bool.true_and]
        have Hall2 := Lib.hid hall2
        have HcS := Lib.hid cS
        clear hd hn hb hds cS hall2
        generalize (l[pos].toNat : Int) = R at *
        go_wp2_with fail
        refine HcS.out.mono ?_
        rintro e w1 ⟨rfl, rfl⟩
        go_wp2_with fail
        go_roundg g
        case measure => omega
        case rel => exact ⟨pos + 1, hit2, hbw2, Hall2.out, by omega⟩
      | false =>
        have hn := decode_bad l pos hp hb
        have hr1 := Lib.rune_le (bs l) pos
        have hbw2 := frm_iter hbw (Nat.le_refl _) (bs l) (pos + (Utf8.decode (bs l) pos).2)
        generalize wr.iterAt w.heap.size (bs l) (pos + (Utf8.decode (bs l) pos).2) = W at *
        generalize (Utf8.decode (bs l) pos).1 = R at *
        have cS := inName_any R W (by omega)
        rw [hn] at cS
        have hds : l.drop pos = l[pos] :: l.drop (pos + 1) := List.drop_eq_getElem_cons hp
        have hall2 : l.all okc = false := by rw [← Hall.out, hds, List.all_cons, hb, Bool.false_and]
        have Hall2 := Lib.hid hall2
        have HcS := Lib.hid cS
        clear hn hb hds cS hall2
        go_wp2_with fail
        refine HcS.out.mono ?_
        rintro e w1 ⟨rfl, rfl⟩
        go_wp2_with fail
        go_ret
        exact ⟨by rw [Hall2.out]; rfl, hbw2⟩
    · have hnx : ∀ ty, (Instr.next (.pointer (some ⟨w.heap.size, 0, none⟩)) true ty).run Tryd.prog wr = _ := fun ty => Lib.run_next_end_at wr w.heap.size (bs l) pos ty hit (by rw [hsz]; exact hp)
      have hall2 : l.all okc = true := by rw [← Hall.out, List.drop_eq_nil_of_le (by omega)]; rfl
      have Hall2 := Lib.hid hall2
      clear hall2
      go_wp2
      go_ret
      exact ⟨by rw [Hall2.out]; rfl, hbw⟩

/-- What is wrong with a name, as one below i others. -/
def flt (s : List UInt8) (i : Nat) : Nat := if chk s ≠ 0 then chk s else if 4 ≤ i then 3 else 0
theorem flt_form {s : List UInt8} (i : Nat) (h : s.all okc = false) : flt s i = 4 := by
  have : chk s = 4 := by
    unfold chk
    split
    · rfl
    · rw [h, if_neg (by simp)]
  unfold flt; rw [if_pos (by omega), this]
theorem flt_long {s : List UInt8} {i : Nat} (h0 : s ≠ []) (h : s.all okc = true) (h2 : 8 < s.length ∨ 4 ≤ i) : flt s i = 3 := by
  unfold flt chk
  rw [if_neg h0, if_pos h]
  by_cases h8 : 8 < s.length
  · rw [if_pos h8, if_pos (by omega)]
  · rw [if_neg h8, if_neg (by omega), if_pos (by omega)]
theorem flt_ok {s : List UInt8} {i : Nat} (h0 : s ≠ []) (h : s.all okc = true) (h2 : ¬ 8 < s.length) (h3 : ¬ 4 ≤ i) : flt s i = 0 := by
  unfold flt chk
  rw [if_neg h0, if_pos h, if_neg h2, if_neg (by omega), if_neg h3]
set_option maxRecDepth 100000 in
set_option maxHeartbeats 1000000 in
theorem fault_any (s : List UInt8) (i : Nat) (w : World) :
    Calls Tryd.prog 35 #[.string (bs s), .int .i64 i] w fun e w' => e = .returned (.int .i64 (flt s i : Nat)) ∧ Fr w w' := by
  have hc := fun w => clean_any s w
  have hsz : ((bs s).size : Int) = s.length := rfl
  by_cases h0 : s = []
  · have hf : flt s i = 4 := by subst h0; rfl
    rw [hf]
    subst h0
    clear hf hc hsz
    have hq : (bs []).toList.isEmpty = true := by rw [bs_toList]; rfl
    go_enter Tryd.func35, Tryd.ntmps35
    go_wp2
    go_ret
    exact ⟨rfl, Frm.refl _ _⟩
  · have hq : (bs s).toList.isEmpty = false := by rw [bs_toList]; cases s with
      | nil => exact absurd rfl h0
      | cons _ _ => rfl
    have hq2 : ((bs s).toList = []) = False := by rw [bs_toList]; exact eq_false h0
    cases ha : s.all okc with
    | false =>
      rw [flt_form i ha]
      rw [ha] at hc
      have Hc := Lib.hid hc
      clear hc ha h0
      go_enter Tryd.func35, Tryd.ntmps35
      go_wp2_with fail
      refine (Hc.out _).mono ?_
      rintro e w1 ⟨rfl, f1⟩
      go_wp2_with fail
      go_ret
      exact ⟨rfl, f1⟩
    | true =>
      rw [ha] at hc
      have Hc := Lib.hid hc
      by_cases h8 : 8 < s.length
      · rw [flt_long h0 ha (.inl h8)]
        clear hc ha h0
        have h8i : (8 : Int) < ((bs s).size : Int) := by omega
        clear hsz
        go_enter Tryd.func35, Tryd.ntmps35
        go_wp2_with fail
        refine (Hc.out _).mono ?_
        rintro e w1 ⟨rfl, f1⟩
        go_wp2_with fail
        go_ret
        exact ⟨rfl, f1⟩
      · have h8i : ((bs s).size : Int) ≤ 8 := by omega
        by_cases h4 : 4 ≤ i
        · rw [flt_long h0 ha (.inr h4)]
          clear hc ha h0 hsz
          have h4i : (4 : Int) ≤ i := by omega
          go_enter Tryd.func35, Tryd.ntmps35
          go_wp2_with fail
          refine (Hc.out _).mono ?_
          rintro e w1 ⟨rfl, f1⟩
          go_wp2_with fail
          go_ret
          exact ⟨rfl, f1⟩
        · rw [flt_ok h0 ha h8 h4]
          clear hc ha h0 hsz
          have h4i : (i : Int) < 4 := by omega
          go_enter Tryd.func35, Tryd.ntmps35
          go_wp2_with fail
          refine (Hc.out _).mono ?_
          rintro e w1 ⟨rfl, f1⟩
          go_wp2_with fail
          go_ret
          exact ⟨rfl, f1⟩
theorem flt_zero (s : List UInt8) : flt s 0 = chk s := by
  unfold flt
  split
  · rfl
  · rw [if_neg (by omega)]; omega
theorem name_any (s : List UInt8) (w : World) :
    Calls Tryd.prog 17 #[.string (bs s)] w fun e w' => e = .returned (.bool (decide (chk s = 0))) ∧ Fr w w' := by
  have hf := fun w => fault_any s 0 w
  rw [flt_zero] at hf
  have Hf := Lib.hid hf
  clear hf
  by_cases h : chk s = 0
  · have hd : decide (chk s = 0) = true := by simpa using h
    rw [hd]
    rw [h] at Hf
    clear hd h
    go_enter Tryd.func17, Tryd.ntmps17
    go_wp2_with fail
    refine (Hf.out _).mono ?_
    rintro e w1 ⟨rfl, f1⟩
    go_wp2_with fail
    go_ret
    exact ⟨rfl, f1⟩
  · have hd : decide (chk s = 0) = false := by simpa using h
    rw [hd]
    have hne : ((chk s : Int) == 0) = false := by simp; exact h
    generalize chk s = c at *
    clear hd h
    go_enter Tryd.func17, Tryd.ntmps17
    go_wp2_with fail
    refine (Hf.out _).mono ?_
    rintro e w1 ⟨rfl, f1⟩
    go_wp2_with fail
    go_ret
    exact ⟨rfl, f1⟩
end Go.Proofs.YtiokabhidjafeaaDoor

