/- The document's table: where an id, where data stands. No condition. -/
import Derived.Test.YtjodkgbpbibfbaaDdP
namespace Go.Proofs.Ytjodkgbpbibfbaa
open Go.RowKit

/-- The document's table at block r, its list v. -/
structure RtM (w : World) (r : Nat) (T : TbV) (v : Value) : Prop where
  ok : T.ok
  blk : Blk w r 73 #[v, .int .u32 (T.nx : Nat)]
  own : OwnC w v T.L
  ne : ∀ b, v.ownBlock = some b → b ≠ r
section
variable {w w' : World} {r : Nat} {T : TbV} {v : Value}
theorem RtM.keep {X : Nat → Prop} (h : RtM w r T v) (hf : Frm X w w') (h1 : ¬ X r) (h2 : ∀ b, v.ownBlock = some b → ¬ X b) : RtM w' r T v :=
  ⟨h.ok, h.blk.keep hf h1, h.own.keep hf h2, h.ne⟩
theorem RtM.keepF (h : RtM w r T v) (hf : Frm (fun _ => False) w w') : RtM w' r T v := h.keep hf (fun h => h) (fun _ _ h => h)
end
/-- What a call leaves. -/
def RtTo (r : Nat) (v : Value) (T' : TbV) (w w' : World) : Prop :=
  ∃ v', RtM w' r T' v' ∧ Frm (fun k => k = r ∨ v.ownBlock = some k) w w' ∧ ∀ b, v'.ownBlock = some b → v.ownBlock = some b ∨ w.heap.size ≤ b
theorem RtTo.same {r : Nat} {T : TbV} {v : Value} {w : World} (h : RtM w r T v) : RtTo r v T w w := ⟨v, h, Frm.refl _ _, fun _ hb => .inl hb⟩
theorem bs_beqC (a b : List UInt8) : ((bs a).toList == (bs b).toList) = decide (a = b) := by
  rw [bs_toList, bs_toList]
  rw [Bool.eq_iff_iff]; simp
set_option maxRecDepth 100000 in
set_option maxHeartbeats 2000000 in
theorem rtat_any (r : Nat) (T : TbV) (v : Value) (i : Nat) (w : World) (h : RtM w r T v) :
    Calls Try.prog 47 #[.pointer (some ⟨r, 0, none⟩), .int .u32 (i : Nat)] w fun e w' => e = .returned (.int .i64 (ixZ (T.at i))) ∧ w = w' := by
  have c0 := h.blk.cell 0 rfl
  obtain ⟨a, cap, rfl, hc1, hc2⟩ := h.own.slice
  unfold maxLen at hc2
  have H := Lib.hid h
  clear h
  go_enter Try.func47, Try.ntmps47
  go_wp2_with fail
  go_loop [5] (fun j => ∃ k : Nat, k ≤ T.L.length ∧ j = .int .i64 (k : Nat) ∧ ∀ q (hq : q < T.L.length), q < k → T.L[q].id ≠ i) (fun j => T.L.length - (intOf j).toNat)
  case atStart => exact ⟨0, Nat.zero_le _, rfl, fun q _ h => by omega⟩
  case round =>
    obtain ⟨k, hk, rfl, hno⟩ := hrel
    by_cases hlt : k < T.L.length
    · have hki : (k : Int) < (T.L.length : Int) := by omega
      obtain ⟨g, rfl, hg, d0, _⟩ := H.out.own.at_ k hlt
      by_cases he : T.L[k].id = i
      · have hat := TbV.at_of H.out.ok hlt he
        have HAT := Lib.hid hat
        rw [he] at d0
        have hq : ((i : Int) == (i : Int)) = true := by simp
        clear hat hno he
        go_wp2_with fail
        go_ret
        exact ⟨by rw [HAT.out]; rfl, rfl⟩
      · have hq : ((T.L[k].id : Int) == (i : Int)) = false := by rw [beq_eq_false_iff_ne]; omega
        have HNO := Lib.hid (show ∀ j (hj : j < T.L.length), j < k + 1 → T.L[j].id ≠ i from fun j hj hjk => by
          by_cases e : j = k
          · subst e; exact he
          · exact hno j hj (by omega))
        clear hno he
        go_wp2_with fail
        go_round
        case rel => exact ⟨k + 1, by omega, by go_num, HNO.out⟩
        case measure => simp [intOf]; omega
    · have hat : T.at i = none := TbV.at_no fun x hx hxe => by
        obtain ⟨j, hj, e⟩ := List.getElem_of_mem hx
        exact hno j hj (by omega) (by rw [e]; exact hxe)
      have hkn : ¬ (k : Int) < (T.L.length : Int) := by omega
      have HAT := Lib.hid hat
      clear hat hno
      go_wp2_with fail
      go_ret
      exact ⟨by rw [HAT.out]; rfl, rfl⟩
set_option maxRecDepth 100000 in
set_option maxHeartbeats 2000000 in
theorem rtfind_any (r : Nat) (T : TbV) (v : Value) (s : List UInt8) (w : World) (h : RtM w r T v) :
    Calls Try.prog 48 #[.pointer (some ⟨r, 0, none⟩), .string (bs s)] w fun e w' => e = .returned (.int .i64 (ixZ (T.find s))) ∧ w = w' := by
  have c0 := h.blk.cell 0 rfl
  obtain ⟨a, cap, rfl, hc1, hc2⟩ := h.own.slice
  unfold maxLen at hc2
  have H := Lib.hid h
  clear h
  go_enter Try.func48, Try.ntmps48
  go_wp2_with fail
  go_loop [5] (fun j => ∃ k : Nat, k ≤ T.L.length ∧ j = .int .i64 (k : Nat) ∧ ∀ q (hq : q < T.L.length), q < k → T.L[q].s ≠ s) (fun j => T.L.length - (intOf j).toNat)
  case atStart => exact ⟨0, Nat.zero_le _, rfl, fun q _ h => by omega⟩
  case round =>
    obtain ⟨k, hk, rfl, hno⟩ := hrel
    by_cases hlt : k < T.L.length
    · have hki : (k : Int) < (T.L.length : Int) := by omega
      obtain ⟨g, rfl, hg, _, d1, _⟩ := H.out.own.at_ k hlt
      have hbe := bs_beqC T.L[k].s s
      by_cases he : T.L[k].s = s
      · have hat := TbV.find_of H.out.ok hlt he
        have HAT := Lib.hid hat
        rw [decide_eq_true he] at hbe
        clear hat hno he
        go_wp2_with fail
        go_ret
        exact ⟨by rw [HAT.out]; rfl, rfl⟩
      · rw [decide_eq_false he] at hbe
        have HNO := Lib.hid (show ∀ j (hj : j < T.L.length), j < k + 1 → T.L[j].s ≠ s from fun j hj hjk => by
          by_cases e : j = k
          · subst e; exact he
          · exact hno j hj (by omega))
        clear hno he
        go_wp2_with fail
        go_round
        case rel => exact ⟨k + 1, by omega, by go_num, HNO.out⟩
        case measure => simp [intOf]; omega
    · have hat : T.find s = none := TbV.find_no fun x hx hxe => by
        obtain ⟨j, hj, e⟩ := List.getElem_of_mem hx
        exact hno j hj (by omega) (by rw [e]; exact hxe)
      have hkn : ¬ (k : Int) < (T.L.length : Int) := by omega
      have HAT := Lib.hid hat
      clear hat hno
      go_wp2_with fail
      go_ret
      exact ⟨by rw [HAT.out]; rfl, rfl⟩
end Go.Proofs.Ytjodkgbpbibfbaa
