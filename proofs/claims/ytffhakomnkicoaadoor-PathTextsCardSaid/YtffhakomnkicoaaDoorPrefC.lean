/- What the document's Conflict and Text answer. No condition. -/
import Derived.Test.YtffhakomnkicoaaDoorPrefB
import Derived.Test.YtffhakomnkicoaaDoorPathE
namespace Go.Proofs.YtffhakomnkicoaaDoor
open Go.RowKit

set_option maxRecDepth 100000 in
set_option maxHeartbeats 4000000 in
theorem rconflict_yes (a : List UInt8) (r n : Nat) (w : World) (h : okd a r n) :
    Calls Tryd.prog 24 #[.string (bs a), .agg #[.int .u8 r, .int .u32 n]] w (ConfTo (conf a r n, 0) w) := by
  obtain ⟨ha, hr, hn1, hn2⟩ := h
  have hname := fun w => rcheck_any a w (by have := (chk_ok.1 ha).2.2; omega)
  rw [ha] at hname
  have D1 := Lib.hid (fun w => rdigits_any r w (by omega))
  have D2 := Lib.hid (fun w => rdigits_any n w (by omega))
  have Hname := Lib.hid hname
  have Hb := Lib.hid (conf_bs a r n hr)
  have la : (bs a).size ≤ 8 := (chk_ok.1 ha).2.2
  have l1 : (bs (digs r)).size ≤ 5 := digs_len5 (by omega)
  have l2 : (bs (digs n)).size ≤ 5 := digs_len5 (by omega)
  have ls : (⟨#[126]⟩ : ByteArray).size = 1 := rfl
  have lt : (⟨#[46]⟩ : ByteArray).size = 1 := rfl
  generalize bs a = A at *
  generalize bs (digs r) = E1 at *
  generalize bs (digs n) = E2 at *
  clear hname ha
  have z1 : ¬ 9223372036854775807 < A.size + 1 := by omega
  have z2 : ¬ 9223372036854775807 < A.size + 1 + E1.size := by omega
  have z3 : ¬ 9223372036854775807 < A.size + 1 + E1.size + 1 := by omega
  have z4 : ¬ 9223372036854775807 < A.size + 1 + E1.size + 1 + E2.size := by omega
  have r1 : (r : Int) ≤ 7 := by omega
  have r0 : (0 : Int) ≤ r := by omega
  have n1 : (n : Int) ≤ 65535 := by omega
  have n2 : (1 : Int) ≤ n := by omega
  go_enter Tryd.func24, Tryd.ntmps24
  have hB := Blk.alloc w 34 #[.int .u8 r, .int .u32 n]
  have f0 : Fr w (w.alloc (.cells #[.int .u8 r, .int .u32 n] 34)) := (Frm.refl _ w).alloc _
  go_wp2_with fail
  refine (Hname.out _).mono ?_
  rintro e w1 ⟨rfl, f1⟩
  have hB1 := hB.keep f1 (fun h => h)
  have c0 := hB1.cell 0 rfl
  have c1 := hB1.cell 1 rfl
  have f01 := f0.trans f1
  clear hB hB1 f0 f1
  obtain ⟨g, hg⟩ : ∃ g, w.heap.size = g := ⟨_, rfl⟩
  rw [hg] at c0 c1 ⊢
  clear hg
  go_wp2_with fail
  have hcv : IntKind.u32.wrap (r : Int) = r := IntWalk.u32_in _ (by omega)
  go_region_held3 (fun w' => w'.cell? ⟨g, 0, none⟩ = some (.int .u8 r) ∧ w'.cell? ⟨g, 1, none⟩ = some (.int .u32 n) ∧ Frm (fun _ => False) w w')
    (((try dsimp only); (try go_split_ands); (repeat' apply And.intro) <;> (first
      | assumption
      | exact Frm.drew (by assumption)
      | exact Frm.cellF gg (by assumption)
      | (refine Frm.trans ?_ gg; assumption)
      | go_keep)))
    (first
      | (go_at_call 48; (with_reducible refine Calls.mono (D1.out _) ?_); rintro e ww ⟨rfl, gg⟩)
      | (go_at_call 48; (with_reducible refine Calls.mono (D2.out _) ?_); rintro e ww ⟨rfl, gg⟩))
  rename_i hh
  obtain ⟨_, _, ff⟩ := hh
  clear D1 D2
  go_wp2_with fail
  go_ret2
  exact ⟨by rw [Hb.out]; rfl, ff⟩

set_option maxRecDepth 100000 in
set_option maxHeartbeats 4000000 in
theorem rconflict_no (a : List UInt8) (r n : Nat) (w : World) (hl : a.length ≤ 1000) (h : ¬ okd a r n) :
    Calls Tryd.prog 24 #[.string (bs a), .agg #[.int .u8 r, .int .u32 n]] w (ConfTo ([], 4) w) := by
  have hname := fun w => rcheck_any a w (by omega)
  have hB := Blk.alloc w 34 #[.int .u8 r, .int .u32 n]
  have f0 : Fr w (w.alloc (.cells #[.int .u8 r, .int .u32 n] 34)) := (Frm.refl _ w).alloc _
  by_cases ha : chk a = 0
  · rw [ha] at hname
    have Hname := Lib.hid hname
    have ho : 8 ≤ r ∨ n = 0 ∨ 65535 < n := by
      rcases Nat.lt_or_ge r 8 with h1 | h1
      · rcases Nat.eq_zero_or_pos n with h2 | h2
        · exact .inr (.inl h2)
        · rcases Nat.lt_or_ge 65535 n with h3 | h3
          · exact .inr (.inr h3)
          · exact absurd ⟨ha, by omega, by omega, h3⟩ h
      · exact .inl h1
    clear hname ha h
    generalize bs a = A at *
    by_cases h1 : 8 ≤ r
    · have r1 : (7 : Int) < r := by omega
      clear ho
      go_enter Tryd.func24, Tryd.ntmps24
      go_wp2_with fail
      refine (Hname.out _).mono ?_
      rintro e w1 ⟨rfl, f1⟩
      have hB1 := hB.keep f1 (fun h => h)
      have c0 := hB1.cell 0 rfl
      have c1 := hB1.cell 1 rfl
      have f01 := f0.trans f1
      clear hB hB1 f0 f1
      go_wp2_with fail
      go_ret2
      exact ⟨rfl, f01⟩
    · have r1 : (r : Int) ≤ 7 := by omega
      by_cases h2 : n = 0
      · subst h2
        clear ho
        go_enter Tryd.func24, Tryd.ntmps24
        go_wp2_with fail
        refine (Hname.out _).mono ?_
        rintro e w1 ⟨rfl, f1⟩
        have hB1 := hB.keep f1 (fun h => h)
        have c0 := hB1.cell 0 rfl
        have c1 := hB1.cell 1 rfl
        have f01 := f0.trans f1
        clear hB hB1 f0 f1
        go_wp2_with fail
        go_ret2
        exact ⟨rfl, f01⟩
      · have n0 : (1 : Int) ≤ n := by omega
        have n1 : (65535 : Int) < n := by omega
        clear ho h2
        go_enter Tryd.func24, Tryd.ntmps24
        go_wp2_with fail
        refine (Hname.out _).mono ?_
        rintro e w1 ⟨rfl, f1⟩
        have hB1 := hB.keep f1 (fun h => h)
        have c0 := hB1.cell 0 rfl
        have c1 := hB1.cell 1 rfl
        have f01 := f0.trans f1
        clear hB hB1 f0 f1
        go_wp2_with fail
        go_ret2
        exact ⟨rfl, f01⟩
  · obtain ⟨c, hc⟩ : ∃ c, chk a = c := ⟨_, rfl⟩
    rw [hc] at hname ha
    have q : ((c : Int) != 0) = true := by rw [bne_iff_ne]; omega
    have Hname := Lib.hid hname
    clear hname ha h hc
    generalize bs a = A at *
    go_enter Tryd.func24, Tryd.ntmps24
    go_wp2_with fail
    refine (Hname.out _).mono ?_
    rintro e w1 ⟨rfl, f1⟩
    have f01 := f0.trans f1
    clear hB f0 f1
    go_wp2_with fail
    go_ret2
    exact ⟨rfl, f01⟩
theorem rconflict_any (a : List UInt8) (r n : Nat) (w : World) (hl : a.length ≤ 1000) :
    Calls Tryd.prog 24 #[.string (bs a), .agg #[.int .u8 r, .int .u32 n]] w (ConfTo (conflict a r n) w) := by
  by_cases h : okd a r n
  · rw [conflict_good h]; exact rconflict_yes a r n w h
  · have e : conflict a r n = ([], 4) := by
      have h1 := fun e => h (conflict_ok.1 e)
      unfold conflict at h1 ⊢
      split at h1
      · rename_i h2; rw [if_pos h2]
      · exact absurd rfl h1
    rw [e]; exact rconflict_no a r n w hl h

theorem txt_zero (l : List (List UInt8)) (h : 0 < l.length) : ([47] : List UInt8) ++ l[0] = txt (l.take 1) := by
  cases l with
  | nil => simp at h
  | cons s r => simp [txt]
theorem txt_succ (l : List (List UInt8)) (k : Nat) (hk : 0 < k) (h : k < l.length) : txt (l.take k) ++ [47] ++ l[k] = txt (l.take (k + 1)) := by
  have n1 : l.take k ≠ [] := fun e => by have := congrArg List.length e; rw [List.length_take, List.length_nil] at this; omega
  have n2 : l.take (k + 1) ≠ [] := fun e => by have := congrArg List.length e; rw [List.length_take, List.length_nil] at this; omega
  unfold txt
  rw [if_neg n1, if_neg n2, List.take_succ_eq_append_getElem h, flat_append]
  simp only [List.flatMap_cons, List.flatMap_nil, List.append_nil, List.append_assoc, List.cons_append, List.nil_append]
set_option maxRecDepth 100000 in
set_option maxHeartbeats 2000000 in
theorem rtext_any (v : Value) (l : List (List UInt8)) (w : World) (h : Strs w v l) (hn : l.length ≤ 1000) (hs : ∀ s ∈ l, s.length ≤ 1000) :
    Calls Tryd.prog 22 #[v] w (TextTo (text l) w) := by
  obtain ⟨a, cap, rfl, hc1, hc2⟩ := h.slice
  unfold maxLen at hc2
  obtain ⟨X, hX⟩ : ∃ X, text l = X := ⟨_, rfl⟩
  rw [hX]
  have HX := Lib.hid hX
  clear hX
  have HS := Lib.hid hs
  clear hs
  go_enter Tryd.func22, Tryd.ntmps22
  go_wp2_with fail
  go_loopw [4] (fun i wr => ∃ k : Nat, k ≤ l.length ∧ i = .int .i64 k ∧ Fr w wr ∧ Hid (∀ s ∈ l.take k, chk s = 0)) (fun i _ => l.length - (intOf i).toNat)
  case atStart => exact ⟨0, Nat.zero_le _, rfl, Frm.refl _ _, Lib.hid (by simp)⟩
  case round =>
    obtain ⟨k, hk, rfl, g4, hok⟩ := hrel
    by_cases hlt : k < l.length
    · obtain ⟨b1, o1, rfl, _, c1⟩ := (h.keepF g4).at k hlt
      have hki : (k : Int) < (l.length : Int) := by omega
      have hk0 : (0 : Int) ≤ (k : Int) := by omega
      have hc := fun w => rcheck_any l[k] w (by have := HS.out l[k] (List.getElem_mem hlt); omega)
      by_cases he : chk l[k] = 0
      · rw [he] at hc
        have Hc := Lib.hid hc
        have hok2 : Hid (∀ s ∈ l.take (k + 1), chk s = 0) := Lib.hid (fun s hs => by
          rw [List.take_succ_eq_append_getElem hlt] at hs
          rcases List.mem_append.1 hs with hs | hs
          · exact hok.out s hs
          · obtain rfl : s = l[k] := by simpa using hs
            exact he)
        clear hc he
        generalize l[k] = s at *
        go_wp2_with fail
        refine (Hc.out _).mono ?_
        rintro e w1 ⟨rfl, f1⟩
        go_wp2_with fail
        go_roundw
        case rel => exact ⟨k + 1, by omega, by go_num, g4.trans f1, hok2⟩
        case measure => simp [intOf]; omega
      · have hX : X = ([], 4) := by
          rw [← HX.out]; unfold text
          rw [if_pos ⟨l[k], List.getElem_mem hlt, he⟩]
        obtain ⟨c, hcc⟩ : ∃ c, chk l[k] = c := ⟨_, rfl⟩
        rw [hcc] at hc he
        have q : ((c : Int) != 0) = true := by rw [bne_iff_ne]; omega
        have Hc := Lib.hid hc
        clear hc he hcc
        generalize l[k] = s at *
        go_wp2_with fail
        refine (Hc.out _).mono ?_
        rintro e w1 ⟨rfl, f1⟩
        go_wp2_with fail
        go_ret2
        subst hX
        exact ⟨rfl, g4.trans f1⟩
    · have hkl : k = l.length := by omega
      have hok1 : ∀ s ∈ l, chk s = 0 := fun s hs => hok.out s (by rw [hkl, List.take_length]; exact hs)
      subst hkl
      by_cases h4 : 4 < l.length
      · have hX : X = ([], 3) := by
          rw [← HX.out]; unfold text
          rw [if_neg (fun ⟨s, hs, e⟩ => e (hok1 s hs)), if_pos h4]
        have h4i : (4 : Int) < l.length := by omega
        clear hok1 hok
        go_wp2_with fail
        go_ret2
        subst hX
        exact ⟨rfl, g4⟩
      · have hg : good l := ⟨hok1, by omega⟩
        have hX : X = (txt l, 0) := by rw [← HX.out]; exact text_good hg
        have hgk : Hid (∀ k, (txt (l.take k)).length ≤ 36) := Lib.hid (fun k => txt_len (l := l.take k) ⟨fun s hs => hok1 s (List.mem_of_mem_take hs), by simp; omega⟩)
        have h4i : (l.length : Int) ≤ 4 := by omega
        have Hok := Lib.hid hok1
        clear hok1 hok hg
        go_wp2_with fail
        have e47 : (⟨#[47]⟩ : ByteArray) = bs (txt (l.take 0)) := by rw [List.take_zero]; rfl
        have E47 := Lib.hid e47
        clear e47
        go_loopw [5, 6] (fun s i wr => ∃ k : Nat, k ≤ l.length ∧ i = .int .i64 k ∧ s = .string (bs (txt (l.take k))) ∧ Fr w wr) (fun _ i _ => l.length - (intOf i).toNat)
        case atStart => exact ⟨0, Nat.zero_le _, rfl, by rw [← E47.out], g4⟩
        case round =>
          clear g4
          obtain ⟨k, hk, rfl, rfl, g4⟩ := hrel
          by_cases hlt : k < l.length
          · obtain ⟨b1, o1, rfl, _, c1⟩ := (h.keepF g4).at k hlt
            have hki : (k : Int) < (l.length : Int) := by omega
            have hk0 : (0 : Int) ≤ (k : Int) := by omega
            have ls1 : (bs (txt (l.take k))).size ≤ 36 := hgk.out k
            have ls2 : (bs l[k]).size ≤ 8 := (chk_ok.1 (Hok.out l[k] (List.getElem_mem hlt))).2.2
            have l47 : (⟨#[47]⟩ : ByteArray).size = 1 := rfl
            by_cases hz : k = 0
            · subst hz
              rw [Nat.add_zero] at c1
              have hT := txt_zero l hlt
              have hTb : bs (txt (l.take 0)) ++ bs l[0] = bs (txt (l.take (0 + 1))) := by rw [bs_append, ← hT]; rfl
              have HT := Lib.hid hTb
              clear hT hTb
              generalize l[0] = s at *
              generalize bs (txt (l.take 0)) = A at *
              generalize bs s = B at *
              have z1 : ¬ 9223372036854775807 < A.size + B.size := by omega
              go_wp2_with fail
              go_roundw
              case rel => exact ⟨0 + 1, by omega, by go_num, by rw [HT.out], g4⟩
              case measure => simp [intOf]; omega
            · have hT := txt_succ l k (by omega) hlt
              have hTb : bs (txt (l.take k)) ++ (⟨#[47]⟩ : ByteArray) ++ bs l[k] = bs (txt (l.take (k + 1))) := by
                have e1 : (⟨#[47]⟩ : ByteArray) = bs [47] := rfl
                rw [e1, bs_append, bs_append, hT]
              have HT := Lib.hid hTb
              have hkp : (0 : Int) < (k : Int) := by omega
              clear hT hTb
              generalize l[k] = s at *
              generalize bs (txt (l.take k)) = A at *
              generalize bs s = B at *
              have z0 : ¬ 9223372036854775807 < A.size + 1 := by omega
              have z1 : ¬ 9223372036854775807 < A.size + 1 + B.size := by omega
              go_wp2_with fail
              go_roundw
              case rel => exact ⟨k + 1, by omega, by go_num, by rw [HT.out], g4⟩
              case measure => simp [intOf]; omega
          · obtain rfl : k = l.length := by omega
            rw [List.take_length]
            go_wp2_with fail
            go_ret2
            subst hX
            exact ⟨rfl, g4⟩
end Go.Proofs.YtffhakomnkicoaaDoor
