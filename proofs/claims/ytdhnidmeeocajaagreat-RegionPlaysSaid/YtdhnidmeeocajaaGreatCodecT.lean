/- Plain words on a text made into bytes, and bytes made into a text. No condition. -/
import Derived.Test.YtdhnidmeeocajaaGreatRow
import Derived.Lib.ConvBytes
section
namespace Go.Proofs.YtdhnidmeeocajaaGreat
open Go.RowKit
/-- Bytes, as cells. -/
def u8s (l : List UInt8) : List Value := l.map fun b => .int .u8 b.toNat
theorem u8s_length (l : List UInt8) : (u8s l).length = l.length := by simp [u8s]
theorem u8s_append (a b : List UInt8) : u8s (a ++ b) = u8s a ++ u8s b := by simp [u8s]
theorem u8s_get (l : List UInt8) (k : Nat) (h : k < l.length) : (u8s l)[k]? = some (.int .u8 l[k].toNat) := by simp [u8s, h]
theorem run_bytes_of {P : Program} {src dst e : TypeId} {u : TypeDesc} (hs : P.underlying src = some u) (hd : P.underlying dst = some (.slice e)) (he : P.underlying e = some (.int .u8)) (l : List UInt8) (w : World) (hl : l.length ≤ maxLen) :
    ∃ cap w', (convert src dst (.string (bs l))).run P w = .ok (.slice (some ⟨w.heap.size, 0, none⟩) l.length cap) w' ∧ Row w' 1 (.slice (some ⟨w.heap.size, 0, none⟩) l.length cap) l.length (u8s l) ∧ w.grownBy w' none ∧ w'.heap.size = w.heap.size + 1 := by
  have hcap := grownCap_ge w l.length 0 e
  have hmax := grownCap_le_maxLen w l.length 0 e hl
  have hnew := Lib.bytesWorld_at_new w e (bs l)
  have hcs : (Lib.bytesCells w e (bs l)).size = grownCap w l.length 0 e := by
    simp only [Lib.bytesCells, Array.size_append, Array.size_map, Array.size_replicate, bs_size]
    have : (bs l).data.size = l.length := rfl
    omega
  refine ⟨_, _, Lib.run_convert_string_bytes (P := P) w src dst e (bs l) hs hd he, ⟨by simp [u8s], .inr ⟨_, _, rfl, hcap, hmax, ⟨_, hnew, rfl⟩, fun j hj => ?_, fun j hj => ?_⟩⟩, ⟨rfl, rfl, rfl, by rw [Lib.bytesWorld_size]; omega, fun k hk _ => Lib.bytesWorld_at_old w e (bs l) k hk⟩, Lib.bytesWorld_size w e (bs l)⟩
  · rw [Lib.bytesWorld_cell w e (bs l) j (by simpa [bs_size] using hj), u8s_get l j (by simpa using hj)]
    have hj' : j < l.length := by simpa using hj
    simp [bs, hj']
  · refine ⟨?_, ?_⟩
    · simp only [World.cell?, hnew]
      have : j < (Lib.bytesCells w e (bs l)).size := by rw [hcs]; simpa [bs_size] using hj
      simp [this]
    · simp only [World.frozen?, hnew, hcs]
      have : j < grownCap w l.length 0 e := by simpa [bs_size] using hj
      simp; omega

theorem foldl_push (l : List UInt8) : ∀ (s : ByteArray), (l.map fun b : UInt8 => ((b.toNat : Nat) : Int)).foldl (fun r n => r.push (UInt8.ofNat n.toNat)) s = s ++ bs l := by
  induction l with
  | nil => intro s; apply ByteArray.ext; simp [bs]
  | cons a l ih =>
    intro s
    rw [List.map_cons, List.foldl_cons, ih]
    apply ByteArray.ext
    apply Array.ext'
    simp [bs]

theorem run_loadCells_row {P : Program} {w : World} {g n : Nat} {xs : List Value} (hl : xs.length = n) (h : ∀ j, j < n → w.cell? ⟨g, j, none⟩ = xs[j]?) : (loadCells ⟨g, 0, none⟩ n).run P w = .ok xs.toArray w := by
  subst hl
  refine run_loadCells_list (P := P) w ⟨g, 0, none⟩ xs fun j u hu => ?_
  have hj : j < xs.length := by
    rcases Nat.lt_or_ge j xs.length with h | h
    · exact h
    · rw [List.getElem?_eq_none h] at hu; cases hu
  have hadd : (⟨g, 0, none⟩ : Addr).add j = ⟨g, j, none⟩ := by unfold Addr.add; split <;> simp_all
  rw [hadd, h j (by omega), hu]

/-- The first n bytes behind an address, made into a text. -/
theorem run_text_at {P : Program} {src dst e : TypeId} (hs : P.underlying src = some (.slice e)) (hd : P.underlying dst = some .string) (he : P.underlying e = some (.int .u8)) (w : World) (g n cap : Nat) (l : List UInt8) (hl : l.length = n)
    (h : ∀ j, j < n → w.cell? ⟨g, j, none⟩ = (u8s l)[j]?) : (convert src dst (.slice (some ⟨g, 0, none⟩) n cap)).run P w = .ok (.string (bs l)) w := by
  rw [run_convert_bytes_string (P := P) w src dst e _ _ _ hs he hd]
  have hload := run_loadCells_row (P := P) (w := w) (g := g) (n := n) (xs := u8s l) (by simp [u8s, hl]) h
  have hns : u8s l = (l.map fun b : UInt8 => ((b.toNat : Nat) : Int)).map (Value.int .u8) := by simp [u8s]
  rw [hns] at hload
  rw [run_bytesToString (P := P) w ⟨g, 0, none⟩ n cap _ hload, foldl_push]
  congr 2

theorem run_text_of {P : Program} {src dst e : TypeId} (hs : P.underlying src = some (.slice e)) (hd : P.underlying dst = some .string) (he : P.underlying e = some (.int .u8)) (w : World) (v : Value) (l : List UInt8) (h : Row w 1 v l.length (u8s l)) :
    (convert src dst v).run P w = .ok (.string (bs l)) w := by
  rcases h.2 with ⟨rfl, h0⟩ | ⟨g, cap, rfl, _, _, _, h4, _⟩
  · obtain rfl : l = [] := List.eq_nil_of_length_eq_zero h0
    simp [convert, run_underlying hs, run_underlying hd, run_underlying he, Conv.bytesToString, bs]
    rfl
  · exact run_text_at hs hd he w g l.length cap l rfl fun j hj => h4 j (by simpa using hj)
end Go.Proofs.YtdhnidmeeocajaaGreat
end
section
namespace Go.Proofs.YtdhnidmeeocajaaGreat
open Go.RowKit
/-- The number that bytes are, the highest one first. -/
def beN (l : List UInt8) : Nat := l.foldl (fun n b => 256 * n + b.toNat) 0
theorem beN_snoc (l : List UInt8) (b : UInt8) : beN (l ++ [b]) = 256 * beN l + b.toNat := by simp [beN]
theorem beN_lt (k : Nat) : ∀ l : List UInt8, l.length ≤ k → beN l < 256 ^ k := by
  induction k with
  | zero =>
    intro l hk
    obtain rfl : l = [] := List.eq_nil_of_length_eq_zero (by omega)
    decide
  | succ k ih =>
    intro l hk
    rcases List.eq_nil_or_concat l with rfl | ⟨l', b, rfl⟩
    · exact Nat.pow_pos (by omega)
    · rw [List.concat_eq_append, beN_snoc]
      simp only [List.concat_eq_append, List.length_append, List.length_cons, List.length_nil] at hk
      have := ih l' (by omega)
      have hb := b.toNat_lt
      rw [Nat.pow_succ]
      omega
theorem take_snoc (l : List UInt8) (k : Nat) (h : k < l.length) : l.take (k + 1) = l.take k ++ [l[k]] := by
  rw [List.take_succ_eq_append_getElem h]
theorem Row.u8 {w : World} {g n cap : Nat} {s : List UInt8} (h : Row w 1 (.slice (some ⟨g, 0, none⟩) n cap) s.length (u8s s)) (k : Nat) (hk : k < s.length) : w.cell? ⟨g, k, none⟩ = some (.int .u8 s[k].toNat) := by
  rcases h.2 with ⟨hv, _⟩ | ⟨g', cap', hv, _, _, _, h4, _⟩
  · cases hv
  · cases hv
    rw [h4 k (by simpa using hk), u8s_get s k hk]
theorem nextS_len (n : Nat) (l : List UInt8) (e : Nat) : (nextS n l e).1.length ≤ n := by
  unfold nextS
  split
  · simp; omega
  · simp

theorem shl8_or (a : Nat) (b : UInt8) (ha : a < 16777216) : bits BinOp.or IntKind.u32 (↑a * 256 % 4294967296) ↑b.toNat = ((256 * a + b.toNat : Nat) : Int) := by
  have hb := b.toNat_lt
  have e : ((a : Int) * 256 % 4294967296) = ((256 * a : Nat) : Int) := by omega
  rw [e, u32_or_nat _ _ (by omega) (by omega), nat_join 8 _ _ (by omega) (by omega)]
theorem beN_step (l : List UInt8) (k : Nat) (h : k < l.length) (h4 : l.length ≤ 4) : bits BinOp.or IntKind.u32 (↑(beN (l.take k)) * 256 % 4294967296) ↑l[k].toNat = ((beN (l.take (k + 1)) : Nat) : Int) := by
  have h1 : beN (l.take k) < 256 ^ 3 := beN_lt 3 _ (by rw [List.length_take]; omega)
  rw [take_snoc l k h, beN_snoc, shl8_or _ _ (by omega)]

/-- What reading a number of n bytes does. -/
def numS (n : Nat) (l : List UInt8) (e : Nat) : Nat × List UInt8 × Nat := (beN (nextS n l e).1, (nextS n l e).2)

set_option maxRecDepth 100000 in
set_option maxHeartbeats 400000 in
theorem take_u8 (b : Nat) (l : List UInt8) (e : Nat) (w : World) (h : Rd w b l e) :
    Calls Tryz.prog 142 #[.pointer (some ⟨b, 0, none⟩)] w fun r w' =>
      r = .returned (.int .u8 (numS 1 l e).1) ∧ Rd w' b (numS 1 l e).2.1 (numS 1 l e).2.2 ∧ Frm (· = b) w w' := by
  have hlen := nextS_len 1 l e
  have hnum : beN (nextS 1 l e).1 < 256 := beN_lt 1 _ hlen
  go_enter Tryz.func142, Tryz.ntmps142
  go_wp2_with (first | (go_at_call 147; refine (width8 _).mono ?_; rintro r w' ⟨rfl, rfl⟩) | (go_at_call 124; refine (next_any b l e 1 _ h (by omega)).mono ?_; rintro r w1 ⟨rfl, h1, h2⟩))
  obtain ⟨s, hs⟩ : ∃ s, (nextS 1 l e).1 = s := ⟨_, rfl⟩
  rw [hs] at hlen hnum ⊢
  have Hs := Lib.hid hs
  clear hs
  obtain ⟨cap, w2, hrun, hrow, hg, hz⟩ := run_bytes_of (P := Tryz.prog) Tryz.underlying9 Tryz.underlying77 Tryz.underlying5 s w1 (by unfold maxLen; omega)
  rw [hrun]
  clear hrun
  have h3 : Rd w2 b (nextS 1 l e).2.1 (nextS 1 l e).2.2 := h1.keep ((Frm.refl (fun _ => False) w1).grown hg (fun _ _ e => by cases e)) (fun e => e)
  have h4 : Frm (· = b) w w2 := h2.grown hg (fun _ _ e => by cases e)
  clear h1 h2 hg hz
  go_wp2
  go_loop [3, 12] (fun n i => ∃ k : Nat, k ≤ s.length ∧ i = .int .i64 k ∧ n = .int .u32 (beN (s.take k))) (fun _ i => s.length - (intOf i).toNat)
  case atStart => exact ⟨0, Nat.zero_le _, rfl, rfl⟩
  case round =>
    obtain ⟨k, hk, rfl, rfl⟩ := hrel
    by_cases hlt : k < s.length
    · have hc := hrow.u8 k hlt
      have hb := s[k].toNat_lt
      go_wp2
      go_round
      case rel => exact ⟨k + 1, by omega, by go_num, by rw [beN_step s k hlt (by omega)]⟩
      case measure => simp [intOf]; omega
    · have he : k = s.length := by omega
      subst he
      go_wp2
      go_ret
      refine ⟨ret_int ?_, h3, h4⟩
      show _ = ((beN (nextS 1 l e).1 : Nat) : Int)
      rw [Hs.out]

set_option maxRecDepth 100000 in
set_option maxHeartbeats 400000 in
theorem take_u16 (b : Nat) (l : List UInt8) (e : Nat) (w : World) (h : Rd w b l e) :
    Calls Tryz.prog 141 #[.pointer (some ⟨b, 0, none⟩)] w fun r w' =>
      r = .returned (.int .u16 (numS 2 l e).1) ∧ Rd w' b (numS 2 l e).2.1 (numS 2 l e).2.2 ∧ Frm (· = b) w w' := by
  have hlen := nextS_len 2 l e
  have hnum : beN (nextS 2 l e).1 < 65536 := beN_lt 2 _ hlen
  go_enter Tryz.func141, Tryz.ntmps141
  go_wp2_with (first | (go_at_call 146; refine (width16 _).mono ?_; rintro r w' ⟨rfl, rfl⟩) | (go_at_call 124; refine (next_any b l e 2 _ h (by omega)).mono ?_; rintro r w1 ⟨rfl, h1, h2⟩))
  obtain ⟨s, hs⟩ : ∃ s, (nextS 2 l e).1 = s := ⟨_, rfl⟩
  rw [hs] at hlen hnum ⊢
  have Hs := Lib.hid hs
  clear hs
  obtain ⟨cap, w2, hrun, hrow, hg, hz⟩ := run_bytes_of (P := Tryz.prog) Tryz.underlying9 Tryz.underlying77 Tryz.underlying5 s w1 (by unfold maxLen; omega)
  rw [hrun]
  clear hrun
  have h3 : Rd w2 b (nextS 2 l e).2.1 (nextS 2 l e).2.2 := h1.keep ((Frm.refl (fun _ => False) w1).grown hg (fun _ _ e => by cases e)) (fun e => e)
  have h4 : Frm (· = b) w w2 := h2.grown hg (fun _ _ e => by cases e)
  clear h1 h2 hg hz
  go_wp2
  go_loop [3, 12] (fun n i => ∃ k : Nat, k ≤ s.length ∧ i = .int .i64 k ∧ n = .int .u32 (beN (s.take k))) (fun _ i => s.length - (intOf i).toNat)
  case atStart => exact ⟨0, Nat.zero_le _, rfl, rfl⟩
  case round =>
    obtain ⟨k, hk, rfl, rfl⟩ := hrel
    by_cases hlt : k < s.length
    · have hc := hrow.u8 k hlt
      have hb := s[k].toNat_lt
      go_wp2
      go_round
      case rel => exact ⟨k + 1, by omega, by go_num, by rw [beN_step s k hlt (by omega)]⟩
      case measure => simp [intOf]; omega
    · have he : k = s.length := by omega
      subst he
      go_wp2
      go_ret
      refine ⟨ret_int ?_, h3, h4⟩
      show _ = ((beN (nextS 2 l e).1 : Nat) : Int)
      rw [Hs.out]

set_option maxRecDepth 100000 in
set_option maxHeartbeats 400000 in
theorem take_u32 (b : Nat) (l : List UInt8) (e : Nat) (w : World) (h : Rd w b l e) :
    Calls Tryz.prog 123 #[.pointer (some ⟨b, 0, none⟩)] w fun r w' =>
      r = .returned (.int .u32 (numS 4 l e).1) ∧ Rd w' b (numS 4 l e).2.1 (numS 4 l e).2.2 ∧ Frm (· = b) w w' := by
  have hlen := nextS_len 4 l e
  have hnum : beN (nextS 4 l e).1 < 4294967296 := beN_lt 4 _ hlen
  go_enter Tryz.func123, Tryz.ntmps123
  go_wp2_with (first | (go_at_call 139; refine (width32 _).mono ?_; rintro r w' ⟨rfl, rfl⟩) | (go_at_call 124; refine (next_any b l e 4 _ h (by omega)).mono ?_; rintro r w1 ⟨rfl, h1, h2⟩))
  obtain ⟨s, hs⟩ : ∃ s, (nextS 4 l e).1 = s := ⟨_, rfl⟩
  rw [hs] at hlen hnum ⊢
  have Hs := Lib.hid hs
  clear hs
  obtain ⟨cap, w2, hrun, hrow, hg, hz⟩ := run_bytes_of (P := Tryz.prog) Tryz.underlying9 Tryz.underlying77 Tryz.underlying5 s w1 (by unfold maxLen; omega)
  rw [hrun]
  clear hrun
  have h3 : Rd w2 b (nextS 4 l e).2.1 (nextS 4 l e).2.2 := h1.keep ((Frm.refl (fun _ => False) w1).grown hg (fun _ _ e => by cases e)) (fun e => e)
  have h4 : Frm (· = b) w w2 := h2.grown hg (fun _ _ e => by cases e)
  clear h1 h2 hg hz
  go_wp2
  go_loop [3, 12] (fun n i => ∃ k : Nat, k ≤ s.length ∧ i = .int .i64 k ∧ n = .int .u32 (beN (s.take k))) (fun _ i => s.length - (intOf i).toNat)
  case atStart => exact ⟨0, Nat.zero_le _, rfl, rfl⟩
  case round =>
    obtain ⟨k, hk, rfl, rfl⟩ := hrel
    by_cases hlt : k < s.length
    · have hc := hrow.u8 k hlt
      have hb := s[k].toNat_lt
      go_wp2
      go_round
      case rel => exact ⟨k + 1, by omega, by go_num, by rw [beN_step s k hlt (by omega)]⟩
      case measure => simp [intOf]; omega
    · have he : k = s.length := by omega
      subst he
      go_wp2
      go_ret
      refine ⟨ret_int ?_, h3, h4⟩
      show _ = ((beN (nextS 4 l e).1 : Nat) : Int)
      rw [Hs.out]
end Go.Proofs.YtdhnidmeeocajaaGreat
end
