/- The statements' small functions at a table of the call's own; works. No condition. -/
import Derived.Test.YtjodkgbpbibfbaaDdI
namespace Go.Proofs.Ytjodkgbpbibfbaa
open Go.RowKit

section
variable {n0 b : Nat} {w0 w : World} {T T' : TbV}
theorem u_adds {s : List UInt8} {z : Int} {id : Nat} (e : T.add s z = (T', id, 0)) (hs : s.length ≤ 1000) (hz : -9223372036854775808 ≤ z ∧ z ≤ 9223372036854775807) (hl : T.L.length ≤ 900000) (hn : n0 ≤ w0.heap.size) (h : TabU n0 w0 w b T) :
    Calls Try.prog 23 #[.pointer (some ⟨b, 0, none⟩), .string (bs s), .int .i64 z, .int .u32 (id : Nat)] w fun e w' => e = .returned (.bool true) ∧ TabU n0 w0 w' b T' := by
  obtain ⟨fp, h1, h2⟩ := h.step (Nat.le_trans hn h.size)
  have hc := tadd_any b s z T fp (by omega) hz hl w h1
  rw [e] at hc
  have := adds_any (.pointer (some ⟨b, 0, none⟩)) s z id 0 id (fun w' => TabU n0 w0 w' b T') w (hc.mono fun e w' ⟨h3, h4⟩ => ⟨h3, h2 _ _ h4⟩)
  simp only [decide_true, Bool.and_self] at this
  exact this
theorem u_refused {s : List UInt8} {er : Nat} (e : T.add s 0 = (T', 0, er)) (hs : s.length ≤ 1000) (hl : T.L.length ≤ 900000) (hn : n0 ≤ w0.heap.size) (h : TabU n0 w0 w b T) :
    Calls Try.prog 28 #[.pointer (some ⟨b, 0, none⟩), .string (bs s), .int .i64 (er : Nat)] w fun e w' => e = .returned (.bool true) ∧ TabU n0 w0 w' b T' := by
  obtain ⟨fp, h1, h2⟩ := h.step (Nat.le_trans hn h.size)
  have hc := tadd_any b s 0 T fp (by omega) (by omega) hl w h1
  rw [e] at hc
  have := refused_any (.pointer (some ⟨b, 0, none⟩)) s 0 er er (fun w' => TabU n0 w0 w' b T') w (hc.mono fun e w' ⟨h3, h4⟩ => ⟨h3, h2 _ _ h4⟩)
  simp only [decide_true, Bool.and_self] at this
  exact this
theorem finds_fid {fp : Nat → Prop} (s : List UInt8) (hs : s.length ≤ 9223372036854775807) (hl : T.L.length ≤ 900000) (i : Nat) (e : (T.fid s).getD 0 = i) (h : TabM w b T fp) :
    Calls Try.prog 25 #[.pointer (some ⟨b, 0, none⟩), .string (bs s), .int .u32 (i : Nat)] w fun e w' => e = .returned (.bool true) ∧ Frm (fun _ => False) w w' := by
  have hc := tfind_any b s T fp hs hl w h
  cases hf : T.fid s with
  | none =>
    rw [hf] at hc e
    have e : 0 = i := e
    subst e
    have := finds_any (.pointer (some ⟨b, 0, none⟩)) s 0 0 false _ w hc
    exact this
  | some k =>
    rw [hf] at hc e
    have e : k = i := e
    subst e
    have hp : 0 < k := by
      obtain ⟨x, hx, _, e2⟩ := (TbV.fid_iff h.ok _ _).1 hf
      have := (h.ok.ch x hx).i1
      omega
    have := finds_any (.pointer (some ⟨b, 0, none⟩)) s k k true _ w hc
    simp only [decide_eq_true hp, decide_true] at this
    exact this
theorem u_finds {s : List UInt8} {i : Nat} (e : (T.fid s).getD 0 = i) (hs : s.length ≤ 1000) (hl : T.L.length ≤ 900000) (h : TabU n0 w0 w b T) :
    Calls Try.prog 25 #[.pointer (some ⟨b, 0, none⟩), .string (bs s), .int .u32 (i : Nat)] w fun e w' => e = .returned (.bool true) ∧ TabU n0 w0 w' b T := by
  have h0 := h
  obtain ⟨fp, h1, h2⟩ := h
  exact (finds_fid s (by omega) hl i e h1).mono fun e w' ⟨h3, h4⟩ => ⟨h3, h0.keepF h4⟩
theorem u_rel {i : Nat} {last : Bool} {er : Nat} (e : T.rel i = (T', last, er)) (hi : i ≤ 4294967295) (hl : T.L.length ≤ 900000) (hn : n0 ≤ w0.heap.size) (h : TabU n0 w0 w b T) :
    Calls Try.prog 24 #[.pointer (some ⟨b, 0, none⟩), .int .u32 (i : Nat), .bool last, .int .i64 (er : Nat)] w fun e w' => e = .returned (.bool true) ∧ TabU n0 w0 w' b T' := by
  obtain ⟨fp, h1, h2⟩ := h.step (Nat.le_trans hn h.size)
  have hc := trel_any b i T fp hi hl w h1
  rw [e] at hc
  have := releases_any (.pointer (some ⟨b, 0, none⟩)) i er er last last (fun w' => TabU n0 w0 w' b T') w (hc.mono fun e w' ⟨h3, h4⟩ => ⟨h3, h2 _ _ h4⟩)
  simp only [beq_self_eq_true, decide_true, Bool.and_self] at this
  exact this
theorem u_hold {i er : Nat} (e : T.hold i = (T', er)) (hi : i ≤ 4294967295) (hl : T.L.length ≤ 900000) (hn : n0 ≤ w0.heap.size) (h : TabU n0 w0 w b T) :
    Calls Try.prog 21 #[.pointer (some ⟨b, 0, none⟩), .int .u32 (i : Nat)] w fun e w' => e = .returned (.int .i64 (er : Nat)) ∧ TabU n0 w0 w' b T' := by
  obtain ⟨fp, h1, h2⟩ := h.step (Nat.le_trans hn h.size)
  have hc := thold_any b i T fp hi hl w h1
  rw [e] at hc
  exact hc.mono fun e w' ⟨h3, h4⟩ => ⟨h3, h2 _ _ h4⟩
theorem u_load {i : Nat} {s : List UInt8} {z q : Int} {er : Nat} (e : T.load i s z q = (T', er)) (hi : i ≤ 4294967295) (hs : s.length ≤ 1000) (hz : -9223372036854775808 ≤ z ∧ z ≤ 9223372036854775807) (hq : -9223372036854775808 ≤ q ∧ q ≤ 9223372036854775807) (hl : T.L.length ≤ 900000) (hn : n0 ≤ w0.heap.size) (h : TabU n0 w0 w b T) :
    Calls Try.prog 27 #[.pointer (some ⟨b, 0, none⟩), .int .u32 (i : Nat), .string (bs s), .int .i64 z, .int .i64 q] w fun e w' => e = .returned (.int .i64 (er : Nat)) ∧ TabU n0 w0 w' b T' := by
  obtain ⟨fp, h1, h2⟩ := h.step (Nat.le_trans hn h.size)
  have hc := tload_any b i s z q T fp hi (by omega) hz hq hl w h1
  rw [e] at hc
  exact hc.mono fun e w' ⟨h3, h4⟩ => ⟨h3, h2 _ _ h4⟩
theorem u_skip {i : Nat} (e : T.skip i = T') (hi : i ≤ 4294967295) (hn : n0 ≤ w0.heap.size) (h : TabU n0 w0 w b T) :
    Calls Try.prog 15 #[.pointer (some ⟨b, 0, none⟩), .int .u32 (i : Nat)] w fun e w' => e = .returned (.tuple #[]) ∧ TabU n0 w0 w' b T' := by
  obtain ⟨fp, h1, h2⟩ := h.step (Nat.le_trans hn h.size)
  have hc := tskip_any b i T fp hi w h1
  rw [e] at hc
  exact hc.mono fun e w' ⟨h3, h4, h5, h6⟩ => ⟨h3, h2 _ _ ⟨fp, h4, h5, fun k hk => .inl hk⟩⟩
theorem u_count {k : Nat} (e : T.L.length = k) (h : TabU n0 w0 w b T) :
    Calls Try.prog 31 #[.pointer (some ⟨b, 0, none⟩)] w fun e w' => e = .returned (.int .i64 (k : Nat)) ∧ TabU n0 w0 w' b T := by
  have h0 := h
  obtain ⟨fp, h1, _⟩ := h
  have hc := tcount_any b T fp w h1
  rw [e] at hc
  refine hc.mono ?_
  rintro e w' ⟨h3, rfl⟩
  exact ⟨h3, h0⟩
theorem u_next {k : Nat} (e : T.nx = k) (h : TabU n0 w0 w b T) :
    Calls Try.prog 26 #[.pointer (some ⟨b, 0, none⟩)] w fun e w' => e = .returned (.int .u32 (k : Nat)) ∧ TabU n0 w0 w' b T := by
  have h0 := h
  obtain ⟨fp, h1, _⟩ := h
  have hc := tnext_any b T fp w h1
  rw [e] at hc
  refine hc.mono ?_
  rintro e w' ⟨h3, rfl⟩
  exact ⟨h3, h0⟩
theorem u_get {i : Nat} {x : ChV} (e : T.get i = some x) (hi : i ≤ 4294967295) (h : TabU n0 w0 w b T) :
    Calls Try.prog 30 #[.pointer (some ⟨b, 0, none⟩), .int .u32 (i : Nat)] w fun e w' => e = .returned (.tuple #[.string (bs x.s), .int .i64 x.b, .int .i64 (x.r : Nat), .bool true]) ∧ TabU n0 w0 w' b T := by
  have h0 := h
  obtain ⟨fp, h1, _⟩ := h
  have hc := get_any b i T fp hi w h1
  rw [e] at hc
  exact hc.mono fun e w' ⟨h3, h4⟩ => ⟨h3, h0.keepF h4⟩
theorem u_new (w0 w : World) (f : Frm (n0 ≤ ·) w0 w) (hn : n0 ≤ w0.heap.size) : Calls Try.prog 9 #[] w fun e w' => ∃ b, e = .returned (.pointer (some ⟨b, 0, none⟩)) ∧ TabU n0 w0 w' b TbV.new := by
  have := f.size
  exact (tnew_any w).mono fun e w' ⟨v, h3, b, fp, h4, h5, h6, h7⟩ => ⟨b, by rw [h3, h4], fp, h5, fun k hk => by have := h6 k hk; omega, f.trans (h7.mono fun _ _ h => h.elim)⟩
end
instance : DecidableEq TbV := fun a b => decidable_of_iff (a.L = b.L ∧ a.nx = b.nx) ⟨fun ⟨h1, h2⟩ => by cases a; cases b; cases h1; cases h2; rfl, fun h => by rw [h]; exact ⟨rfl, rfl⟩⟩
def kT1 : TbV := ⟨[⟨1, [97, 98], 7, 1⟩], 2⟩
def kT2 : TbV := ⟨[⟨1, [97, 98], 7, 1⟩, ⟨2, [99, 100], 8, 1⟩], 3⟩
set_option maxRecDepth 100000 in
set_option maxHeartbeats 2000000 in
theorem works16_any (w : World) : Calls Try.prog 8 #[] w fun e w' => e = .returned (.bool true) ∧ Frm (fun _ => False) w w' := by
  have hn : w.heap.size ≤ w.heap.size := Nat.le_refl _
  have HN := Lib.hid hn
  clear hn
  go_enter Try.func8, Try.ntmps8
  go_wp2_with fail
  refine (u_new (n0 := w.heap.size) w w (Frm.refl _ _) HN.out).mono ?_
  rintro e w1 ⟨b, rfl, h1⟩
  have H1 := Lib.hid h1
  clear h1
  go_wp2_with fail
  refine (u_adds (T' := kT1) (s := [97, 98]) (z := 7) (id := 1) (by decide +kernel) (by decide) (by decide) (by decide) HN.out H1.out).mono ?_
  rintro e w2 ⟨rfl, h2⟩
  have H2 := Lib.hid h2
  clear h2 H1
  go_wp2_with fail
  refine (u_adds (T' := kT2) (s := [99, 100]) (z := 8) (id := 2) (by decide +kernel) (by decide) (by decide) (by decide) HN.out H2.out).mono ?_
  rintro e w3 ⟨rfl, h3⟩
  have H3 := Lib.hid h3
  clear h3 H2
  go_wp2_with fail
  refine (u_refused (T' := kT2) (s := [97, 98]) (er := 6) (by decide +kernel) (by decide) (by decide) HN.out H3.out).mono ?_
  rintro e w4 ⟨rfl, h4⟩
  have H4 := Lib.hid h4
  clear h4 H3
  go_wp2_with fail
  refine (u_finds (s := [97, 98]) (i := 1) (by decide +kernel) (by decide) (by decide) H4.out).mono ?_
  rintro e w5 ⟨rfl, h5⟩
  have H5 := Lib.hid h5
  clear h5 H4
  go_wp2_with fail
  refine (u_finds (s := [120]) (i := 0) (by decide +kernel) (by decide) (by decide) H5.out).mono ?_
  rintro e w6 ⟨rfl, h6⟩
  have H6 := Lib.hid h6
  clear h6 H5
  go_wp2_with fail
  refine (u_count (k := 2) rfl H6.out).mono ?_
  rintro e w7 ⟨rfl, h7⟩
  go_wp2_with fail
  go_ret
  exact ⟨rfl, h7.frm.mono fun k hk e => by omega⟩
end Go.Proofs.Ytjodkgbpbibfbaa
