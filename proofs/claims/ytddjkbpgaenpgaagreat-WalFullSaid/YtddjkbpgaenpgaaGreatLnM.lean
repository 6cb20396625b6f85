/- What the functions of package region that make and read blocks answer. No condition. -/
import Derived.Test.YtddjkbpgaenpgaaGreatRgA
import Derived.Test.YtddjkbpgaenpgaaGreatCodecV
import Derived.Test.YtddjkbpgaenpgaaGreatRefR
import Derived.LoopN
import Derived.Test.YtddjkbpgaenpgaaGreatDvF
import Derived.Test.YtddjkbpgaenpgaaGreatDvI
import Derived.Test.YtddjkbpgaenpgaaGreatDvJ
import Derived.LaidEqlPtr
import Derived.Lib.AppendZeros
section
namespace Go.Proofs.YtddjkbpgaenpgaaGreat
open Go.RowKit Go.Shelf

theorem needs_int (n : Int) : ((needs n.toNat : Nat) : Int) = (max n 1 - 1).tdiv 58 + 1 := by
  unfold needs
  rw [Int.tdiv_eq_ediv_of_nonneg (by omega)]
  omega
set_option maxRecDepth 100000 in
set_option maxHeartbeats 1000000 in
theorem needs_any (n : Int) (w : World) (h : Z64 n) :
    Calls Tryz.prog 24 #[.int .i64 n] w fun e w' => e = .returned (.int .i64 (needs n.toNat : Nat)) ∧ w = w' := by
  have hn := needs_int n
  have h1 : IntKind.i64.wrap (max n 1 - 1) = max n 1 - 1 := IntWalk.i64_in _ (by unfold Z64 at h; omega)
  have h2 : IntKind.i64.wrap ((max n 1 - 1).tdiv 58) = (max n 1 - 1).tdiv 58 := IntWalk.i64_in _ (by rw [Int.tdiv_eq_ediv_of_nonneg (by omega)]; unfold Z64 at h; omega)
  have h3 : IntKind.i64.wrap ((max n 1 - 1).tdiv 58 + 1) = (max n 1 - 1).tdiv 58 + 1 := IntWalk.i64_in _ (by rw [Int.tdiv_eq_ediv_of_nonneg (by omega)]; unfold Z64 at h; omega)
  go_enter Tryz.func24, Tryz.ntmps24
  go_wp2_with fail
  go_ret
  exact ⟨by rw [hn]; rfl, rfl⟩
set_option maxRecDepth 100000 in
set_option maxHeartbeats 1000000 in
theorem rgzeros_any (c : Nat) (w : World) (hc : c ≤ 64) : Calls Tryz.prog 128 #[.int .i64 (c : Nat)] w fun e w' => e = .returned (.string (bs (nul c))) ∧ Frm (fun _ => False) w w' := by
  have HZ := Lib.hid (zeros_any c w hc)
  go_enter Tryz.func128, Tryz.ntmps128
  go_wp2_with fail
  refine HZ.out.mono ?_
  rintro e w1 ⟨rfl, g⟩
  go_wp2_with fail
  go_ret
  exact ⟨rfl, g⟩
set_option maxRecDepth 100000 in
set_option maxHeartbeats 1000000 in
theorem blank_any (s : List UInt8) (w : World) (hs : s.length ≤ 64) : Calls Tryz.prog 161 #[.string (bs s)] w fun e w' => e = .returned (.bool (decide (s = nul s.length))) ∧ Frm (fun _ => False) w w' := by
  have HZ := rgzeros_any s.length w hs
  have hsz : (bs s).size = s.length := rfl
  obtain ⟨n, hn⟩ : ∃ n, s.length = n := ⟨_, rfl⟩
  rw [hn] at HZ hs hsz ⊢
  have HZ := Lib.hid HZ
  have hb : ((bs s).toList == (bs (nul n)).toList) = decide (s = nul n) := by
    rw [bs_toList, bs_toList]
    rw [Bool.eq_iff_iff]
    simp
  clear hn
  go_enter Tryz.func161, Tryz.ntmps161
  go_wp2_with fail
  refine HZ.out.mono ?_
  rintro e w1 ⟨rfl, g⟩
  go_wp2_with fail
  go_ret
  exact ⟨rfl, g⟩
/-- A writer that a call made. -/
structure OwnW (w W : World) (b : Nat) (s : List UInt8) : Prop where
  wr : ∃ fp, Wr W b s fp ∧ ∀ k ∈ fp, w.heap.size ≤ k
  frm : Frm (fun _ => False) w W
theorem OwnW.start (w : World) : OwnW w (w.alloc (.cells #[.pointer none, .int .i64 0] 175)) w.heap.size [] :=
  ⟨⟨[w.heap.size], Wr.zero (Blk.alloc w _ _), fun k hk => by rw [List.mem_singleton.1 hk]; exact Nat.le_refl _⟩, (Frm.refl _ w).alloc _⟩
theorem OwnW.via {w W : World} {b : Nat} {s t : List UInt8} (h : OwnW w W b s) {F : FuncId} {args : Array Value} (hc : ∀ fp, Wr W b s fp → Calls Tryz.prog F args W (WrTo b t fp W)) :
    Calls Tryz.prog F args W fun e W' => e = .returned (.tuple #[]) ∧ OwnW w W' b t := by
  obtain ⟨⟨fp, h1, h2⟩, h3⟩ := h
  refine (hc fp h1).mono ?_
  rintro e W' ⟨rfl, fp', k1, k2, k3⟩
  exact ⟨rfl, ⟨fp', k1, fun k hk => (k3 k hk).elim (h2 k) fun e => Nat.le_trans h3.size e⟩, h3.next k2 fun k hk hY => by have := h2 k hY; omega⟩
theorem OwnW.keepF {w W W' : World} {b : Nat} {s : List UInt8} (h : OwnW w W b s) (g : Frm (fun _ => False) W W') : OwnW w W' b s := by
  obtain ⟨⟨fp, h1, h2⟩, h3⟩ := h
  exact ⟨⟨fp, h1.keep g (fun _ _ h => h), h2⟩, h3.trans g⟩
theorem OwnW.raw {w W : World} {b : Nat} {s : List UInt8} (h : OwnW w W b s) (t : List UInt8) (hl : s.length ≤ 1000000) (ht : t.length ≤ 1000000) :
    Calls Tryz.prog 127 #[.pointer (some ⟨b, 0, none⟩), .string (bs t)] W fun e W' => e = .returned (.tuple #[]) ∧ OwnW w W' b (s ++ t) :=
  h.via fun fp h1 => (raw_any b s t fp W h1 (by omega)).mono fun _ _ ⟨a, b⟩ => ⟨a, b⟩
theorem OwnW.u8 {w W : World} {b : Nat} {s : List UInt8} (h : OwnW w W b s) (n : Nat) (hn : n < 256) (hl : s.length ≤ 1000000) :
    Calls Tryz.prog 157 #[.pointer (some ⟨b, 0, none⟩), .int .u8 (n : Nat)] W fun e W' => e = .returned (.tuple #[]) ∧ OwnW w W' b (s ++ beB 1 n) :=
  h.via fun fp h1 => wu8_any b s fp n hn W h1 (by omega)
theorem OwnW.u16 {w W : World} {b : Nat} {s : List UInt8} (h : OwnW w W b s) (n : Nat) (hn : n < 65536) (hl : s.length ≤ 1000000) :
    Calls Tryz.prog 156 #[.pointer (some ⟨b, 0, none⟩), .int .u16 (n : Nat)] W fun e W' => e = .returned (.tuple #[]) ∧ OwnW w W' b (s ++ beB 2 n) :=
  h.via fun fp h1 => wu16_any b s fp n hn W h1 (by omega)
theorem OwnW.u32 {w W : World} {b : Nat} {s : List UInt8} (h : OwnW w W b s) (n : Nat) (hn : n < 4294967296) (hl : s.length ≤ 1000000) :
    Calls Tryz.prog 126 #[.pointer (some ⟨b, 0, none⟩), .int .u32 (n : Nat)] W fun e W' => e = .returned (.tuple #[]) ∧ OwnW w W' b (s ++ beB 4 n) :=
  h.via fun fp h1 => wu32_any b s fp n hn W h1 (by omega)
theorem OwnW.bytes {w W : World} {b : Nat} {s : List UInt8} (h : OwnW w W b s) :
    Calls Tryz.prog 129 #[.pointer (some ⟨b, 0, none⟩)] W fun e W' => e = .returned (.string (bs s)) ∧ Frm (fun _ => False) w W' := by
  obtain ⟨⟨fp, h1, h2⟩, h3⟩ := h
  exact (bytes_any b s fp W h1).mono fun e W' ⟨a1, a2⟩ => ⟨a1, h3.trans a2⟩
set_option maxRecDepth 100000 in
set_option maxHeartbeats 2000000 in
theorem header_any (g : Nat) (w : World) (hg : g < 4294967296) : Calls Tryz.prog 83 #[.int .u32 (g : Nat)] w fun e w' => e = .returned (.string (bs (hdB g))) ∧ Frm (fun _ => False) w w' := by
  have h0 := OwnW.start w
  have H1 := Lib.hid (h0.u32 g hg (by decide))
  clear h0
  go_enter Tryz.func83, Tryz.ntmps83
  go_wp2_with fail
  refine H1.out.mono ?_
  rintro e w1 ⟨rfl, h1⟩
  have HZ := Lib.hid (rgzeros_any 56 w1 (by decide))
  have H1' := Lib.hid h1
  clear h1 H1
  go_wp2_with fail
  refine HZ.out.mono ?_
  rintro e w2 ⟨rfl, g2⟩
  have H2 := Lib.hid ((H1'.out.keepF g2).raw (nul 56) (by simp [beB_len]) (by rw [nul_len]; decide))
  clear g2 HZ H1'
  go_wp2_with fail
  refine H2.out.mono ?_
  rintro e w3 ⟨rfl, h3⟩
  have H3 := Lib.hid (h3.u32 g hg (by simp [beB_len, nul_len]))
  clear h3 H2
  go_wp2_with fail
  refine H3.out.mono ?_
  rintro e w4 ⟨rfl, h4⟩
  have H4 := Lib.hid h4.bytes
  clear h4 H3
  go_wp2_with fail
  refine H4.out.mono ?_
  rintro e w5 ⟨rfl, g5⟩
  have G5 := Lib.hid g5
  clear g5 H4
  go_wp2_with fail
  go_ret
  exact ⟨rfl, G5.out⟩
set_option maxRecDepth 100000 in
set_option maxHeartbeats 2000000 in
theorem logBlock_any (i : Nat) (s : List UInt8) (last : Bool) (w : World) (hi : i < 65536) (hs : s.length ≤ 58) : Calls Tryz.prog 125 #[.int .i64 (i : Nat), .string (bs s), .bool last] w fun e w' => e = .returned (.string (bs (logB i (if last then 1 else 0) s))) ∧ Frm (fun _ => False) w w' := by
  have h0 := OwnW.start w
  have H1 := Lib.hid (h0.u16 i hi (by decide))
  have hw16 : IntKind.u16.wrap (i : Int) = (i : Int) := IntWalk.u16_in _ (by omega)
  have hsz : (bs s).size = s.length := rfl
  have hw8 : IntKind.u8.wrap (s.length : Int) = (s.length : Int) := IntWalk.u8_in _ (by omega)
  have hsub : (58 : Int) - (s.length : Int) = ((58 - s.length : Nat) : Int) := by omega
  have hws : IntKind.i64.wrap ((58 - s.length : Nat) : Int) = ((58 - s.length : Nat) : Int) := IntWalk.i64_in _ (by omega)
  obtain ⟨n, hn⟩ : ∃ n, s.length = n := ⟨_, rfl⟩
  have HN := Lib.hid hn
  rw [hn] at hs hsz hw8 hsub hws
  obtain ⟨m, hm⟩ : ∃ m, 58 - n = m := ⟨_, rfl⟩
  have HM := Lib.hid hm
  rw [hm] at hsub hws
  have hm64 : m ≤ 64 := by omega
  clear h0 hn hm
  go_enter Tryz.func125, Tryz.ntmps125
  go_wp2_with fail
  refine H1.out.mono ?_
  rintro e w1 ⟨rfl, h1⟩
  have HF1 := Lib.hid (h1.u8 1 (by decide) (by simp [beB_len]))
  have HF0 := Lib.hid (h1.u8 0 (by decide) (by simp [beB_len]))
  clear h1 H1
  cases last with
  | true =>
    clear HF0
    go_wp2_with fail
    refine HF1.out.mono ?_
    rintro e w2 ⟨rfl, h2⟩
    have H2 := h2.u8 n (by omega) (by simp [beB_len])
    have H2 := Lib.hid H2
    clear h2
    go_wp2_with fail
    refine H2.out.mono ?_
    rintro e w3 ⟨rfl, h3⟩
    have H3 := Lib.hid (h3.raw s (by simp [beB_len]) (by rw [HN.out]; omega))
    clear h3 H2
    go_wp2_with fail
    refine H3.out.mono ?_
    rintro e w4 ⟨rfl, h4⟩
    have H4 := Lib.hid h4
    have HZ := Lib.hid (rgzeros_any m w4 hm64)
    clear h4 H3
    go_wp2_with fail
    refine HZ.out.mono ?_
    rintro e w5 ⟨rfl, g5⟩
    have H5 := Lib.hid ((H4.out.keepF g5).raw (nul m) (by simp [beB_len]; rw [HN.out]; omega) (by rw [nul_len]; omega))
    clear g5 HZ H4
    go_wp2_with fail
    refine H5.out.mono ?_
    rintro e w6 ⟨rfl, h6⟩
    have H6 := Lib.hid (h6.u16 i hi (by simp [beB_len, nul_len]; rw [HN.out]; omega))
    clear h6 H5
    go_wp2_with fail
    refine H6.out.mono ?_
    rintro e w7 ⟨rfl, h7⟩
    have H7 := Lib.hid h7.bytes
    clear h7 H6
    go_wp2_with fail
    refine H7.out.mono ?_
    rintro e w8 ⟨rfl, g8⟩
    have G8 := Lib.hid g8
    clear g8 H7
    go_wp2_with fail
    go_ret
    refine ⟨?_, G8.out⟩
    unfold logB
    rw [HN.out, HM.out]
    rfl
  | false =>
    clear HF1
    go_wp2_with fail
    refine HF0.out.mono ?_
    rintro e w2 ⟨rfl, h2⟩
    have H2 := h2.u8 n (by omega) (by simp [beB_len])
    have H2 := Lib.hid H2
    clear h2
    go_wp2_with fail
    refine H2.out.mono ?_
    rintro e w3 ⟨rfl, h3⟩
    have H3 := Lib.hid (h3.raw s (by simp [beB_len]) (by rw [HN.out]; omega))
    clear h3 H2
    go_wp2_with fail
    refine H3.out.mono ?_
    rintro e w4 ⟨rfl, h4⟩
    have H4 := Lib.hid h4
    have HZ := Lib.hid (rgzeros_any m w4 hm64)
    clear h4 H3
    go_wp2_with fail
    refine HZ.out.mono ?_
    rintro e w5 ⟨rfl, g5⟩
    have H5 := Lib.hid ((H4.out.keepF g5).raw (nul m) (by simp [beB_len]; rw [HN.out]; omega) (by rw [nul_len]; omega))
    clear g5 HZ H4
    go_wp2_with fail
    refine H5.out.mono ?_
    rintro e w6 ⟨rfl, h6⟩
    have H6 := Lib.hid (h6.u16 i hi (by simp [beB_len, nul_len]; rw [HN.out]; omega))
    clear h6 H5
    go_wp2_with fail
    refine H6.out.mono ?_
    rintro e w7 ⟨rfl, h7⟩
    have H7 := Lib.hid h7.bytes
    clear h7 H6
    go_wp2_with fail
    refine H7.out.mono ?_
    rintro e w8 ⟨rfl, g8⟩
    have G8 := Lib.hid g8
    clear g8 H7
    go_wp2_with fail
    go_ret
    refine ⟨?_, G8.out⟩
    unfold logB
    rw [HN.out, HM.out]
    rfl
end Go.Proofs.YtddjkbpgaenpgaaGreat
end
section
namespace Go.Proofs.YtddjkbpgaenpgaaGreat
open Go.RowKit

structure LV where
  D : DV
  cut : Int
  cs : List Int
  acts : Nat
  down : Bool
  /-- where its choices lie -/
  P : Nat → Prop
namespace LV
/-- Is the first choice odd? -/
def odd (L : LV) : Bool := decide (∃ q, L.cs.head? = some q ∧ q % 2 ≠ 0)
def fall (L : LV) : LV := { L with D := L.D.crash L.cs, down := true }
def count (L : LV) : LV := { L with acts := L.acts + 1 }
/-- What an act leaves, which makes the device D'. -/
def act (L : LV) (D' : DV) : LV := if L.down then L else if (L.acts : Int) ≠ L.cut then { L.count with D := D' } else if L.odd then ({ L.count with D := D' } : LV).fall else L.count.fall
/-- What it is told, if the device told code. -/
def code (L : LV) (c : Nat) : Nat := if L.down ∨ (L.acts : Int) = L.cut then 8 else c
def blow (L : LV) : LV := if L.down then L else L.fall
def new (D : DV) (cut : Int) (cs : List Int) (P : Nat → Prop := fun _ => True) : LV := ⟨D, cut, cs, 0, false, P⟩
structure ok (L : LV) : Prop where
  cut : Z64 L.cut
  cs : ∀ z ∈ L.cs, Z64 z
  few : L.cs.length ≤ 1000000
theorem act_cs (L : LV) (D' : DV) : (L.act D').cs = L.cs ∧ (L.act D').cut = L.cut := by
  unfold act
  split
  · exact ⟨rfl, rfl⟩
  split
  · exact ⟨rfl, rfl⟩
  split <;> exact ⟨rfl, rfl⟩
theorem ok.act {L : LV} (h : L.ok) (D' : DV) : (L.act D').ok := ⟨by rw [(act_cs L D').2]; exact h.cut, by rw [(act_cs L D').1]; exact h.cs, by rw [(act_cs L D').1]; exact h.few⟩
theorem ok.blow {L : LV} (h : L.ok) : L.blow.ok := by
  unfold LV.blow
  split
  · exact h
  · exact ⟨h.cut, h.cs, h.few⟩
theorem ok.count {L : LV} (h : L.ok) : L.count.ok := ⟨h.cut, h.cs, h.few⟩
end LV

/-- The line at block l: its device at b, with the maps f and x. -/
structure LnC (w : World) (l b f x : Nat) (cv : Value) (L : LV) : Prop where
  blk : Blk w l 102 #[.pointer (some ⟨l, 0, none⟩), .pointer (some ⟨b, 0, none⟩), .int .i64 L.cut, cv, .int .i64 (L.acts : Nat), .bool L.down]
  dev : DevM w b f x L.D
  lb : l ≠ b
  lf : l ≠ f
  lx : l ≠ x
  zs : L.down = false → Zs w cv L.cs
  za : L.down = false → L.cs.length = 0 ∨ ∀ g, blkOf cv = some g → g ≠ f ∧ g ≠ x ∧ g ≠ l ∧ L.P g
  ok : L.ok
def LnM (w : World) (l b f x : Nat) (L : LV) : Prop := ∃ cv, LnC w l b f x cv L
section
variable {w w' : World} {l b f x : Nat} {cv : Value} {L : LV}
theorem LnC.keep {X : Nat → Prop} (h : LnC w l b f x cv L) (hf : Frm X w w') (h0 : ¬ X l) (h1 : ¬ X b) (h2 : ¬ X f) (h3 : ¬ X x) (h4 : L.down = false → L.cs.length = 0 ∨ ∀ g, blkOf cv = some g → ¬ X g) : LnC w' l b f x cv L :=
  ⟨h.blk.keep hf h0, h.dev.keep hf h1 h2 h3, h.lb, h.lf, h.lx, fun e => (h.zs e).keepN hf (h4 e), h.za, h.ok⟩
theorem LnM.keepF (h : LnM w l b f x L) (hf : Frm (fun _ => False) w w') : LnM w' l b f x L := by
  obtain ⟨cv, h⟩ := h
  exact ⟨cv, h.keep hf (fun h => h) (fun h => h) (fun h => h) (fun h => h) fun _ => .inr fun _ _ h => h⟩
theorem LnM.lt (h : LnM w l b f x L) : l < w.heap.size ∧ b < w.heap.size ∧ f < w.heap.size ∧ x < w.heap.size := by
  obtain ⟨cv, h⟩ := h
  exact ⟨h.blk.lt, h.dev.lt⟩
theorem LnM.dev (h : LnM w l b f x L) : DevM w b f x L.D := by
  obtain ⟨cv, h⟩ := h
  exact h.dev
theorem LnM.ok (h : LnM w l b f x L) : L.ok := by
  obtain ⟨cv, h⟩ := h
  exact h.ok
theorem LnM.self (h : LnM w l b f x L) : w.cell? ⟨l, 0, none⟩ = some (.pointer (some ⟨l, 0, none⟩)) := by
  obtain ⟨cv, h⟩ := h
  exact h.blk.cell 0 rfl
theorem LnM.d (h : LnM w l b f x L) : w.cell? ⟨l, 1, none⟩ = some (.pointer (some ⟨b, 0, none⟩)) := by
  obtain ⟨cv, h⟩ := h
  exact h.blk.cell 1 rfl
theorem LnM.cut (h : LnM w l b f x L) : w.cell? ⟨l, 2, none⟩ = some (.int .i64 L.cut) := by
  obtain ⟨cv, h⟩ := h
  exact h.blk.cell 2 rfl
theorem LnM.acts (h : LnM w l b f x L) : w.cell? ⟨l, 4, none⟩ = some (.int .i64 (L.acts : Nat)) := by
  obtain ⟨cv, h⟩ := h
  exact h.blk.cell 4 rfl
theorem LnM.down (h : LnM w l b f x L) : w.cell? ⟨l, 5, none⟩ = some (.bool L.down) := by
  obtain ⟨cv, h⟩ := h
  exact h.blk.cell 5 rfl
theorem LnM.free (h : LnM w l b f x L) (i : Nat) : w.frozen? ⟨l, i, none⟩ = false := by
  obtain ⟨cv, h⟩ := h
  exact h.blk.free i
/-- The device did something. -/
theorem LnM.turn {D' : DV} (h : LnM w l b f x L) (hd : DevM w' b f x D') (hf : Frm (fun k => k = f ∨ k = x) w w') : LnM w' l b f x { L with D := D' } := by
  obtain ⟨cv, h⟩ := h
  exact ⟨cv, h.blk.keep hf (by have := h.lf; have := h.lx; omega), hd, h.lb, h.lf, h.lx, (fun e => (h.zs e).keepN hf ((h.za e).imp id fun q g hg hX => by have := q g hg; omega)), h.za, ⟨h.ok.cut, h.ok.cs, h.ok.few⟩⟩
/-- One act more. -/
theorem LnM.count (h : LnM w l b f x L) : LnM (w.setCell ⟨l, 4, none⟩ (.int .i64 ((L.acts + 1 : Nat) : Int))) l b f x L.count := by
  obtain ⟨cv, h⟩ := h
  have g : Frm (· = l) w (w.setCell ⟨l, 4, none⟩ (.int .i64 ((L.acts + 1 : Nat) : Int))) := (Frm.refl (· = l) w).setCell (fun _ => rfl) _
  have hb := h.blk.set 4 (.int .i64 ((L.acts + 1 : Nat) : Int))
  exact ⟨cv, hb, h.dev.keep g (Ne.symm h.lb) (Ne.symm h.lf) (Ne.symm h.lx), h.lb, h.lf, h.lx, (fun e => (h.zs e).keepN g ((h.za e).imp id fun q k hk hX => by have := q k hk; omega)), h.za, h.ok.count⟩
/-- It is cut. -/
theorem LnM.cutDown (h : LnM w l b f x L) : LnM ((w.setCell ⟨l, 5, none⟩ (.bool true)).setCell ⟨l, 3, none⟩ (.slice none 0 0)) l b f x { L with down := true } := by
  obtain ⟨cv, h⟩ := h
  have g : Frm (· = l) w ((w.setCell ⟨l, 5, none⟩ (.bool true)).setCell ⟨l, 3, none⟩ (.slice none 0 0)) := ((Frm.refl (· = l) w).setCell (fun _ => rfl) _).setCell (fun _ => rfl) _
  have hb := (h.blk.set 5 (.bool true)).set 3 (.slice none 0 0)
  exact ⟨_, hb, h.dev.keep g (Ne.symm h.lb) (Ne.symm h.lf) (Ne.symm h.lx), h.lb, h.lf, h.lx, nofun, nofun, ⟨h.ok.cut, h.ok.cs, h.ok.few⟩⟩
/-- Its choices lie where there was memory. -/
theorem LnM.low (h : LnM w l b f x L) : LnM w l b f x { L with P := fun g => L.P g ∧ g < w.heap.size } := by
  obtain ⟨cv, h⟩ := h
  refine ⟨cv, h.blk, h.dev, h.lb, h.lf, h.lx, h.zs, (fun e => ?_), ⟨h.ok.cut, h.ok.cs, h.ok.few⟩⟩
  rcases h.za e with h1 | h1
  · exact .inl h1
  rcases (h.zs e).low with h2 | h2
  · exact .inl h2
  · exact .inr fun g hg => ⟨(h1 g hg).1, (h1 g hg).2.1, (h1 g hg).2.2.1, (h1 g hg).2.2.2, h2 g hg⟩
/-- What others write is not there. -/
theorem LnM.keep {X : Nat → Prop} (h : LnM w l b f x L) (hf : Frm X w w') (h0 : ¬ X l) (h1 : ¬ X b) (h2 : ¬ X f) (h3 : ¬ X x) (h4 : L.cs.length = 0 ∨ ∀ g, L.P g → ¬ X g) : LnM w' l b f x L := by
  obtain ⟨cv, h⟩ := h
  refine ⟨cv, h.keep hf h0 h1 h2 h3 fun e => ?_⟩
  rcases h4 with h4 | h4
  · exact .inl h4
  · exact (h.za e).imp id fun q g hg => h4 g (q g hg).2.2.2
end
end Go.Proofs.YtddjkbpgaenpgaaGreat
end
