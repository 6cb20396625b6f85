/- Plain words on a text made into bytes, and bytes made into a text. No condition. -/
import Derived.Test.YtjodkgbpbibfbaaRow
import Derived.Lib.ConvBytes
namespace Go.Proofs.Ytjodkgbpbibfbaa
open Go.RowKit
/-- Bytes, as cells. -/
def u8s (l : List UInt8) : List Value := l.map fun b => .int .u8 b.toNat
theorem u8s_length (l : List UInt8) : (u8s l).length = l.length := by simp [u8s]
theorem u8s_append (a b : List UInt8) : u8s (a ++ b) = u8s a ++ u8s b := by simp [u8s]
theorem u8s_get (l : List UInt8) (k : Nat) (h : k < l.length) : (u8s l)[k]? = some (.int .u8 l[k].toNat) := by simp [u8s, h]
theorem byteCells_bs (l : List UInt8) : byteCells (bs l) = u8s l := rfl

theorem run_bytes_of {P : Program} {src dst e : TypeId} {u : TypeDesc} (hs : P.underlying src = some u) (hd : P.underlying dst = some (.slice e)) (he : P.underlying e = some (.int .u8)) (l : List UInt8) (w : World) (hl : l.length ≤ maxLen) :
    ∃ cap w', (convert src dst (.string (bs l))).run P w = .ok (.slice (some ⟨w.heap.size, 0, none⟩) l.length cap) w' ∧ Row w' 1 (.slice (some ⟨w.heap.size, 0, none⟩) l.length cap) l.length (u8s l) ∧ w.grownBy w' none ∧ w'.heap.size = w.heap.size + 1 := by
  have hcap := grownCap_ge w l.length 0 e
  have hmax := grownCap_le_maxLen w l.length 0 e hl
  have hnew := Lib.bytesWorld_at_new w e (bs l)
  have hcs : (Lib.bytesCells w e (bs l)).size = grownCap w l.length 0 e := by
    simp only [Lib.bytesCells, Array.size_append, Array.size_map, Array.size_replicate, bs_size]
    have : (bs l).data.size = l.length := rfl
    omega
  refine ⟨_, _, Lib.run_convert_string_bytes (P := P) w src dst e (bs l) hs hd he, ⟨by simp [u8s], .inr ⟨_, _, rfl, hcap, hmax, ⟨_, hnew, rfl⟩, fun j hj => ?_, fun j hj => ?_⟩⟩, ⟨rfl, rfl, rfl, by rw [Lib.bytesWorld_size]; omega, fun k hk _ => Lib.bytesWorld_at_old w e (bs l) k hk⟩, Lib.bytesWorld_size w e (bs l)⟩
  · rw [Lib.bytesWorld_cell w e (bs l) j (by simpa [bs_size] using hj), u8s_get l j (by simpa using hj)]
    have hj' : j < l.length := by simpa using hj
    simp [bs, hj']
  · refine ⟨?_, ?_⟩
    · simp only [World.cell?, hnew]
      have : j < (Lib.bytesCells w e (bs l)).size := by rw [hcs]; simpa [bs_size] using hj
      simp [this]
    · simp only [World.frozen?, hnew, hcs]
      have : j < grownCap w l.length 0 e := by simpa [bs_size] using hj
      simp; omega

theorem foldl_push (l : List UInt8) : ∀ (s : ByteArray), (l.map fun b : UInt8 => ((b.toNat : Nat) : Int)).foldl (fun r n => r.push (UInt8.ofNat n.toNat)) s = s ++ bs l := by
  induction l with
  | nil => intro s; apply ByteArray.ext; simp [bs]
  | cons a l ih =>
    intro s
    rw [List.map_cons, List.foldl_cons, ih]
    apply ByteArray.ext
    apply Array.ext'
    simp [bs]

theorem run_loadCells_row {P : Program} {w : World} {g n : Nat} {xs : List Value} (hl : xs.length = n) (h : ∀ j, j < n → w.cell? ⟨g, j, none⟩ = xs[j]?) : (loadCells ⟨g, 0, none⟩ n).run P w = .ok xs.toArray w := by
  subst hl
  refine run_loadCells_list (P := P) w ⟨g, 0, none⟩ xs fun j u hu => ?_
  have hj : j < xs.length := by
    rcases Nat.lt_or_ge j xs.length with h | h
    · exact h
    · rw [List.getElem?_eq_none h] at hu; cases hu
  have hadd : (⟨g, 0, none⟩ : Addr).add j = ⟨g, j, none⟩ := by unfold Addr.add; split <;> simp_all
  rw [hadd, h j (by omega), hu]

/-- The first n bytes behind an address, made into a text. -/
theorem run_text_at {P : Program} {src dst e : TypeId} (hs : P.underlying src = some (.slice e)) (hd : P.underlying dst = some .string) (he : P.underlying e = some (.int .u8)) (w : World) (g n cap : Nat) (l : List UInt8) (hl : l.length = n)
    (h : ∀ j, j < n → w.cell? ⟨g, j, none⟩ = (u8s l)[j]?) : (convert src dst (.slice (some ⟨g, 0, none⟩) n cap)).run P w = .ok (.string (bs l)) w := by
  rw [run_convert_bytes_string (P := P) w src dst e _ _ _ hs he hd]
  have hload := run_loadCells_row (P := P) (w := w) (g := g) (n := n) (xs := u8s l) (by simp [u8s, hl]) h
  have hns : u8s l = (l.map fun b : UInt8 => ((b.toNat : Nat) : Int)).map (Value.int .u8) := by simp [u8s]
  rw [hns] at hload
  rw [run_bytesToString (P := P) w ⟨g, 0, none⟩ n cap _ hload, foldl_push]
  congr 2

theorem run_text_of {P : Program} {src dst e : TypeId} (hs : P.underlying src = some (.slice e)) (hd : P.underlying dst = some .string) (he : P.underlying e = some (.int .u8)) (w : World) (v : Value) (l : List UInt8) (h : Row w 1 v l.length (u8s l)) :
    (convert src dst v).run P w = .ok (.string (bs l)) w := by
  rcases h.2 with ⟨rfl, h0⟩ | ⟨g, cap, rfl, _, _, _, h4, _⟩
  · obtain rfl : l = [] := List.eq_nil_of_length_eq_zero h0
    simp [convert, run_underlying hs, run_underlying hd, run_underlying he, Conv.bytesToString, bs]
    rfl
  · exact run_text_at hs hd he w g l.length cap l rfl fun j hj => h4 j (by simpa using hj)
end Go.Proofs.Ytjodkgbpbibfbaa
