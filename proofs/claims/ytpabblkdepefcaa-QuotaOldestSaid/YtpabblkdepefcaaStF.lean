/- A stable sort's merge, over any program that bears its functions: two stretches. No condition but the row's length. -/
import Derived.Test.YtpabblkdepefcaaStB
import Derived.Test.YtpabblkdepefcaaStC
import Derived.Test.YtpabblkdepefcaaStD
import Derived.Test.YtpabblkdepefcaaStE
namespace Go.Proofs.Ytpabblkdepefcaa
open Go.Shelf Go.RowKit Go.Lib Go.Sort
section
variable {P : Program} {α : Type} [Inhabited α] {k : Nat}
set_option maxHeartbeats 64000000 in
set_option maxRecDepth 1000000 in
theorem symMerge_any (L : StL P k) (enc : α → List Value) (cf : α → α → Int) (lt : α → α → Bool) (og : α → α → Prop) (hS : SWO lt) (hL : ∀ x y, og x y → ltOf cf y x = lt y x) (g : Nat) (cb : Array Value) (blk off cap : Nat) (d0 : Array α) (w0 : World)
    (eg : ∀ args w, (callFunc g args).run P w = .ok (.enter g args) w) (hcmp : CmpLays P g cb enc k cf blk off d0.size w0) (R : RowK enc k w0 blk off d0) : ∀ (N a m b : Nat) (d : Array α) (w : World), b - a < N → d0.size = d.size → SWK enc k w0 blk off d w → a < m → m < b → b ≤ d.size → d.size < 4611686018427387904 → Two lt og a m b d →
    Calls P 35 #[.slice (some ⟨blk, off, none⟩) d.size cap, .int .i64 a, .int .i64 m, .int .i64 b, .func (.func g) #[] cb] w fun e w' =>
      e = .returned (.tuple #[]) ∧ ∃ d', SortedIn lt a b d' ∧ (∀ lo hi, lo ≤ a → b ≤ hi → hi ≤ d.size → PermIn lo hi d d') ∧ SWK enc k w0 blk off d' w' := by
  intro N
  induction N with
  | zero => intro _ _ _ _ _ h; exact absurd h (Nat.not_lt_zero _)
  | succ N ih =>
    intro a m b d w hN hs S ham hmb hb hsz hT
    by_cases c1 : m - a = 1
    · exact symMerge_one L enc cf lt og hS hL g cb blk off cap d0 w0 eg hcmp R a m b d w hs S ham hmb hb hsz hT c1
    · by_cases c2 : b - m = 1
      · exact symMerge_two L enc cf lt og hS hL g cb blk off cap d0 w0 eg hcmp R a m b d w hs S ham hmb hb hsz hT c1 c2
      · have ih' := fun (a' m' b' : Nat) (d' : Array α) (w' : World) (h : b' - a' < b - a) => ih a' m' b' d' w' (by omega)
        by_cases hmm : (a + b) / 2 < m
        · exact symMerge_mid1 L enc cf lt og hS hL g cb blk off cap d0 w0 eg hcmp R a m b _ d w hs S ham hmb hb hsz hT c1 c2 rfl hmm ih'
        · exact symMerge_mid2 L enc cf lt og hS hL g cb blk off cap d0 w0 eg hcmp R a m b _ d w hs S ham hmb hb hsz hT c1 c2 rfl hmm ih'
end
end Go.Proofs.Ytpabblkdepefcaa
