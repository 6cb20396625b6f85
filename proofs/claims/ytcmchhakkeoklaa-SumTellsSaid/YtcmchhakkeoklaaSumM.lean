/- The mathematics of two sums in one number: how they go on over bytes, and what that is in one step. Of no program. No condition. -/
import Derived.Test.YtcmchhakkeoklaaFrm
namespace Go.Proofs.Ytcmchhakkeoklaa

/-- Both sums go on by one byte. -/
def stp (p : Nat × Nat) (c : UInt8) : Nat × Nat := ((p.1 + c.toNat) % 65535, (p.2 + (p.1 + c.toNat) % 65535) % 65535)
/-- Both sums go on by bytes. -/
def upd (p : Nat × Nat) (l : List UInt8) : Nat × Nat := l.foldl stp p
theorem upd_nil (p : Nat × Nat) : upd p [] = p := rfl
theorem upd_cons (p : Nat × Nat) (c : UInt8) (l : List UInt8) : upd p (c :: l) = upd (stp p c) l := rfl
theorem upd_append (p : Nat × Nat) (l k : List UInt8) : upd p (l ++ k) = upd (upd p l) k := List.foldl_append ..
theorem upd_snoc (p : Nat × Nat) (l : List UInt8) (c : UInt8) : upd p (l ++ [c]) = stp (upd p l) c := by rw [upd_append]; rfl
def Lt (p : Nat × Nat) : Prop := p.1 < 65535 ∧ p.2 < 65535
theorem stp_lt (p : Nat × Nat) (c : UInt8) : Lt (stp p c) := ⟨Nat.mod_lt _ (by decide), Nat.mod_lt _ (by decide)⟩
theorem upd_lt (l : List UInt8) : ∀ (p : Nat × Nat), Lt p → Lt (upd p l) := by
  induction l with
  | nil => exact fun p h => h
  | cons c l ih => exact fun p _ => ih _ (stp_lt p c)

/-- The plain sum of bytes. -/
def sa : List UInt8 → Nat
  | [] => 0
  | c :: l => c.toNat + sa l
/-- The sum of bytes, each as often as it is counted into the second sum. -/
def sb : List UInt8 → Nat
  | [] => 0
  | c :: l => (l.length + 1) * c.toNat + sb l
theorem sa_append (l k : List UInt8) : sa (l ++ k) = sa l + sa k := by
  induction l with
  | nil => simp [sa]
  | cons c l ih => simp only [List.cons_append, sa, ih]; omega
theorem sb_append (l k : List UInt8) : sb (l ++ k) = sb l + k.length * sa l + sb k := by
  induction l with
  | nil => simp [sb, sa]
  | cons c l ih =>
    simp only [List.cons_append, sb, sa, ih, List.length_append, Nat.add_mul, Nat.mul_add, Nat.one_mul]
    omega

theorem mod_lin (M n x y S : Nat) : ((y + x % M) % M + n * (x % M) + S) % M = (y + (n + 1) * x + S) % M := by
  have e1 : (y + (n + 1) * x + S) % M = (y + (n + 1) * (x % M) + S) % M := by
    have hx : x = M * (x / M) + x % M := (Nat.div_add_mod x M).symm
    have h : y + (n + 1) * x + S = (y + (n + 1) * (x % M) + S) + M * ((n + 1) * (x / M)) := by
      conv => lhs; rw [hx]
      rw [Nat.mul_add, Nat.mul_left_comm M (n + 1) (x / M)]
      omega
    rw [h, Nat.add_mul_mod_self_left]
  rw [e1, Nat.add_assoc, Nat.mod_add_mod, Nat.add_mul, Nat.one_mul]
  congr 1
  omega

theorem upd_lin (l : List UInt8) : ∀ (p : Nat × Nat), Lt p → upd p l = ((p.1 + sa l) % 65535, (p.2 + l.length * p.1 + sb l) % 65535) := by
  induction l with
  | nil =>
    intro p h
    obtain ⟨h1, h2⟩ := h
    simp only [upd_nil, sa, sb, List.length_nil, Nat.zero_mul, Nat.add_zero]
    rw [Nat.mod_eq_of_lt h1, Nat.mod_eq_of_lt h2]
  | cons c l ih =>
    intro p h
    rw [upd_cons, ih _ (stp_lt p c)]
    simp only [stp, sa, sb, List.length_cons]
    congr 1
    · rw [Nat.mod_add_mod, Nat.add_assoc]
    · rw [mod_lin]
      congr 1
      simp only [Nat.mul_add, Nat.add_mul, Nat.one_mul]
      omega

/-- The sums of a text. -/
def sm (l : List UInt8) : Nat × Nat := upd (1, 0) l
theorem sm_lt (l : List UInt8) : Lt (sm l) := upd_lt l _ ⟨by decide, by decide⟩
theorem sm_lin (l : List UInt8) : sm l = ((1 + sa l) % 65535, (l.length + sb l) % 65535) := by
  unfold sm
  rw [upd_lin l _ ⟨by decide, by decide⟩]
  simp only [Nat.mul_one, Nat.zero_add]

/-- What sums are joined to. -/
def jn (p q : Nat × Nat) (n : Nat) : Nat × Nat := ((p.1 + 65534 + q.1) % 65535, (p.2 + q.2 + n * (p.1 + 65534)) % 65535)
theorem jn_lt (p q : Nat × Nat) (n : Nat) : Lt (jn p q n) := ⟨Nat.mod_lt _ (by decide), Nat.mod_lt _ (by decide)⟩

theorem modeq_add {M a b c d : Nat} (h : a % M = b % M) (k : c % M = d % M) : (a + c) % M = (b + d) % M := by rw [Nat.add_mod, h, k, ← Nat.add_mod]
theorem modeq_mul {M a b c d : Nat} (h : a % M = b % M) (k : c % M = d % M) : (a * c) % M = (b * d) % M := by rw [Nat.mul_mod, h, k, ← Nat.mul_mod]
theorem modeq_mod (M a : Nat) : a % M % M = a % M := Nat.mod_mod _ _

theorem sm_join (s t : List UInt8) : sm (s ++ t) = jn (sm s) (sm t) t.length := by
  have h := upd_append (1, 0) s t
  rw [show upd (1, 0) s = sm s from rfl, show upd (1, 0) (s ++ t) = sm (s ++ t) from rfl] at h
  rw [h, upd_lin t _ (sm_lt s), sm_lin t]
  unfold jn
  obtain ⟨⟨a, b⟩, e⟩ : ∃ p, p = sm s := ⟨_, rfl⟩
  rw [← e]
  clear e h
  simp only
  congr 1
  · rw [Nat.add_mod_mod]
    have : a + 65534 + (1 + sa t) = a + sa t + 65535 := by omega
    rw [this, Nat.add_mod_right]
  · have h1 : t.length * (a + 65534) + t.length = t.length * a + 65535 * t.length := by
      rw [Nat.mul_add, Nat.mul_comm 65535]; omega
    have h2 : (b + (t.length + sb t) % 65535 + t.length * (a + 65534)) % 65535 = (b + (t.length + sb t) + t.length * (a + 65534)) % 65535 :=
      modeq_add (modeq_add rfl (modeq_mod _ _)) rfl
    rw [h2]
    have h3 : b + (t.length + sb t) + t.length * (a + 65534) = b + t.length * a + sb t + 65535 * t.length := by omega
    rw [h3, Nat.add_mul_mod_self_left]

/-- The number of both sums. -/
def num (p : Nat × Nat) : Nat := p.2 * 65536 + p.1
theorem num_lt {p : Nat × Nat} (h : Lt p) : num p < 4294967296 := by
  obtain ⟨h1, h2⟩ := h
  unfold num
  omega
/-- The sums that a number represents. -/
def rdn (n : Nat) : Nat × Nat := (n % 65536 % 65535, n / 65536 % 65535)
theorem rdn_lt (n : Nat) : Lt (rdn n) := ⟨Nat.mod_lt _ (by decide), Nat.mod_lt _ (by decide)⟩
theorem rdn_num {p : Nat × Nat} (h : Lt p) : rdn (num p) = p := by
  obtain ⟨h1, h2⟩ := h
  unfold rdn num
  apply Prod.ext
  · show (p.2 * 65536 + p.1) % 65536 % 65535 = p.1
    omega
  · show (p.2 * 65536 + p.1) / 65536 % 65535 = p.2
    omega
theorem num_inj {p q : Nat × Nat} (h : Lt p) (k : Lt q) (e : num p = num q) : p = q := by rw [← rdn_num h, ← rdn_num k, e]

theorem jn_mod (p q : Nat × Nat) (m n : Nat) (h : m % 65535 = n % 65535) : jn p q m = jn p q n := by
  unfold jn
  have e : (p.2 + q.2 + m * (p.1 + 65534)) % 65535 = (p.2 + q.2 + n * (p.1 + 65534)) % 65535 := modeq_add rfl (modeq_mul h rfl)
  rw [e]

/-- Of three Joins it makes no difference which are done first. -/
theorem jn_assoc (p q r : Nat × Nat) (k l : Nat) : jn (jn p q k) r l = jn p (jn q r l) (k + l) := by
  obtain ⟨a, b⟩ := p
  obtain ⟨c, d⟩ := q
  obtain ⟨e, f⟩ := r
  unfold jn
  simp only
  congr 1
  · have h1 : ((a + 65534 + c) % 65535 + 65534 + e) % 65535 = (a + 65534 + c + 65534 + e) % 65535 := modeq_add (modeq_add (modeq_mod _ _) rfl) rfl
    have h2 : (a + 65534 + (c + 65534 + e) % 65535) % 65535 = (a + 65534 + (c + 65534 + e)) % 65535 := modeq_add rfl (modeq_mod _ _)
    rw [h1, h2]
    congr 1
    omega
  · have h1 : ((b + d + k * (a + 65534)) % 65535 + f + l * ((a + 65534 + c) % 65535 + 65534)) % 65535 = (b + d + k * (a + 65534) + f + l * (a + 65534 + c + 65534)) % 65535 :=
      modeq_add (modeq_add (modeq_mod _ _) rfl) (modeq_mul rfl (modeq_add (modeq_mod _ _) rfl))
    have h2 : (b + (d + f + l * (c + 65534)) % 65535 + (k + l) * (a + 65534)) % 65535 = (b + (d + f + l * (c + 65534)) + (k + l) * (a + 65534)) % 65535 :=
      modeq_add (modeq_add rfl (modeq_mod _ _)) rfl
    rw [h1, h2]
    congr 1
    simp only [Nat.mul_add, Nat.add_mul]
    omega

/-- Another byte in one place is told. -/
theorem sm_one (p q : List UInt8) (c d : UInt8) (h : sm (p ++ [c] ++ q) = sm (p ++ [d] ++ q)) : c = d := by
  rw [sm_lin, sm_lin] at h
  have h1 := congrArg Prod.fst h
  simp only [sa_append, sa, List.append_assoc] at h1
  have hc := c.toNat_lt
  have hd := d.toNat_lt
  apply UInt8.toNat_inj.1
  omega
/-- So are two unlike bytes, at most 256 places apart, that changed their places. -/
theorem sm_two (p m q : List UInt8) (c d : UInt8) (hm : m.length < 256) (h : sm (p ++ [c] ++ m ++ [d] ++ q) = sm (p ++ [d] ++ m ++ [c] ++ q)) : c = d := by
  rw [sm_lin, sm_lin] at h
  have h1 := congrArg Prod.snd h
  simp only [sb_append, sb, sa, List.length_append, List.length_cons, List.length_nil, List.append_assoc] at h1
  have hc := c.toNat_lt
  have hd := d.toNat_lt
  apply UInt8.toNat_inj.1
  generalize c.toNat = x at *
  generalize d.toNat = y at *
  generalize q.length = n at *
  generalize m.length = k at *
  simp only [Nat.add_mul, Nat.one_mul, Nat.add_zero, Nat.zero_add] at h1
  rcases Nat.lt_trichotomy x y with hxy | hxy | hxy
  · exfalso
    obtain ⟨z, rfl⟩ := Nat.exists_eq_add_of_le (Nat.le_of_lt hxy)
    have hz : (k + 1) * z ≤ 256 * 255 := Nat.mul_le_mul (by omega) (by omega)
    have hz0 : 0 < (k + 1) * z := Nat.mul_pos (by omega) (by omega)
    simp only [Nat.mul_add, Nat.add_mul, Nat.one_mul] at h1 hz hz0
    omega
  · exact hxy
  · exfalso
    obtain ⟨z, rfl⟩ := Nat.exists_eq_add_of_le (Nat.le_of_lt hxy)
    have hz : (k + 1) * z ≤ 256 * 255 := Nat.mul_le_mul (by omega) (by omega)
    have hz0 : 0 < (k + 1) * z := Nat.mul_pos (by omega) (by omega)
    simp only [Nat.mul_add, Nat.add_mul, Nat.one_mul] at h1 hz hz0
    omega
end Go.Proofs.Ytcmchhakkeoklaa
