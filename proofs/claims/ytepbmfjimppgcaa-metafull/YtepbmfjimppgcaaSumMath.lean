/-
  The sum CRC-32C and the hash FNV-1a over plain numbers: that the sum is linear over xor, that a step loses nothing, and that a byte's share may stand in a table.
-/
import Derived.WalkKit
import Derived.KernelRfl
namespace Go.Proofs.Ytepbmfjimppgcaa
namespace S

/-- One bit of the sum. -/
def half (c : Nat) : Nat := if c % 2 = 1 then (c / 2) ^^^ 2197175160 else c / 2
/-- So many bits of it. -/
def it : Nat → Nat → Nat
  | 0, c => c
  | k + 1, c => half (it k c)
/-- One byte. -/
def step (c : Nat) (b : UInt8) : Nat := it 8 (c ^^^ b.toNat)
def fold (c : Nat) (l : List UInt8) : Nat := l.foldl step c
/-- The sum. -/
def crc (l : List UInt8) : Nat := fold 4294967295 l ^^^ 4294967295

theorem half_zero : half 0 = 0 := by decide
theorem it_zero : ∀ k, it k 0 = 0
  | 0 => rfl
  | k + 1 => by rw [it, it_zero k, half_zero]

theorem xor_swap (a b c d : Nat) : (a ^^^ b) ^^^ (c ^^^ d) = (a ^^^ c) ^^^ (b ^^^ d) := by
  rw [Nat.xor_assoc, Nat.xor_assoc, ← Nat.xor_assoc b c d, Nat.xor_comm b c, Nat.xor_assoc c b d]
theorem xor_cancel (a b : Nat) : a ^^^ (a ^^^ b) = b := by rw [← Nat.xor_assoc, Nat.xor_self, Nat.zero_xor]
theorem xor_eq_zero {a b : Nat} (h : a ^^^ b = 0) : a = b := by
  have := xor_cancel a b
  rw [h, Nat.xor_zero] at this
  exact this

theorem half_xor (a b : Nat) : half (a ^^^ b) = half a ^^^ half b := by
  have e1 : (a ^^^ b) / 2 = a / 2 ^^^ b / 2 := Nat.xor_div_two
  have e2 : (a ^^^ b) % 2 = (a + b) % 2 := by
    have h := Nat.xor_mod_two_pow (a := a) (b := b) (n := 1)
    rw [Nat.pow_one] at h
    rw [h]
    rcases Nat.mod_two_eq_zero_or_one a with ha | ha <;> rcases Nat.mod_two_eq_zero_or_one b with hb | hb <;> rw [ha, hb] <;> simp <;> omega
  unfold half
  rw [e1, e2]
  rcases Nat.mod_two_eq_zero_or_one a with ha | ha <;> rcases Nat.mod_two_eq_zero_or_one b with hb | hb
  · rw [if_neg (by omega), if_neg (by omega), if_neg (by omega)]
  · rw [if_pos (by omega), if_neg (by omega), if_pos (by omega), Nat.xor_assoc]
  · rw [if_pos (by omega), if_pos (by omega), if_neg (by omega), Nat.xor_assoc, Nat.xor_assoc, Nat.xor_comm (b / 2)]
  · rw [if_neg (by omega), if_pos (by omega), if_pos (by omega), xor_swap, Nat.xor_self, Nat.xor_zero]

theorem it_xor : ∀ k a b, it k (a ^^^ b) = it k a ^^^ it k b
  | 0, _, _ => rfl
  | k + 1, a, b => by rw [it, it_xor k, half_xor]; rfl

theorem half_lt {c : Nat} (h : c < 2 ^ 32) : half c < 2 ^ 32 := by
  unfold half
  split
  · exact Nat.xor_lt_two_pow (by omega) (by decide)
  · omega
theorem it_lt : ∀ k {c : Nat}, c < 2 ^ 32 → it k c < 2 ^ 32
  | 0, _, h => h
  | k + 1, _, h => half_lt (it_lt k h)

/-- A step loses nothing. -/
theorem half_ne {c : Nat} (h : c < 2 ^ 32) (h0 : half c = 0) : c = 0 := by
  unfold half at h0
  split at h0
  · have := xor_eq_zero h0
    omega
  · omega
theorem it_ne : ∀ k {c : Nat}, c < 2 ^ 32 → it k c = 0 → c = 0
  | 0, _, _, h => h
  | k + 1, _, hc, h => it_ne k hc (half_ne (it_lt k hc) h)

theorem half_two (d : Nat) : half (2 * d) = d := by
  unfold half
  rw [if_neg (by omega)]
  omega
theorem it_succ' : ∀ k c, it (k + 1) c = it k (half c)
  | 0, _ => rfl
  | k + 1, c => by
    have h := it_succ' k c
    show half (it (k + 1) c) = half (it k (half c))
    rw [h]
theorem it_add : ∀ j k c, it (j + k) c = it j (it k c)
  | 0, k, c => by rw [Nat.zero_add]; rfl
  | j + 1, k, c => by
    rw [show j + 1 + k = (j + k) + 1 by omega]
    show half (it (j + k) c) = half (it j (it k c))
    rw [it_add j k c]
theorem it_pow : ∀ k d, it k (2 ^ k * d) = d
  | 0, d => by simp [it]
  | k + 1, d => by rw [it_succ', show 2 ^ (k + 1) * d = 2 * (2 ^ k * d) by rw [Nat.pow_succ, Nat.mul_comm (2 ^ k) 2, Nat.mul_assoc], half_two, it_pow k d]
theorem it8 (d : Nat) : it 8 (256 * d) = d := it_pow 8 d

theorem split_xor (i : Nat) (d r : Nat) (hr : r < 2 ^ i) : 2 ^ i * d ^^^ r = 2 ^ i * d + r := by
  rw [Nat.two_pow_add_eq_or_of_lt hr]
  apply Nat.eq_of_testBit_eq
  intro j
  rw [Nat.testBit_xor, Nat.testBit_or]
  by_cases h : j < i
  · have : (2 ^ i * d).testBit j = false := by
      rw [Nat.testBit_two_pow_mul]
      simp
      omega
    rw [this]; simp
  · have : r.testBit j = false := Nat.testBit_lt_two_pow (Nat.lt_of_lt_of_le hr (Nat.pow_le_pow_right (by decide) (by omega)))
    rw [this]; simp

/-- A byte's share may stand in a table. -/
theorem step_table (c : Nat) (b : UInt8) : c / 256 ^^^ it 8 (c % 256 ^^^ b.toNat) = step c b := by
  have e : c = 256 * (c / 256) ^^^ c % 256 := by
    have h := split_xor 8 (c / 256) (c % 256) (Nat.mod_lt _ (by decide))
    rw [show (2 : Nat) ^ 8 = 256 by decide] at h
    rw [h]; omega
  unfold step
  conv => rhs; rw [e]
  rw [Nat.xor_assoc, it_xor 8 (256 * (c / 256)), it8]

theorem byte_xor_lt (c : Nat) (b : UInt8) (hc : c < 2 ^ 32) : c ^^^ b.toNat < 2 ^ 32 := Nat.xor_lt_two_pow hc (by have := b.toNat_lt; omega)
theorem step_lt {c : Nat} (b : UInt8) (hc : c < 2 ^ 32) : step c b < 2 ^ 32 := it_lt 8 (byte_xor_lt c b hc)
theorem fold_lt : ∀ (l : List UInt8) {c : Nat}, c < 2 ^ 32 → fold c l < 2 ^ 32
  | [], _, h => h
  | b :: r, _, h => fold_lt r (step_lt b h)
theorem crc_lt (l : List UInt8) : crc l < 2 ^ 32 := Nat.xor_lt_two_pow (fold_lt l (by decide)) (by decide)
theorem fold_snoc (c : Nat) (l : List UInt8) (b : UInt8) : fold c (l ++ [b]) = step (fold c l) b := by simp [fold]
theorem fold_append (c : Nat) (l r : List UInt8) : fold c (l ++ r) = fold (fold c l) r := by simp [fold]

/-- Linear. -/
theorem step_xor (c d : Nat) (a b : UInt8) : step (c ^^^ d) (a ^^^ b) = step c a ^^^ step d b := by
  unfold step
  rw [← it_xor, xor_swap, UInt8.toNat_xor]
theorem fold_xor : ∀ (l r : List UInt8) (c d : Nat), l.length = r.length → fold (c ^^^ d) (List.zipWith (· ^^^ ·) l r) = fold c l ^^^ fold d r
  | [], [], _, _, _ => rfl
  | a :: l, b :: r, c, d, h => by
    show fold (step (c ^^^ d) (a ^^^ b)) (List.zipWith (· ^^^ ·) l r) = _
    rw [step_xor, fold_xor l r _ _ (by simpa using h)]
    rfl
  | [], _ :: _, _, _, h => by simp at h
  | _ :: _, [], _, _, h => by simp at h

theorem zip_zero : ∀ l : List UInt8, List.zipWith (· ^^^ ·) l (List.replicate l.length 0) = l
  | [] => rfl
  | a :: l => by
    show (a ^^^ 0) :: List.zipWith (· ^^^ ·) l (List.replicate l.length 0) = _
    rw [zip_zero l, UInt8.xor_zero]

theorem crc_linear (l r : List UInt8) (h : l.length = r.length) :
    crc (List.zipWith (· ^^^ ·) l r) = (crc l ^^^ crc r) ^^^ crc (List.replicate l.length 0) := by
  have h1 : (List.zipWith (· ^^^ ·) l r).length = l.length := by simp [h]
  have h2 := fold_xor (List.zipWith (· ^^^ ·) l r) (List.replicate l.length 0) 0 4294967295 (by rw [h1]; simp)
  rw [← h1, zip_zero, Nat.zero_xor, h1] at h2
  have h3 := fold_xor l r 4294967295 4294967295 h
  rw [Nat.xor_self] at h3
  unfold crc
  rw [h2, h3, xor_swap (fold 4294967295 l), Nat.xor_self, Nat.xor_zero, Nat.xor_assoc]

theorem fold_zeros : ∀ (m : Nat) (d : Nat), d < 2 ^ 32 → fold d (List.replicate m 0) = 0 → d = 0
  | 0, _, _, h => h
  | m + 1, d, hd, h => by
    have h1 := fold_zeros m (step d 0) (step_lt 0 hd) h
    unfold step at h1
    have h2 := it_ne 8 (byte_xor_lt d 0 hd) h1
    simpa using h2
theorem fold_zero : ∀ m : Nat, fold 0 (List.replicate m 0) = 0
  | 0 => rfl
  | m + 1 => by
    show fold (step 0 0) (List.replicate m 0) = 0
    have : step 0 0 = 0 := by unfold step; rw [show (0 : Nat) ^^^ (0 : UInt8).toNat = 0 by decide]; exact it_zero 8
    rw [this, fold_zero m]

theorem step_push (x : Nat) (i : Nat) (b : UInt8) (hx : x < 2 ^ i) : it 8 (it i x ^^^ b.toNat) = it (8 + i) (x + 2 ^ i * b.toNat) := by
  rw [it_add 8 i, ← it_pow i b.toNat, ← it_xor i, it_pow, Nat.xor_comm, split_xor i _ x hx, Nat.add_comm]

/-- Four bytes from nought on. -/
theorem fold_four (a b c d : UInt8) : fold 0 [a, b, c, d] = it 32 (a.toNat + 256 * b.toNat + 65536 * c.toNat + 16777216 * d.toNat) := by
  have ha := a.toNat_lt; have hb := b.toNat_lt; have hc := c.toNat_lt
  show it 8 (it 8 (it 8 (it 8 (0 ^^^ a.toNat) ^^^ b.toNat) ^^^ c.toNat) ^^^ d.toNat) = _
  rw [Nat.zero_xor, step_push _ 8 b (by omega), step_push _ 16 c (by omega), step_push _ 24 d (by omega)]

/-- Four bytes that are others are told. -/
theorem crc_burst (p s : List UInt8) (a b c d a' b' c' d' : UInt8) (h : crc (p ++ [a, b, c, d] ++ s) = crc (p ++ [a', b', c', d'] ++ s)) : [a ^^^ a', b ^^^ b', c ^^^ c', d ^^^ d'] = [0, 0, 0, 0] := by
  have hx : fold 4294967295 (p ++ [a, b, c, d] ++ s) ^^^ fold 4294967295 (p ++ [a', b', c', d'] ++ s) = 0 := by
    unfold crc at h
    have : fold 4294967295 (p ++ [a, b, c, d] ++ s) = fold 4294967295 (p ++ [a', b', c', d'] ++ s) := by
      have := congrArg (· ^^^ 4294967295) h
      simpa [Nat.xor_assoc] using this
    rw [this, Nat.xor_self]
  rw [← fold_xor _ _ _ _ (by simp), Nat.xor_self, List.zipWith_append (by simp), List.zipWith_append (by simp)] at hx
  have hs : ∀ l : List UInt8, List.zipWith (· ^^^ ·) l l = List.replicate l.length 0 := by
    intro l
    induction l with
    | nil => rfl
    | cons x l ih => rw [List.zipWith_cons_cons, ih, UInt8.xor_self]; rfl
  rw [hs, hs, fold_append, fold_append, fold_zero] at hx
  have e : List.zipWith (· ^^^ ·) [a, b, c, d] [a', b', c', d'] = [a ^^^ a', b ^^^ b', c ^^^ c', d ^^^ d'] := rfl
  rw [e] at hx
  generalize a ^^^ a' = x at hx ⊢
  generalize b ^^^ b' = y at hx ⊢
  generalize c ^^^ c' = z at hx ⊢
  generalize d ^^^ d' = u at hx ⊢
  have h1 := fold_zeros _ _ (fold_lt _ (by decide)) hx
  rw [fold_four] at h1
  have hxl := x.toNat_lt; have hyl := y.toNat_lt; have hzl := z.toNat_lt; have hul := u.toNat_lt
  have h2 := it_ne 32 (by omega) h1
  have q1 : x.toNat = 0 := by omega
  have q2 : y.toNat = 0 := by omega
  have q3 : z.toNat = 0 := by omega
  have q4 : u.toNat = 0 := by omega
  rw [show x = 0 from UInt8.toNat_inj.1 q1, show y = 0 from UInt8.toNat_inj.1 q2, show z = 0 from UInt8.toNat_inj.1 q3, show u = 0 from UInt8.toNat_inj.1 q4]

/-! The hash. -/
def hstep (h : Nat) (b : UInt8) : Nat := (h ^^^ b.toNat) * 16777619 % 4294967296
def hash (l : List UInt8) : Nat := l.foldl hstep 2166136261
/-- The first k fours, one xor the other. -/
def nibs : Nat → Nat → Nat
  | 0, _ => 0
  | k + 1, h => nibs k h ^^^ h / 16 ^ k % 16
def slot (l : List UInt8) : Nat := nibs 8 (hash l)

theorem hash_lt (l : List UInt8) : hash l < 4294967296 := by
  unfold hash
  rcases List.eq_nil_or_concat l with rfl | ⟨r, b, rfl⟩
  · rw [List.foldl_nil]; omega
  · rw [List.concat_eq_append, List.foldl_append, List.foldl_cons, List.foldl_nil, hstep]
    generalize (List.foldl hstep 2166136261 r ^^^ b.toNat) * 16777619 = x
    omega
theorem hash_snoc (l : List UInt8) (b : UInt8) : hash (l ++ [b]) = hstep (hash l) b := by
  unfold hash
  rw [List.foldl_append, List.foldl_cons, List.foldl_nil]
theorem nibs_lt : ∀ k h, nibs k h < 16
  | 0, _ => by rw [nibs]; decide
  | k + 1, h => by
    have h1 : nibs k h < 2 ^ 4 := nibs_lt k h
    have h2 : h / 16 ^ k % 16 < 2 ^ 4 := Nat.mod_lt _ (by decide)
    exact Nat.xor_lt_two_pow h1 h2
theorem slot_lt (l : List UInt8) : slot l < 16 := nibs_lt _ _
theorem nibs_past : ∀ (d k h : Nat), h / 16 ^ k = 0 → nibs (k + d) h = nibs k h
  | 0, _, _, _ => rfl
  | d + 1, k, h, hz => by
    show nibs (k + d) h ^^^ h / 16 ^ (k + d) % 16 = _
    have : h / 16 ^ (k + d) = 0 := by rw [Nat.pow_add, ← Nat.div_div_eq_div_mul, hz, Nat.zero_div]
    rw [this, nibs_past d k h hz]
    simp
theorem div16 (h k : Nat) : h / 16 ^ k / 16 = h / 16 ^ (k + 1) := by rw [Nat.div_div_eq_div_mul, Nat.pow_succ]

end S
end Go.Proofs.Ytepbmfjimppgcaa
