/-
  Records over plain bytes: what a payload's record is, which record bytes begin with, and all that stand one behind the other; a record cut, or of which a byte is another one.
-/
import Derived.Test.YtpfnkjfbhcffiaaMathFix
import Derived.Test.YtpfnkjfbhcffiaaSumMath
namespace Go.Proofs.Ytpfnkjfbhcffiaa.F

theorem toL_append (a b : ByteArray) : (a ++ b).data.toList = a.data.toList ++ b.data.toList := by simp
theorem toL_extract (s : ByteArray) (a b : Nat) : (s.extract a b).data.toList = (s.data.toList.drop a).take (b - a) := by
  rw [ByteArray.data_extract, Array.toList_extract, List.extract_eq_take_drop]
theorem toL_length (s : ByteArray) : s.data.toList.length = s.size := by simp
theorem ext {a b : ByteArray} (h : a.data.toList = b.data.toList) : a = b := ByteArray.ext (Array.toList_inj.1 h)

def fx (n : Nat) : ByteArray := ⟨(M.putFix 4 n).toArray⟩
theorem fx_list (n : Nat) : (fx n).data.toList = M.putFix 4 n := rfl
theorem fx_size (n : Nat) : (fx n).size = 4 := by rw [← toL_length, fx_list, M.putFix_length]
def crcB (s : ByteArray) : Nat := S.crc s.data.toList
theorem crcB_lt (s : ByteArray) : crcB s < 4294967296 := S.crc_lt _

/-- A payload's record. -/
def record (p : ByteArray) : ByteArray := ⟨#[82]⟩ ++ fx p.size ++ fx (crcB (fx p.size ++ p)) ++ p
theorem record_list (p : ByteArray) : (record p).data.toList = 82 :: (M.putFix 4 p.size ++ (M.putFix 4 (crcB (fx p.size ++ p)) ++ p.data.toList)) := by
  simp only [record, toL_append, fx_list, List.append_assoc]
  rfl
theorem record_size (p : ByteArray) : (record p).size = 9 + p.size := by
  rw [← toL_length, record_list]
  simp [M.putFix_length]; omega

def lenOf (s : ByteArray) : Nat := M.le ((s.data.toList.drop 1).take 4)
def sumOf (s : ByteArray) : Nat := M.le ((s.data.toList.drop 5).take 4)
def body (s : ByteArray) : ByteArray := s.extract 9 (9 + lenOf s)

/-- The payload of the record that bytes begin with, how many bytes it has, and the error. -/
def take (s : ByteArray) : ByteArray × Nat × Nat :=
  if s.size = 0 then (⟨#[]⟩, 0, 5)
  else if s.data.toList.head? ≠ some 82 then (⟨#[]⟩, 0, 40)
  else if s.size < 9 then (⟨#[]⟩, 0, 5)
  else if 262144 < lenOf s then (⟨#[]⟩, 0, 40)
  else if s.size < 9 + lenOf s then (⟨#[]⟩, 0, 5)
  else if crcB (s.extract 1 5 ++ body s) ≠ sumOf s then (⟨#[]⟩, 0, 40)
  else (body s, 9 + lenOf s, 0)

theorem take_yes {s : ByteArray} (h : (take s).2.2 = 0) : s.data.toList.head? = some 82 ∧ 9 ≤ s.size ∧ lenOf s ≤ 262144 ∧ 9 + lenOf s ≤ s.size ∧ crcB (s.extract 1 5 ++ body s) = sumOf s ∧ take s = (body s, 9 + lenOf s, 0) := by
  unfold take at h ⊢
  by_cases h1 : s.size = 0
  · rw [if_pos h1] at h; exact absurd h (by decide)
  rw [if_neg h1] at h ⊢
  by_cases h2 : s.data.toList.head? ≠ some 82
  · rw [if_pos h2] at h; exact absurd h (by decide)
  rw [if_neg h2] at h ⊢
  by_cases h3 : s.size < 9
  · rw [if_pos h3] at h; exact absurd h (by decide)
  rw [if_neg h3] at h ⊢
  by_cases h4 : 262144 < lenOf s
  · rw [if_pos h4] at h; exact absurd h (by decide)
  rw [if_neg h4] at h ⊢
  by_cases h5 : s.size < 9 + lenOf s
  · rw [if_pos h5] at h; exact absurd h (by decide)
  rw [if_neg h5] at h ⊢
  by_cases h6 : crcB (s.extract 1 5 ++ body s) ≠ sumOf s
  · rw [if_pos h6] at h; exact absurd h (by decide)
  rw [if_neg h6]
  exact ⟨Classical.not_not.1 h2, by omega, by omega, by omega, Classical.not_not.1 h6, rfl⟩

theorem take_no {s : ByteArray} (h : ¬ (take s).2.2 = 0) : (take s).2.1 = 0 ∧ (take s).1 = ⟨#[]⟩ := by
  unfold take at h ⊢
  repeat' split
  all_goals first | exact ⟨rfl, rfl⟩ | skip
  rename_i h1 h2 h3 h4 h5 h6
  rw [if_neg h1, if_neg h2, if_neg h3, if_neg h4, if_neg h5, if_neg h6] at h
  exact absurd rfl h

/-- The parts of bytes that begin with a head. -/
theorem parts (a b r : List UInt8) (s : ByteArray) (ha : a.length = 4) (hb : b.length = 4) (hs : s.data.toList = 82 :: (a ++ (b ++ r))) :
    s.data.toList.head? = some 82 ∧ s.size = 9 + r.length ∧ lenOf s = M.le a ∧ sumOf s = M.le b ∧ (s.extract 1 5).data.toList = a ∧ (body s).data.toList = r.take (M.le a) := by
  have e1 : (s.data.toList.drop 1).take 4 = a := by rw [hs, List.drop_succ_cons, List.drop_zero, ← ha, List.take_left]
  have e2 : s.data.toList.drop 5 = b ++ r := by
    rw [hs, List.drop_succ_cons, ← ha, List.drop_left]
  have e3 : s.data.toList.drop 9 = r := by
    rw [show (9 : Nat) = 5 + 4 from rfl, ← List.drop_drop, e2, ← hb, List.drop_left]
  have e4 : lenOf s = M.le a := by unfold lenOf; rw [e1]
  refine ⟨by rw [hs]; rfl, ?_, e4, ?_, ?_, ?_⟩
  · rw [← toL_length, hs]; simp [ha, hb]; omega
  · unfold sumOf; rw [e2, ← hb, List.take_left]
  · rw [toL_extract]; exact e1
  · unfold body; rw [toL_extract, e4, e3]; congr 1; omega

theorem le4 {n : Nat} (h : n < 4294967296) : M.le (M.putFix 4 n) = n := M.le_put 4 n (by omega)

theorem take_record (p t : ByteArray) (h : p.size ≤ 262144) : take (record p ++ t) = (p, 9 + p.size, 0) := by
  have hc := crcB_lt (fx p.size ++ p)
  obtain ⟨h1, h2, h3, h4, h5, h6⟩ := parts (M.putFix 4 p.size) (M.putFix 4 (crcB (fx p.size ++ p))) (p.data.toList ++ t.data.toList) (record p ++ t) (M.putFix_length _ _) (M.putFix_length _ _)
    (by rw [toL_append, record_list]; simp)
  rw [le4 (by omega)] at h3 h6
  rw [le4 hc] at h4
  have hl : p.data.toList.length = p.size := toL_length p
  have hb : body (record p ++ t) = p := ext (by rw [h6, ← hl, List.take_left])
  have hx : (record p ++ t).extract 1 5 = fx p.size := ext (by rw [h5, fx_list])
  rw [List.length_append, hl] at h2
  unfold take
  rw [if_neg (by omega), if_neg (by rw [h1]; simp), if_neg (by omega), if_neg (by omega), if_neg (by omega), if_neg (by rw [hx, hb, h4]; simp), hb, h3]

/-- A record that lacks its end is not taken. -/
theorem take_cut (p t : ByteArray) (k : Nat) (h : p.size ≤ 262144) (hk : k < 9 + p.size) : ¬ (take ((record p ++ t).extract 0 k)).2.2 = 0 := by
  intro he
  obtain ⟨_, h9, _, hle, _, _⟩ := take_yes he
  have hsz : ((record p ++ t).extract 0 k).size = k := by
    rw [← toL_length, toL_extract, List.length_take, List.drop_zero, toL_append, List.length_append, toL_length, toL_length, record_size]; omega
  have hlen : lenOf ((record p ++ t).extract 0 k) = p.size := by
    unfold lenOf
    rw [toL_extract, List.drop_zero, Nat.sub_zero, List.drop_take, List.take_take, Nat.min_eq_left (by omega), toL_append, record_list]
    rw [List.cons_append, List.drop_succ_cons, List.drop_zero, List.append_assoc, List.take_append_of_le_length (by rw [M.putFix_length]; omega), List.take_of_length_le (by rw [M.putFix_length]; omega), le4 (by omega)]
  omega

theorem putFix_le : ∀ l : List UInt8, M.putFix l.length (M.le l) = l
  | [] => rfl
  | b :: r => by
    have hb := b.toNat_lt
    show M.putFix (r.length + 1) (M.le (b :: r)) = _
    have e : M.le (b :: r) = b.toNat + 256 * M.le r := by simp [M.le]
    have e1 : M.le (b :: r) / 256 = M.le r := by rw [e]; omega
    have e2 : M.le (b :: r) % 256 = b.toNat := by rw [e]; omega
    simp only [M.putFix, e1, e2, putFix_le r]
    simp

/-- What is taken, put again, is the bytes that were taken. -/
theorem take_back {s : ByteArray} (h : (take s).2.2 = 0) : (take s).1.size ≤ 262144 ∧ (take s).2.1 = 9 + (take s).1.size ∧ (take s).2.1 ≤ s.size ∧ record (take s).1 = s.extract 0 (take s).2.1 := by
  obtain ⟨h1, h2, h3, h4, h5, h6⟩ := take_yes h
  rw [h6]
  have hsz : (body s).size = lenOf s := by
    unfold body; rw [← toL_length, toL_extract, List.length_take, List.length_drop, toL_length]; omega
  have q1 : fx (body s).size = s.extract 1 5 := by
    refine ext ?_
    rw [fx_list, hsz, toL_extract]
    have hl : ((s.data.toList.drop 1).take 4).length = 4 := by rw [List.length_take, List.length_drop, toL_length]; omega
    show M.putFix 4 (M.le ((s.data.toList.drop 1).take 4)) = _
    have := putFix_le ((s.data.toList.drop 1).take 4)
    rw [hl] at this
    exact this
  have q2 : fx (crcB (fx (body s).size ++ body s)) = s.extract 5 9 := by
    rw [q1, h5]
    refine ext ?_
    rw [fx_list, toL_extract]
    have hl : ((s.data.toList.drop 5).take 4).length = 4 := by rw [List.length_take, List.length_drop, toL_length]; omega
    show M.putFix 4 (M.le ((s.data.toList.drop 5).take 4)) = _
    have := putFix_le ((s.data.toList.drop 5).take 4)
    rw [hl] at this
    exact this
  refine ⟨by show (body s).size ≤ _; omega, by simp only [hsz], h4, ?_⟩
  unfold record
  rw [q2, q1]
  refine ext ?_
  obtain ⟨b, r, hl⟩ : ∃ b r, s.data.toList = b :: r := by
    cases hc : s.data.toList with
    | nil => rw [hc] at h1; simp at h1
    | cons b r => exact ⟨b, r, rfl⟩
  have hb : b = 82 := by rw [hl] at h1; simpa using h1
  subst hb
  unfold body
  simp only [toL_append, toL_extract, hl]
  show [82] ++ _ ++ _ ++ _ = _
  simp only [List.drop_succ_cons, List.drop_zero, Nat.sub_zero]
  rw [show 9 + lenOf s - 9 = lenOf s by omega, show 9 + lenOf s = 8 + lenOf s + 1 by omega, List.take_succ_cons]
  simp only [List.cons_append, List.nil_append, List.append_assoc]
  congr 1
  rw [show 8 + lenOf s = 4 + (4 + lenOf s) by omega, List.take_add, List.take_add, List.drop_drop]

/-- All payloads that stand one behind the other, and how many bytes they have. -/
def scanF : Nat → ByteArray → List ByteArray × Nat
  | 0, _ => ([], 0)
  | f + 1, s => if (take s).2.2 = 0 then ((take s).1 :: (scanF f (s.extract (take s).2.1 s.size)).1, (take s).2.1 + (scanF f (s.extract (take s).2.1 s.size)).2) else ([], 0)
def scan (s : ByteArray) : List ByteArray × Nat := scanF s.size s

theorem rest_size (s : ByteArray) (n : Nat) (h : n ≤ s.size) : (s.extract n s.size).size = s.size - n := by
  rw [← toL_length, toL_extract, List.length_take, List.length_drop, toL_length]; omega

theorem scanF_more : ∀ (f g : Nat) (s : ByteArray), s.size ≤ f → s.size ≤ g → scanF f s = scanF g s
  | 0, 0, _, _, _ => rfl
  | 0, g + 1, s, h, _ => by
    have h0 : s.size = 0 := by omega
    have : take s = (⟨#[]⟩, 0, 5) := by unfold take; rw [if_pos h0]
    simp [scanF, this]
  | f + 1, 0, s, _, h => by
    have h0 : s.size = 0 := by omega
    have : take s = (⟨#[]⟩, 0, 5) := by unfold take; rw [if_pos h0]
    simp [scanF, this]
  | f + 1, g + 1, s, hf, hg => by
    simp only [scanF]
    by_cases h : (take s).2.2 = 0
    · obtain ⟨_, h2, h3, _⟩ := take_back h
      have hr := rest_size s _ h3
      rw [if_pos h, if_pos h, scanF_more f g _ (by omega) (by omega)]
    · rw [if_neg h, if_neg h]

theorem scan_yes {s : ByteArray} (h : (take s).2.2 = 0) : scan s = ((take s).1 :: (scan (s.extract (take s).2.1 s.size)).1, (take s).2.1 + (scan (s.extract (take s).2.1 s.size)).2) := by
  obtain ⟨_, h2, h3, _⟩ := take_back h
  have hr := rest_size s _ h3
  obtain ⟨m, hm⟩ : ∃ m, s.size = m + 1 := ⟨s.size - 1, by omega⟩
  have e : scan (s.extract (take s).2.1 s.size) = scanF m (s.extract (take s).2.1 s.size) := scanF_more _ _ _ (Nat.le_refl _) (by omega)
  rw [e]
  unfold scan
  conv => lhs; rw [hm]
  simp only [scanF]
  rw [if_pos h]

theorem scan_no {s : ByteArray} (h : ¬ (take s).2.2 = 0) : scan s = ([], 0) := by
  unfold scan
  cases s.size with
  | zero => rfl
  | succ n => simp only [scanF]; rw [if_neg h]

theorem rest_rest (s : ByteArray) (a n : Nat) (ha : a ≤ s.size) : (s.extract a s.size).extract n (s.extract a s.size).size = s.extract (a + n) s.size := by
  refine ext ?_
  rw [toL_extract, toL_extract, toL_extract, rest_size s a ha, List.drop_take, List.take_take, List.drop_drop]
  congr 1
  omega

/-- One round: at the place a. -/
theorem scan_next {s : ByteArray} {a n : Nat} {t : ByteArray} (ha : a ≤ s.size) (h : take (s.extract a s.size) = (t, n, 0)) :
    a + n ≤ s.size ∧ 9 ≤ n ∧ t.size ≤ 262144 ∧ scan (s.extract a s.size) = (t :: (scan (s.extract (a + n) s.size)).1, n + (scan (s.extract (a + n) s.size)).2) := by
  have h0 : (take (s.extract a s.size)).2.2 = 0 := by rw [h]
  obtain ⟨h1, h2, h3, _⟩ := take_back h0
  have hr := rest_size s a ha
  have hy := scan_yes h0
  rw [h] at h1 h2 h3 hy
  rw [rest_rest s a n ha] at hy
  simp only at h1 h2 h3
  exact ⟨by omega, by omega, h1, hy⟩

theorem extract_all (s : ByteArray) : s.extract 0 s.size = s := by
  refine ext ?_
  rw [toL_extract, List.drop_zero, Nat.sub_zero, List.take_of_length_le (by rw [toL_length]; exact Nat.le_refl _)]

theorem record_rest (p t : ByteArray) : (record p ++ t).extract (9 + p.size) (record p ++ t).size = t := by
  refine ext ?_
  have hl : (record p).data.toList.length = 9 + p.size := by rw [toL_length, record_size]
  rw [toL_extract, toL_append, ← hl, List.drop_left, List.take_of_length_le]
  rw [← toL_length (record p ++ t), toL_append, List.length_append]; omega

theorem scan_record (p t : ByteArray) (h : p.size ≤ 262144) : scan (record p ++ t) = (p :: (scan t).1, 9 + p.size + (scan t).2) := by
  have e := take_record p t h
  have := scan_yes (s := record p ++ t) (by rw [e])
  rw [e] at this
  rw [this]
  simp only
  rw [record_rest]

/-- Records one behind the other. -/
def all : List ByteArray → ByteArray
  | [] => ⟨#[]⟩
  | p :: r => record p ++ all r

theorem all_snoc : ∀ (l : List ByteArray) (p : ByteArray), all (l ++ [p]) = all l ++ record p
  | [], p => ext (by simp [all])
  | q :: r, p => by
    show record q ++ all (r ++ [p]) = _
    rw [all_snoc r p, all, ByteArray.append_assoc]

/-- What is scanned, put again, is the bytes that were scanned. -/
theorem scanF_back : ∀ (f : Nat) (s : ByteArray), (scanF f s).2 ≤ s.size ∧ (∀ t ∈ (scanF f s).1, t.size ≤ 262144) ∧ all (scanF f s).1 = s.extract 0 (scanF f s).2
  | 0, s => ⟨Nat.zero_le _, by simp [scanF], ext (by simp [scanF, all])⟩
  | f + 1, s => by
    simp only [scanF]
    by_cases h : (take s).2.2 = 0
    · rw [if_pos h]
      obtain ⟨h1, h2, h3, h4⟩ := take_back h
      obtain ⟨i1, i2, i3⟩ := scanF_back f (s.extract (take s).2.1 s.size)
      rw [rest_size s _ h3] at i1
      generalize scanF f (s.extract (take s).2.1 s.size) = x at i1 i2 i3
      refine ⟨by simp only; omega, ?_, ?_⟩
      · intro t ht
        rcases List.mem_cons.1 ht with e | e
        · rw [e]; exact h1
        · exact i2 t e
      · simp only [all]
        rw [h4, i3]
        refine ext ?_
        rw [toL_append, toL_extract, toL_extract, toL_extract, toL_extract, List.drop_zero, List.drop_zero, Nat.sub_zero, Nat.sub_zero, Nat.sub_zero, List.take_take, List.take_add, Nat.min_eq_left (by omega)]
    · rw [if_neg h]
      exact ⟨Nat.zero_le _, by simp, ext (by simp [all])⟩
theorem scan_back (s : ByteArray) : (scan s).2 ≤ s.size ∧ (∀ t ∈ (scan s).1, t.size ≤ 262144) ∧ all (scan s).1 = s.extract 0 (scan s).2 := scanF_back _ _
theorem all_take_size : ∀ (l : List ByteArray) (k : Nat), (all (l.take k)).size ≤ (all l).size
  | [], k => by simp
  | p :: r, 0 => by
    have e : (all ((p :: r).take 0)).size = 0 := rfl
    omega
  | p :: r, k + 1 => by
    rw [List.take_succ_cons, all, all, ByteArray.size_append, ByteArray.size_append]
    have := all_take_size r k
    omega

/-- How many of them are whole within the first k bytes. -/
def whole : List ByteArray → Nat → Nat
  | [], _ => 0
  | p :: r, k => if 9 + p.size ≤ k then whole r (k - (9 + p.size)) + 1 else 0
def ended : List ByteArray → Nat
  | [] => 0
  | p :: r => 9 + p.size + ended r

theorem all_size : ∀ l, (all l).size = ended l
  | [] => rfl
  | p :: r => by rw [all, ended, ByteArray.size_append, record_size, all_size r]

theorem scan_cut : ∀ (l : List ByteArray) (k : Nat), (∀ p ∈ l, p.size ≤ 262144) → k ≤ (all l).size → scan ((all l).extract 0 k) = (l.take (whole l k), ended (l.take (whole l k)))
  | [], k, _, hk => by
    have h0 : k = 0 := by have e : (all []).size = 0 := rfl
                          omega
    subst h0
    rfl
  | p :: r, k, hp, hk => by
    have h := hp p (by simp)
    unfold whole
    by_cases hw : 9 + p.size ≤ k
    · rw [if_pos hw, List.take_succ_cons, ended]
      have e : (all (p :: r)).extract 0 k = record p ++ (all r).extract 0 (k - (9 + p.size)) := by
        refine ext ?_
        rw [toL_append, toL_extract, toL_extract, all, toL_append, List.drop_zero, List.drop_zero, Nat.sub_zero, Nat.sub_zero]
        have hl : (record p).data.toList.length = 9 + p.size := by rw [toL_length, record_size]
        rw [List.take_append, hl, List.take_of_length_le (by omega)]
      have hk' : k - (9 + p.size) ≤ (all r).size := by
        rw [all, ByteArray.size_append, record_size] at hk; omega
      rw [e, scan_record p _ h, scan_cut r (k - (9 + p.size)) (fun q hq => hp q (by simp [hq])) hk']
    · rw [if_neg hw]
      exact scan_no (take_cut p (all r) k h (by omega))

theorem whole_le : ∀ (l : List ByteArray) (k : Nat), whole l k ≤ l.length
  | [], _ => Nat.le_refl _
  | p :: r, k => by
    unfold whole
    split
    · have := whole_le r (k - (9 + p.size)); simp; omega
    · omega
theorem ended_mono : ∀ (l : List ByteArray) (m : Nat), ended (l.take m) ≤ ended l
  | [], m => by simp
  | p :: r, 0 => by simp [ended]
  | p :: r, m + 1 => by rw [List.take_succ_cons, ended, ended]; have := ended_mono r m; omega
/-- The first so many are whole just if they end within k. -/
theorem whole_iff : ∀ (l : List ByteArray) (k m : Nat), m < l.length → (ended (l.take (m + 1)) ≤ k ↔ m < whole l k)
  | [], k, m, h => by simp at h
  | p :: r, k, m, h => by
    unfold whole
    rw [List.take_succ_cons, ended]
    split
    · rename_i hw
      cases m with
      | zero => simp [ended]; exact hw
      | succ m =>
        have := whole_iff r (k - (9 + p.size)) m (by simpa using h)
        omega
    · rename_i hw
      constructor
      · intro h; omega
      · intro h; omega

/-- Of a sum's bytes one is another one: so is the sum. -/
theorem crc_one (p s : List UInt8) (a b : UInt8) (h : S.crc (p ++ a :: s) = S.crc (p ++ b :: s)) : a = b := by
  unfold S.crc at h
  have h1 : S.fold 4294967295 (p ++ a :: s) = S.fold 4294967295 (p ++ b :: s) := by
    have := congrArg (fun x => x ^^^ 4294967295) h
    simpa [Nat.xor_assoc] using this
  rw [S.fold_append, S.fold_append] at h1
  have hc := S.fold_lt p (c := 4294967295) (by decide)
  generalize S.fold 4294967295 p = c at h1 hc
  have e := S.fold_xor (a :: s) (b :: s) c c (by simp)
  rw [h1, Nat.xor_self, Nat.xor_self] at e
  have hz : List.zipWith (· ^^^ ·) (a :: s) (b :: s) = (a ^^^ b) :: List.replicate s.length 0 := by
    rw [List.zipWith_cons_cons]
    congr 1
    exact List.ext_getElem (by simp) (by intro i h1 h2; simp)
  rw [hz] at e
  have e2 : S.fold (S.step 0 (a ^^^ b)) (List.replicate s.length 0) = 0 := e
  have e3 := S.fold_zeros _ _ (S.step_lt _ (by decide)) e2
  unfold S.step at e3
  rw [Nat.zero_xor] at e3
  have hab := (a ^^^ b).toNat_lt
  have e4 := S.it_ne 8 (by omega) e3
  have e5 : a ^^^ b = 0 := UInt8.toNat_inj.1 e4
  have : a ^^^ (a ^^^ b) = a := by rw [e5, UInt8.xor_zero]
  rw [← UInt8.xor_assoc, UInt8.xor_self, UInt8.zero_xor] at this
  exact this.symm

theorem le_inj {a b : List UInt8} (hl : a.length = b.length) (h : M.le a = M.le b) : a = b := by
  rw [← putFix_le a, ← putFix_le b, hl, h]

/-- A record of which one byte behind its length, or the first, is another one. -/
theorem take_turned (p : ByteArray) (k : Nat) (b : UInt8) (s : ByteArray) (hp : p.size ≤ 262144) (hk : k < (record p).size) (hk' : k < 1 ∨ 5 ≤ k) (hs : s.data.toList = (record p).data.toList.set k b)
    (hb : b ≠ (record p).data.toList[k]'(by rw [toL_length]; exact hk)) : take s = (⟨#[]⟩, 0, 40) := by
  rw [record_size] at hk
  have hc := crcB_lt (fx p.size ++ p)
  have la := M.putFix_length 4 p.size
  have lb := M.putFix_length 4 (crcB (fx p.size ++ p))
  have hl : p.data.toList.length = p.size := toL_length p
  have hsz : s.size = 9 + p.size := by rw [← toL_length, hs, List.length_set, toL_length, record_size]
  rcases Nat.lt_or_ge k 1 with h0 | h0
  · obtain rfl : k = 0 := by omega
    have e : s.data.toList.head? ≠ some 82 := by
      rw [hs, record_list, List.set_cons_zero, List.head?_cons]
      simp only [record_list, List.getElem_cons_zero] at hb
      simpa using hb
    unfold take
    rw [if_neg (by omega), if_pos e]
  · obtain ⟨j, rfl⟩ : ∃ j, k = 5 + j := ⟨k - 5, by omega⟩
    have hg : (record p).data.toList[5 + j]'(by rw [toL_length, record_size]; exact hk) = (M.putFix 4 (crcB (fx p.size ++ p)) ++ p.data.toList)[j]'(by rw [List.length_append, lb, hl]; omega) := by
      simp only [record_list]
      rw [List.getElem_cons]
      rw [dif_neg (by omega)]
      rw [List.getElem_append_right (by omega)]
      congr 1
      omega
    rw [hg] at hb
    have hs' : s.data.toList = 82 :: (M.putFix 4 p.size ++ (M.putFix 4 (crcB (fx p.size ++ p)) ++ p.data.toList).set j b) := by
      rw [hs, record_list, show 5 + j = (4 + j) + 1 by omega, List.set_cons_succ, List.set_append_right _ _ (by omega), la, show 4 + j - 4 = j by omega]
    obtain ⟨c, hcs⟩ : ∃ c, crcB (fx p.size ++ p) = c := ⟨_, rfl⟩
    rw [hcs] at hs' hc lb
    simp only [hcs] at hb
    by_cases h4 : j < 4
    · rw [List.set_append_left _ _ (by omega)] at hs'
      simp only [List.getElem_append_left (show j < (M.putFix 4 c).length by omega)] at hb
      obtain ⟨q1, q2, q3, q4, q5, q6⟩ := parts (M.putFix 4 p.size) ((M.putFix 4 c).set j b) p.data.toList s la (by rw [List.length_set, lb]) hs'
      rw [le4 (by omega)] at q3 q6
      have hbd : body s = p := ext (by rw [q6, ← hl, List.take_length])
      have hx : s.extract 1 5 = fx p.size := ext (by rw [q5, fx_list])
      have hne : c ≠ sumOf s := by
        intro e
        rw [q4] at e
        have e2 : M.le (M.putFix 4 c) = M.le ((M.putFix 4 c).set j b) := by rw [le4 hc]; exact e
        have e3 := le_inj (by simp) e2
        apply hb
        have := congrArg (fun l => l[j]?) e3
        simp only [List.getElem?_eq_getElem (show j < (M.putFix 4 c).length by omega), List.getElem?_set_self (show j < (M.putFix 4 c).length by omega)] at this
        exact (Option.some.inj this).symm
      unfold take
      rw [if_neg (by omega), if_neg (by rw [q1]; simp), if_neg (by omega), if_neg (by omega), if_neg (by omega), if_pos (by rw [hx, hbd, hcs]; exact hne)]
    · rw [List.set_append_right _ _ (by omega), lb] at hs'
      simp only [List.getElem_append_right (show (M.putFix 4 c).length ≤ j by omega), lb] at hb
      obtain ⟨i, rfl⟩ : ∃ i, j = 4 + i := ⟨j - 4, by omega⟩
      simp only [show 4 + i - 4 = i by omega] at hb hs'
      obtain ⟨q1, q2, q3, q4, q5, q6⟩ := parts (M.putFix 4 p.size) (M.putFix 4 c) (p.data.toList.set i b) s la lb hs'
      rw [le4 (by omega)] at q3 q6
      rw [le4 hc] at q4
      have q7 : (body s).data.toList = p.data.toList.set i b := by rw [q6]; exact List.take_of_length_le (by rw [List.length_set]; omega)
      have hne : crcB (s.extract 1 5 ++ body s) ≠ sumOf s := by
        rw [q4, ← hcs]
        unfold crcB
        rw [toL_append, toL_append, q5, q7, fx_list]
        intro e
        have hi : i < p.data.toList.length := by omega
        have d1 : p.data.toList.set i b = p.data.toList.take i ++ b :: p.data.toList.drop (i + 1) := by rw [List.set_eq_take_append_cons_drop, if_pos hi]
        have d2 : p.data.toList = p.data.toList.take i ++ p.data.toList[i] :: p.data.toList.drop (i + 1) := by
          conv => lhs; rw [← List.take_append_drop i p.data.toList, List.drop_eq_getElem_cons hi]
        rw [d1] at e
        conv at e => rhs; rw [d2]
        rw [← List.append_assoc, ← List.append_assoc] at e
        exact hb (crc_one _ _ _ _ e)
      unfold take
      rw [if_neg (by omega), if_neg (by rw [q1]; simp), if_neg (by omega), if_neg (by omega), if_neg (by omega), if_pos hne]

end Go.Proofs.Ytpfnkjfbhcffiaa.F
