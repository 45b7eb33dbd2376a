/-
  What Scan does: all records that stand one behind the other; each next one by a closure.
-/
import Derived.Test.YtpalmkneaffklaaFrTake
import Derived.Test.YtpalmkneaffklaaArrS
import Derived.Test.YtpalmkneaffklaaDkCells
import Derived.OneCell
namespace Go.Proofs.Ytpalmkneaffklaa
open Go.RowKit

/-- While Scan runs: its two variables in blocks of their own, and the row of texts. -/
structure Sc (w0 w : World) (s : ByteArray) (a : Nat) (v : Value) (ts : List ByteArray) : Prop where
  hs : w.heap[w0.heap.size]? = some (.cells #[.string s] 9 (0, 0))
  ha : w.heap[w0.heap.size + 1]? = some (.cells #[.int .i64 (a : Int)] 3 (0, 0))
  row : w.ownsRow (w0.heap.size + 2) 9 1 v (ts.map Value.string).length (ts.map Value.string)
  below : Below w0.heap.size w0 w

theorem Sc.size {w0 w : World} {s : ByteArray} {a : Nat} {v : Value} {ts : List ByteArray} (h : Sc w0 w s a v ts) : w0.heap.size + 2 ≤ w.heap.size := by
  have := lt_of_block h.ha
  omega

theorem Sc.drew {w0 w : World} {s : ByteArray} {a : Nat} {v : Value} {ts : List ByteArray} (h : Sc w0 w s a v ts) : Sc w0 w.drew s a v ts := ⟨h.hs, h.ha, h.row.drew, h.below.drew⟩

/-- Behind the closure: the count has turned. -/
theorem Sc.turned {w0 w w1 : World} {s : ByteArray} {a : Nat} {v : Value} {ts : List ByteArray} (h : Sc w0 w s a v ts) (hb : Below w.heap.size w w1) (n : Nat) : Sc w0 (w1.setCell ⟨w0.heap.size + 1, 0, none⟩ (.int .i64 (n : Int))) s n v ts := by
  have hsz := h.size
  have hlt := lt_of_block h.ha
  refine ⟨?_, one_setCell (by rw [hb.block _ hlt]; exact h.ha), ?_, (h.below.trans (hb.mono (by omega))).setCell (by show w0.heap.size ≤ w0.heap.size + 1; omega) _⟩
  · rw [Below.heap_setCell _ _ _ _ (by show w0.heap.size ≠ w0.heap.size + 1; omega), hb.block _ (by omega)]; exact h.hs
  · refine ownsRow_setCell_below ?_ (by show w0.heap.size + 1 < w0.heap.size + 2; omega) _
    obtain ⟨h1, h2⟩ := h.row
    refine ⟨h1, ?_⟩
    rcases h2 with h2 | ⟨g, cap, cur, hv, hg, hh, r⟩
    · exact .inl h2
    · exact .inr ⟨g, cap, cur, hv, hg, by rw [hb.block _ (lt_of_block hh)]; exact hh, r⟩

/-- Behind an append. -/
theorem Sc.push {w0 w w1 : World} {s t : ByteArray} {a : Nat} {v v' : Value} {ts : List ByteArray} {o : Obj} (h : Sc w0 w s a v ts) (hg : (w.alloc o).grownBy w1 v.ownBlock)
    (ho : w1.ownsRow (w0.heap.size + 2) 9 1 v' ((ts.map Value.string).length + 1) (ts.map Value.string ++ [Value.string t])) : Sc w0 w1 s a v' (ts ++ [t]) := by
  have hsz := h.size
  have hr : ∀ k, v.ownBlock = some k → w0.heap.size + 2 ≤ k := fun k hk => (World.ownsRow.lt h.row k hk).1
  have hb : Below (w0.heap.size + 2) w w1 := ((Below.refl _ w).alloc hsz _).grown hg (by simp; omega) hr
  exact ⟨by rw [hb.block _ (by omega)]; exact h.hs, by rw [hb.block _ (by omega)]; exact h.ha, by simpa using ho, h.below.trans (hb.mono (by omega))⟩

theorem Sc.start (w : World) (s : ByteArray) : Sc w ((w.alloc (.cells #[.string s] 9)).alloc (.cells #[.int .i64 0] 3)) s 0 (.slice none 0 0) [] := by
  refine ⟨?_, ?_, World.ownsRow_nil _ _ _ _, ((Below.refl _ w).alloc (Nat.le_refl _) _).alloc (by simp) _⟩
  · rw [Below.heap_alloc _ _ _ (by simp)]; exact heap_alloc_new _ _
  · have := heap_alloc_new (w.alloc (.cells #[.string s] 9)) (.cells #[.int .i64 0] 3)
    simpa using this

/-- The texts of a row of the call's own. -/
theorem strs_row {w : World} {base : Nat} {e : TypeId} {v : Value} {ts : List ByteArray} (h : w.ownsRow base e 1 v (ts.map Value.string).length (ts.map Value.string)) (hs : ∀ t ∈ ts, t.size ≤ maxLen) : Strs w v ts := by
  obtain ⟨h1, ⟨h2, h3⟩ | ⟨g, cap, cur, hv, hg, hh, hn, hm, hcs, ht⟩⟩ := h
  · rw [List.length_map] at h3
    have : ts = [] := List.eq_nil_of_length_eq_zero h3
    subst this
    exact ⟨none, 0, h2, Nat.le_refl _, by unfold maxLen; omega, by simp, .inl rfl⟩
  · have o : w.ownsRow base e 1 (.slice (some ⟨g, 0, none⟩) (ts.map Value.string).length cap) (ts.map Value.string).length (ts.map Value.string) := ⟨h1, .inr ⟨g, cap, cur, rfl, hg, hh, hn, hm, hcs, ht⟩⟩
    rw [List.length_map] at hv hn
    refine ⟨_, cap, hv, hn, hm, hs, .inr ⟨g, 0, rfl, lt_of_block hh, fun j hj => ?_⟩⟩
    rw [Nat.zero_add, World.ownsRow.cellAt o j (by simpa using hj)]
    simp [hj]

theorem Strs.below {w w' : World} {v : Value} {xs : List ByteArray} (h : Strs w v xs) (hb : Below w.heap.size w w') : Strs w' v xs := by
  obtain ⟨ao, c, h1, h2, h3, h4, h5⟩ := h
  refine ⟨ao, c, h1, h2, h3, h4, ?_⟩
  rcases h5 with h5 | ⟨g, o, e, hg, hc⟩
  · exact .inl h5
  · exact .inr ⟨g, o, e, Nat.lt_of_lt_of_le hg hb.size, fun j hj => by rw [hb.cell (p := ⟨g, o + j, none⟩) hg]; exact hc j hj⟩

set_option maxHeartbeats 400000 in
theorem scan_clo (s : ByteArray) (a p q : Nat) (w : World) (hs : s.size ≤ 1000000000) (ha : a ≤ s.size) (hp : w.heap[p]? = some (.cells #[.string s] 9 (0, 0))) (hq : w.heap[q]? = some (.cells #[.int .i64 (a : Int)] 3 (0, 0)))
    (t : ByteArray) (n x : Nat) (hx : F.take (s.extract a s.size) = (t, n, x)) (b : Bool) (hb : ((x : Int) == 0) = b) (hn : n ≤ 262153) :
    Calls Try.prog 24 #[.pointer (some ⟨p, 0, none⟩), .pointer (some ⟨q, 0, none⟩)] w fun e w' => e = .returned (.tuple #[.string t, .bool b]) ∧ ∃ w1, Below w.heap.size w w1 ∧ w' = w1.setCell ⟨q, 0, none⟩ (.int .i64 ((a + n : Nat) : Int)) := by
  have c1 := cell_of_one hp
  have c2 := cell_of_one hq
  have lq := lt_of_block hq
  have fq := free_of_one hq
  have HT : Hid _ := frame_Take (s.extract a s.size) w (by rw [F.rest_size s a ha]; omega)
  rw [hx] at HT
  have hsum : ((a + n : Nat) : Int) = (a : Int) + (n : Int) := by omega
  clear hx hp hq
  go_enter Try.func24, Try.ntmps24
  go_wp2_with fail
  refine Calls.mono HT.out ?_
  rintro e w1 ⟨rfl, hb1⟩
  have d2 : w1.cell? ⟨q, 0, none⟩ = some (.int .i64 (a : Int)) := by rw [hb1.cell (p := ⟨q, 0, none⟩) lq]; exact c2
  have g2 : w1.frozen? ⟨q, 0, none⟩ = false := by rw [hb1.frozen (p := ⟨q, 0, none⟩) lq]; exact fq
  have HB : Hid (Below w.heap.size w w1) := hb1
  clear hb1 c1 c2 fq
  go_wp2
  go_ret2
  exact ⟨rfl, w1, HB.out, by rw [hsum]⟩

theorem take_size {s t : ByteArray} {n x : Nat} (h : F.take s = (t, n, x)) : n ≤ 262153 ∧ t.size ≤ 262144 ∧ (x ≠ 0 → n = 0) := by
  by_cases h0 : (F.take s).2.2 = 0
  · obtain ⟨h1, h2, _, _⟩ := F.take_back h0
    rw [h] at h0 h1 h2
    simp only at h0 h1 h2
    exact ⟨by omega, h1, fun e => absurd h0 e⟩
  · obtain ⟨h1, h2⟩ := F.take_no h0
    rw [h] at h1 h2
    simp only at h1 h2
    subst h1 h2
    exact ⟨by omega, by decide, fun _ => rfl⟩

/-- What scanning from a place on gives, by what one call of the closure gave. -/
def gave (s : ByteArray) (a a' : Nat) (t : ByteArray) (b : Bool) : Prop :=
  a' ≤ s.size ∧ t.size ≤ 262144 ∧ (b = true → a + 9 ≤ a') ∧ F.scan (s.extract a s.size) = if b = true then (t :: (F.scan (s.extract a' s.size)).1, (a' - a) + (F.scan (s.extract a' s.size)).2) else ([], a' - a)

theorem clo_step {w0 w : World} {s : ByteArray} {a : Nat} {v : Value} {ts : List ByteArray} (h : Sc w0 w s a v ts) (hs : s.size ≤ 1000000000) (ha : a ≤ s.size) :
    Calls Try.prog 24 #[.pointer (some ⟨w0.heap.size, 0, none⟩), .pointer (some ⟨w0.heap.size + 1, 0, none⟩)] w fun e w' => ∃ t a' b, e = .returned (.tuple #[.string t, .bool b]) ∧ Sc w0 w' s a' v ts ∧ gave s a a' t b ∧ a ≤ a' := by
  obtain ⟨t, n, x, hx⟩ : ∃ t n x, F.take (s.extract a s.size) = (t, n, x) := ⟨_, _, _, rfl⟩
  obtain ⟨h1, h2, h3⟩ := take_size hx
  refine (scan_clo s a w0.heap.size (w0.heap.size + 1) w hs ha h.hs h.ha t n x hx _ rfl h1).mono ?_
  rintro e w' ⟨rfl, w1, hb, rfl⟩
  refine ⟨t, a + n, _, rfl, h.turned hb (a + n), ?_, by omega⟩
  by_cases hx0 : x = 0
  · subst hx0
    obtain ⟨q1, q2, q3, q4⟩ := F.scan_next ha hx
    refine ⟨q1, h2, fun _ => by omega, ?_⟩
    rw [show (((0 : Nat) : Int) == 0) = true from rfl, if_pos rfl, q4, show a + n - a = n by omega]
  · have e : ((x : Int) == 0) = false := by simpa using hx0
    have := h3 hx0
    subst this
    rw [e]
    refine ⟨ha, h2, (fun h => Bool.noConfusion h), ?_⟩
    rw [if_neg (by decide), F.scan_no (by rw [hx]; exact hx0), show a + 0 - a = 0 by omega]

def sliceLen : Value → Nat
  | .slice _ n _ => n
  | _ => 0

theorem Sc.len {w0 w : World} {s : ByteArray} {a : Nat} {v : Value} {ts : List ByteArray} (h : Sc w0 w s a v ts) : sliceLen v = ts.length := by
  obtain ⟨_, ⟨h2, h3⟩ | ⟨g, cap, cur, hv, _⟩⟩ := h.row
  · rw [List.length_map] at h3; rw [h2, h3]; rfl
  · rw [hv]; simp [sliceLen]

/-- In the loop: what has been scanned so far. -/
def going (s : ByteArray) (ts : List ByteArray) (a : Nat) (t : ByteArray) (b : Bool) : Prop :=
  a ≤ s.size ∧ ts.length * 9 ≤ a ∧ (∀ t ∈ ts, t.size ≤ 262144) ∧ t.size ≤ 262144 ∧ (b = true → ts.length * 9 + 9 ≤ a) ∧ F.scan s = if b = true then (ts ++ t :: (F.scan (s.extract a s.size)).1, a + (F.scan (s.extract a s.size)).2) else (ts, a)

theorem going.first {s : ByteArray} {a : Nat} {t : ByteArray} {b : Bool} (h : gave s 0 a t b) : going s [] a t b := by
  obtain ⟨h1, h2, h3, h4⟩ := h
  rw [F.extract_all, Nat.sub_zero] at h4
  exact ⟨h1, by simp, by simp, h2, fun e => by simpa using h3 e, by simpa using h4⟩

theorem going.next {s : ByteArray} {ts : List ByteArray} {a a' : Nat} {t t' : ByteArray} {b : Bool} (h : going s ts a t true) (k : gave s a a' t' b) (haa : a ≤ a') : going s (ts ++ [t]) a' t' b := by
  obtain ⟨h1, h2, h3, h4, h5, h6⟩ := h
  obtain ⟨k1, k2, k3, k4⟩ := k
  have h5 := h5 rfl
  rw [if_pos rfl, k4] at h6
  refine ⟨k1, by simp; omega, ?_, k2, fun e => by have := k3 e; simp; omega, ?_⟩
  · intro u hu
    rcases List.mem_append.1 hu with hu | hu
    · exact h3 u hu
    · simp at hu; subst hu; exact h4
  · rw [h6]
    cases b
    · simp; omega
    · simp; omega

theorem going.end {s : ByteArray} {ts : List ByteArray} {a : Nat} {t : ByteArray} (h : going s ts a t false) : F.scan s = (ts, a) ∧ ∀ t ∈ ts, t.size ≤ maxLen := by
  obtain ⟨h1, h2, h3, h4, h5, h6⟩ := h
  exact ⟨by rw [h6]; rfl, fun t ht => by have := h3 t ht; unfold maxLen; omega⟩

set_option maxHeartbeats 800000 in
set_option maxRecDepth 20000 in
theorem frame_Scan (s : ByteArray) (w : World) (hs : s.size ≤ 1000000000) :
    Calls Try.prog 14 #[.string s] w fun e w' => ∃ v, e = .returned (.tuple #[v, .int .i64 ((F.scan s).2 : Int)]) ∧ Strs w' v (F.scan s).1 ∧ Below w.heap.size w w' := by
  have HS : Hid (s.size ≤ 1000000000) := hs
  have H0 : Hid _ := Sc.start w s
  have HC : Hid _ := @clo_step
  clear hs
  go_enter Try.func14, Try.ntmps14
  go_wp2_with fail
  refine (HC.out H0.out HS.out (Nat.zero_le _)).mono ?_
  rintro e w1 ⟨t, a, b, rfl, hsc, hga, _⟩
  have HG : Hid _ := going.first hga
  have HSc : Hid _ := hsc
  clear hga hsc
  go_wp2
  go_loopw [2, 5, 6] (fun l t o wr => ∃ ts a t' b, t = .string t' ∧ o = .bool b ∧ Hid (Sc w wr s a l ts) ∧ Hid (going s ts a t' b))
    (fun l _ _ _ => s.size + 1 - sliceLen l)
  case atStart => exact ⟨[], a, t, b, rfl, rfl, HSc, HG⟩
  case round =>
    obtain ⟨ts, a, t, b, rfl, rfl, hsc, hgo⟩ := hrel
    clear HG HSc H0
    cases b
    · have c1 := cell_of_one hsc.out.ha
      have f1 := free_of_one hsc.out.ha
      have hsc' := (hsc.out.turned (Below.refl _ _) a).drew
      have c2 := cell_of_one hsc'.ha
      obtain ⟨he1, he2⟩ := going.end hgo.out
      have HE : Hid (F.scan s = (ts, a)) := he1
      have HR : Hid (Strs (wr.setCell ⟨w.heap.size + 1, 0, none⟩ (.int .i64 (a : Int))).drew u2 ts) := strs_row hsc'.row he2
      have HB : Hid _ := hsc'.below
      clear he1 he2 hsc' hsc hgo
      go_wp2
      go_region
      all_goals (try go_wp2)
      all_goals exact bodyPost_ret (v := .tuple #[u2, .int .i64 (a : Int)]) (by simp [results, Try.results14, go_sem, c2]) rfl ⟨u2, by rw [HE.out], by rw [HE.out]; exact HR.out, HB.out⟩
    · obtain ⟨x0, x1, x2, x3, x4, x5⟩ := hgo.out
      have hl : ts.length ≤ 1000000000 := by have := HS.out; omega
      have hsz := hsc.out.size
      clear x0 x1 x2 x3 x4 x5
      go_wp2_with (at_builtin; refine wpList_append_cell rfl (.tmp 19) (.tmp 21) 29 9 rfl Try.underlying29 (.string ⟨#[]⟩) 16 (by kernel_rfl) rfl (w.heap.size + 2) u2 (ts.map Value.string) (by simp [Act.eval]) hsc.out.row (.string t) rfl (by simp [Act.eval]) (by rw [List.length_map]; omega) (by rw [List.length_map]; unfold maxLen; omega) hsz ?_; intro v' w2 ho hg _; have HS2 : Hid _ := hsc.out.push hg ho; clear ho hg)
      refine (HC.out HS2.out HS.out hgo.out.1).mono ?_
      rintro e w3 ⟨t2, a2, b2, rfl, hsc3, hga, haa⟩
      have HG3 : Hid _ := going.next hgo.out hga haa
      have HS3 : Hid _ := hsc3
      have l1 := hsc.out.len
      have l2 := hsc3.len
      rw [List.length_append] at l2
      have HL : Hid (sliceLen v' = ts.length + 1 ∧ sliceLen u2 = ts.length ∧ ts.length < s.size + 1) := ⟨l2, l1, by have := hgo.out.2.1; have := hgo.out.1; omega⟩
      clear hga hsc3 haa l1 l2
      go_wp2
      go_roundw
      case rel => exact ⟨ts ++ [t], a2, t2, b2, rfl, rfl, HS3, HG3⟩
      case measure => have := HL.out; simp; omega

end Go.Proofs.Ytpalmkneaffklaa
