/-
  What the document's Scan does: as the program's.
-/
import Derived.Test.YtpalmkneaffklaaFrRef
namespace Go.Proofs.Ytpalmkneaffklaa
open Go.RowKit

/-- In the loop: the row of texts, and what has been scanned so far. -/
structure Rs (w0 w : World) (s : ByteArray) (a : Nat) (v : Value) (ts : List ByteArray) : Prop where
  row : w.ownsRow w0.heap.size 9 1 v (ts.map Value.string).length (ts.map Value.string)
  below : Below w0.heap.size w0 w
  le : a ≤ s.size
  nine : ts.length * 9 ≤ a
  most : ∀ t ∈ ts, t.size ≤ 262144
  said : F.scan s = (ts ++ (F.scan (s.extract a s.size)).1, a + (F.scan (s.extract a s.size)).2)

theorem Rs.start (w : World) (s : ByteArray) : Rs w w s 0 (.slice none 0 0) [] :=
  ⟨World.ownsRow_nil _ _ _ _, Below.refl _ _, Nat.zero_le _, by simp, by simp, by rw [F.extract_all]; simp⟩

theorem Rs.below' {w0 w w1 : World} {s : ByteArray} {a : Nat} {v : Value} {ts : List ByteArray} (h : Rs w0 w s a v ts) (hb : Below w.heap.size w w1) : Rs w0 w1 s a v ts := by
  refine ⟨?_, h.below.trans (hb.mono h.below.size), h.le, h.nine, h.most, h.said⟩
  obtain ⟨h1, h2⟩ := h.row
  refine ⟨h1, ?_⟩
  rcases h2 with h2 | ⟨g, cap, cur, hv, hg, hh, r⟩
  · exact .inl h2
  · exact .inr ⟨g, cap, cur, hv, hg, by rw [hb.block _ (lt_of_block hh)]; exact hh, r⟩

theorem Rs.push {w0 w w1 : World} {s t : ByteArray} {a n : Nat} {v v' : Value} {ts : List ByteArray} {o : Obj} (h : Rs w0 w s a v ts) (hg : (w.alloc o).grownBy w1 v.ownBlock)
    (ho : w1.ownsRow w0.heap.size 9 1 v' ((ts.map Value.string).length + 1) (ts.map Value.string ++ [Value.string t])) (ht : F.take (s.extract a s.size) = (t, n, 0)) : Rs w0 w1 s (a + n) v' (ts ++ [t]) := by
  have hr : ∀ k, v.ownBlock = some k → w0.heap.size ≤ k := fun k hk => (World.ownsRow.lt h.row k hk).1
  have hb : Below w0.heap.size w w1 := ((Below.refl _ w).alloc h.below.size _).grown hg (by have := h.below.size; simp; omega) hr
  obtain ⟨q1, q2, q3, q4⟩ := F.scan_next h.le ht
  have hn := h.nine
  refine ⟨by simpa using ho, h.below.trans hb, q1, by simp; omega, ?_, ?_⟩
  · intro u hu
    rcases List.mem_append.1 hu with hu | hu
    · exact h.most u hu
    · simp at hu; subst hu; exact q3
  · rw [h.said, q4]
    simp; omega

theorem Rs.len {w0 w : World} {s : ByteArray} {a : Nat} {v : Value} {ts : List ByteArray} (h : Rs w0 w s a v ts) : sliceLen v = ts.length := by
  obtain ⟨_, ⟨h2, h3⟩ | ⟨g, cap, cur, hv, _⟩⟩ := h.row
  · rw [List.length_map] at h3; rw [h2, h3]; rfl
  · rw [hv]; simp [sliceLen]

theorem Rs.end {w0 w : World} {s : ByteArray} {a : Nat} {v : Value} {ts : List ByteArray} (h : Rs w0 w s a v ts) (ht : ¬ (F.take (s.extract a s.size)).2.2 = 0) : F.scan s = (ts, a) ∧ Strs w v ts := by
  refine ⟨?_, strs_row h.row (fun t ht => by have := h.most t ht; unfold maxLen; omega)⟩
  rw [h.said, F.scan_no ht]; simp

set_option maxHeartbeats 800000 in
set_option maxRecDepth 20000 in
theorem ref_Scan (s : ByteArray) (w : World) (hs : s.size ≤ 1000000000) :
    Calls Try.prog 15 #[.string s] w fun e w' => ∃ v, e = .returned (.tuple #[v, .int .i64 ((F.scan s).2 : Int)]) ∧ Strs w' v (F.scan s).1 ∧ Below w.heap.size w w' := by
  have HT : Hid _ := fun (a : Nat) (W : World) (h : a ≤ s.size) => ref_Take (s.extract a s.size) W (by rw [F.rest_size s a h]; omega)
  go_enter Try.func15, Try.ntmps15
  go_wp2
  go_loopw [4, 5] (fun l i wr => ∃ (ts : List ByteArray) (a : Nat), i = .int .i64 (a : Int) ∧ Hid (Rs w wr s a l ts)) (fun l _ _ => s.size + 1 - sliceLen l)
  case atStart => exact ⟨[], 0, rfl, Rs.start w s⟩
  case round =>
    obtain ⟨ts, a, rfl, hrs⟩ := hrel
    have hle := hrs.out.le
    obtain ⟨t, n, x, hx⟩ : ∃ t n x, F.take (s.extract a s.size) = (t, n, x) := ⟨_, _, _, rfl⟩
    obtain ⟨hn, ht, _⟩ := take_size hx
    have HC := HT.out a wr hle
    rw [hx] at HC
    have HC' : Hid _ := HC
    clear HC HT
    by_cases hx0 : x = 0
    · subst hx0
      have HX : Hid _ := hx
      have hl : ts.length ≤ s.size := by have := hrs.out.nine; omega
      clear hx
      go_wp2_with fail
      refine Calls.mono HC'.out ?_
      rintro e w1 ⟨rfl, hb1⟩
      have HR1 : Hid _ := hrs.out.below' hb1
      have hsz := HR1.out.below.size
      clear hb1
      go_wp2_with (at_builtin; refine wpList_append_cell rfl (.tmp 21) (.tmp 23) 29 9 rfl Try.underlying29 (.string ⟨#[]⟩) 16 (by kernel_rfl) rfl w.heap.size u4 (ts.map Value.string) (by simp [Act.eval]) HR1.out.row (.string t) rfl (by simp [Act.eval]) (by rw [List.length_map]; omega) (by rw [List.length_map]; unfold maxLen; omega) hsz ?_; intro v' w2 ho hg _; have HR2 : Hid _ := HR1.out.push hg ho HX.out; clear ho hg)
      have l1 := hrs.out.len
      have l2 := HR2.out.len
      rw [List.length_append] at l2
      have HL : Hid (sliceLen v' = ts.length + 1 ∧ sliceLen u4 = ts.length ∧ ts.length < s.size + 1) := ⟨l2, l1, by omega⟩
      clear l1 l2
      go_roundw
      case rel => exact ⟨ts ++ [t], a + n, by go_num, HR2⟩
      case measure => have := HL.out; simp; omega
    · have hd : ((x : Int) != 0) = true := by simp; exact hx0
      have HX : Hid (¬ (F.take (s.extract a s.size)).2.2 = 0) := by unfold Hid; rw [hx]; exact hx0
      clear hx
      go_wp2_with fail
      refine Calls.mono HC'.out ?_
      rintro e w1 ⟨rfl, hb1⟩
      have hr1 := hrs.out.below' hb1
      obtain ⟨e1, e2⟩ := hr1.end HX.out
      have HE : Hid (F.scan s = (ts, a)) := e1
      have HS : Hid (Strs w1 u4 ts) := e2
      have HB : Hid _ := hr1.below
      clear e1 e2 hr1 hb1
      go_wp2
      go_ret2
      exact ⟨u4, by rw [HE.out]; rfl, by rw [HE.out]; exact HS.out, HB.out⟩

end Go.Proofs.Ytpalmkneaffklaa
