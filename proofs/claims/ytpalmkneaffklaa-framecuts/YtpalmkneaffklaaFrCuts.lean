/-
  Payloads one behind the other, and where each ends, as the law lays them.
-/
import Derived.Test.YtpalmkneaffklaaFrAwake
import Derived.Test.YtpalmkneaffklaaFrSame
namespace Go.Proofs.Ytpalmkneaffklaa
open Go.RowKit

/-- Where the first k records end. -/
def endsRow (xs : List ByteArray) (k : Nat) : List Value := (List.range k).map fun j => Value.int .i64 (F.ended (xs.take (j + 1)) : Int)
theorem endsRow_len (xs : List ByteArray) (k : Nat) : (endsRow xs k).length = k := by simp [endsRow]
theorem endsRow_snoc (xs : List ByteArray) (k : Nat) : endsRow xs (k + 1) = endsRow xs k ++ [Value.int .i64 (F.ended (xs.take (k + 1)) : Int)] := by simp [endsRow, List.range_succ]
theorem endsRow_at (xs : List ByteArray) (k j : Nat) (h : j < k) : (endsRow xs k)[j]? = some (Value.int .i64 (F.ended (xs.take (j + 1)) : Int)) := by simp [endsRow, h]

theorem ended_le : ∀ l : List ByteArray, (∀ t ∈ l, t.size ≤ 1024) → F.ended l ≤ l.length * 1033
  | [], _ => Nat.le_refl _
  | p :: r, h => by
    have h1 := h p (by simp)
    have h2 := ended_le r (fun t ht => h t (by simp [ht]))
    rw [F.ended, List.length_cons]; omega

/-- In the first loop. -/
structure Ce (w0 w : World) (xs : List ByteArray) (k : Nat) (v : Value) : Prop where
  row : w.ownsRow w0.heap.size 3 1 v (endsRow xs k).length (endsRow xs k)
  below : Below w0.heap.size w0 w
  small : ∀ t ∈ xs.take k, t.size ≤ 1024

theorem Ce.start (w : World) (xs : List ByteArray) : Ce w w xs 0 (.slice none 0 0) := ⟨World.ownsRow_nil _ _ _ _, Below.refl _ _, by simp⟩

theorem Ce.below' {w0 w w1 : World} {xs : List ByteArray} {k : Nat} {v : Value} (h : Ce w0 w xs k v) (hb : Below w.heap.size w w1) : Ce w0 w1 xs k v := by
  refine ⟨?_, h.below.trans (hb.mono h.below.size), h.small⟩
  obtain ⟨h1, h2⟩ := h.row
  refine ⟨h1, ?_⟩
  rcases h2 with h2 | ⟨g, cap, cur, hv, hg, hh, r⟩
  · exact .inl h2
  · exact .inr ⟨g, cap, cur, hv, hg, by rw [hb.block _ (lt_of_block hh)]; exact hh, r⟩

theorem Ce.push {w0 w w1 : World} {xs : List ByteArray} {k : Nat} {v v' : Value} {o : Obj} (h : Ce w0 w xs k v) (hg : (w.alloc o).grownBy w1 v.ownBlock) (hk : k < xs.length) (hs : xs[k].size ≤ 1024)
    (ho : w1.ownsRow w0.heap.size 3 1 v' ((endsRow xs k).length + 1) (endsRow xs k ++ [Value.int .i64 (F.ended (xs.take (k + 1)) : Int)])) : Ce w0 w1 xs (k + 1) v' := by
  have hr : ∀ k, v.ownBlock = some k → w0.heap.size ≤ k := fun k hk => (World.ownsRow.lt h.row k hk).1
  have hb : Below w0.heap.size w w1 := ((Below.refl _ w).alloc h.below.size _).grown hg (by have := h.below.size; simp; omega) hr
  refine ⟨by rw [endsRow_snoc, List.length_append]; exact ho, h.below.trans hb, ?_⟩
  intro t ht
  rw [List.take_succ_eq_append_getElem hk] at ht
  rcases List.mem_append.1 ht with ht | ht
  · exact h.small t ht
  · simp at ht; rw [ht]; exact hs

/-- What the row of ends reads as. -/
theorem Ce.reads {w0 w : World} {xs : List ByteArray} {k : Nat} {v : Value} (h : Ce w0 w xs k v) :
    ∃ ao c, v = .slice ao k c ∧ (k = 0 ∨ ∃ g, ao = some ⟨g, 0, none⟩ ∧ g < w.heap.size ∧ ∀ j, j < k → w.cell? ⟨g, j, none⟩ = some (Value.int .i64 (F.ended (xs.take (j + 1)) : Int))) := by
  have hrow := h.row
  rw [endsRow_len] at hrow
  obtain ⟨h1, ⟨h2, h3⟩ | ⟨g, cap, cur, hv, hg, hh, hn, hm, hcs, ht⟩⟩ := hrow
  · exact ⟨none, 0, by rw [h2, h3], .inl h3⟩
  · have o : w.ownsRow w0.heap.size 3 1 (.slice (some ⟨g, 0, none⟩) k cap) k (endsRow xs k) := ⟨h1, .inr ⟨g, cap, cur, rfl, hg, hh, hn, hm, hcs, ht⟩⟩
    refine ⟨_, cap, hv, .inr ⟨g, rfl, lt_of_block hh, fun j hj => ?_⟩⟩
    rw [World.ownsRow.cellAt o j (by omega), endsRow_at xs k j hj]

/-- What scanning the first k bytes gives. -/
theorem cuts_scan (xs : List ByteArray) (m k : Nat) (hs : ∀ t ∈ xs.take m, t.size ≤ 1024) (hk : k ≤ (F.all (xs.take m)).size) (hm : m ≤ xs.length) :
    ∃ n, n ≤ m ∧ F.scan ((F.all (xs.take m)).extract 0 k) = (xs.take n, F.ended (xs.take n)) ∧ (∀ j, j < m → (F.ended (xs.take (j + 1)) ≤ k ↔ j < n)) := by
  have hlen : (xs.take m).length = m := by rw [List.length_take]; omega
  have hwl := F.whole_le (xs.take m) k
  rw [hlen] at hwl
  have e : ∀ j, j ≤ m → (xs.take m).take j = xs.take j := fun j hj => by rw [List.take_take, Nat.min_eq_left hj]
  refine ⟨F.whole (xs.take m) k, hwl, ?_, ?_⟩
  · rw [F.scan_cut (xs.take m) k (fun p hp => by have := hs p hp; omega) hk, e _ hwl]
  · intro j hj
    have := F.whole_iff (xs.take m) k j (by omega)
    rw [e (j + 1) (by omega)] at this
    exact this

theorem all_next (xs : List ByteArray) (k : Nat) (hk : k < xs.length) : F.all (xs.take k) ++ F.record xs[k] = F.all (xs.take (k + 1)) := by
  rw [List.take_succ_eq_append_getElem hk, F.all_snoc]

theorem Strs.first {w : World} {ao : Option Addr} {n c : Nat} {xs : List ByteArray} (h : Strs w (.slice ao n c) xs) (k : Nat) (hk : k ≤ xs.length) : Strs w (.slice ao k c) (xs.take k) := by
  obtain ⟨ao', c', e, h1, h2, h3, h4⟩ := h
  injection e with e1 e2 e3
  subst e1 e3
  have hl : (xs.take k).length = k := by rw [List.length_take]; omega
  refine ⟨ao, c, by rw [hl], by omega, h2, fun s hs => h3 s (List.mem_of_mem_take hs), ?_⟩
  rcases h4 with h4 | ⟨g, o, e, hg, hc⟩
  · exact .inl (by rw [h4]; simp)
  · refine .inr ⟨g, o, e, hg, fun j hj => ?_⟩
    rw [hc j (by omega)]
    simp

end Go.Proofs.Ytpalmkneaffklaa
