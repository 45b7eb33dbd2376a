/-
  What 'with' answers: the document's disk with another file.
-/
import Derived.Laws.ResultCell
import Derived.Test.YtncchapgoedncaaRfOwn
namespace Go.Proofs.Ytncchapgoedncaa
open Go.RowKit

/-- The texts, and the numbers, that have been laid so far. -/
def strsTo (T : Nat → ByteArray) (k : Nat) : List Value := (List.range k).map fun j => .string (T j)
def numsTo (S : Nat → Nat) (k : Nat) : List Value := (List.range k).map fun j => .int .i64 (S j : Int)
theorem strsTo_len (T : Nat → ByteArray) (k : Nat) : (strsTo T k).length = k := by simp [strsTo]
theorem numsTo_len (S : Nat → Nat) (k : Nat) : (numsTo S k).length = k := by simp [numsTo]
theorem strsTo_next (T : Nat → ByteArray) (k : Nat) : strsTo T (k + 1) = strsTo T k ++ [.string (T k)] := by simp [strsTo, List.range_succ]
theorem numsTo_next (S : Nat → Nat) (k : Nat) : numsTo S (k + 1) = numsTo S k ++ [.int .i64 (S k : Int)] := by simp [numsTo, List.range_succ]

/-- A disk that is being built in block p: k1 texts, k2 numbers have been laid. -/
structure Bd (w0 w : World) (p room : Nat) (T : Nat → ByteArray) (S : Nat → Nat) (k1 k2 : Nat) (v1 v2 : Value) : Prop where
  old : Below p w0 w
  lt : p < w.heap.size
  c0 : w.cell? ⟨p, 0, none⟩ = some (.int .i64 (room : Int))
  c1 : w.cell? ⟨p, 1, none⟩ = some v1
  c2 : w.cell? ⟨p, 2, none⟩ = some v2
  f : ∀ o, o < 3 → w.frozen? ⟨p, o, none⟩ = false
  r1 : w.ownsRow (p + 1) 9 1 v1 (strsTo T k1).length (strsTo T k1)
  r2 : w.ownsRow (p + 1) 3 1 v2 (numsTo S k2).length (numsTo S k2)
  ap : ∀ g, v1.ownBlock = some g → v2.ownBlock = some g → False

theorem Bd.drew {w0 w : World} {p room k1 k2 : Nat} {T : Nat → ByteArray} {S : Nat → Nat} {v1 v2 : Value} (h : Bd w0 w p room T S k1 k2 v1 v2) : Bd w0 w.drew p room T S k1 k2 v1 v2 :=
  ⟨h.old.drew, h.lt, h.c0, h.c1, h.c2, h.f, h.r1, h.r2, h.ap⟩

theorem own_carry {w w' : World} {base : Nat} {e : TypeId} {v : Value} {n : Nat} {xs : List Value} (h : w.ownsRow base e 1 v n xs) (hk : ∀ k, v.ownBlock = some k → w'.heap[k]? = w.heap[k]?) : w'.ownsRow base e 1 v n xs := by
  obtain ⟨h1, h2 | ⟨g, cap, cur, hv, hg, hh, r⟩⟩ := h
  · exact ⟨h1, .inl h2⟩
  · exact ⟨h1, .inr ⟨g, cap, cur, hv, hg, by rw [hk g (by rw [hv]; rfl)]; exact hh, r⟩⟩

/-- What an append to one of the two rows leaves of the block and of what is older. -/
theorem grown_block {w w1 : World} {p : Nat} {o : Obj} {row : Option Nat} (hlt : p < w.heap.size) (hg : (w.alloc o).grownBy w1 row) (hr : ∀ k, row = some k → p < k) :
    Below (p + 1) w w1 := by
  refine ((Below.refl _ _).alloc (by omega) o).trans ⟨hg.os, hg.tape, hg.output, hg.size, fun k hk => hg.block k (by simp; omega) (fun e => by have := hr k e.symm; omega)⟩

theorem Bd.str {w0 w w1 : World} {p room k1 k2 : Nat} {T : Nat → ByteArray} {S : Nat → Nat} {v1 v2 v' : Value} {o : Obj} (h : Bd w0 w p room T S k1 k2 v1 v2) (hg : (w.alloc o).grownBy w1 v1.ownBlock)
    (ho : w1.ownsRow (p + 1) 9 1 v' ((strsTo T k1).length + 1) (strsTo T k1 ++ [Value.string (T k1)])) (hl : ∀ k, v'.ownBlock = some k → v1.ownBlock = some k ∨ w.heap.size < k) :
    Bd w0 (w1.setCell ⟨p, 1, none⟩ v') p room T S (k1 + 1) k2 v' v2 := by
  have hr1 : ∀ k, v1.ownBlock = some k → p < k := fun k hk => by have := World.ownsRow.lt h.r1 k hk; omega
  have hb := grown_block h.lt hg hr1
  have hc : ∀ o, w1.cell? ⟨p, o, none⟩ = w.cell? ⟨p, o, none⟩ := fun o => hb.cell (p := ⟨p, o, none⟩) (Nat.lt_succ_self p)
  have hf : ∀ o, w1.frozen? ⟨p, o, none⟩ = w.frozen? ⟨p, o, none⟩ := fun o => hb.frozen (p := ⟨p, o, none⟩) (Nat.lt_succ_self p)
  have h1 : w1.cell? ⟨p, 1, none⟩ = some v1 := by rw [hc]; exact h.c1
  refine ⟨(h.old.trans (hb.mono (Nat.le_succ _))).setCell (Nat.le_refl p) _, by have := hb.size; have := h.lt; simp [World.setCell]; omega, ?_, ?_, ?_, fun o ho => by rw [World.frozen?_setCell, hf]; exact h.f o ho, ?_, ?_, ?_⟩
  · rw [cell_set _ h1, if_neg (by omega), hc]; exact h.c0
  · rw [cell_set _ h1, if_pos rfl]
  · rw [cell_set _ h1, if_neg (by omega), hc]; exact h.c2
  · rw [strsTo_next, List.length_append]
    refine own_carry ho fun k hk => Below.heap_setCell _ _ _ _ ?_
    have := World.ownsRow.lt ho k hk
    show k ≠ p
    omega
  · refine own_carry h.r2 fun k hk => ?_
    have h5 := World.ownsRow.lt h.r2 k hk
    rw [Below.heap_setCell _ _ _ _ (by show k ≠ p; omega), hg.block k (by simp; omega) (fun e => h.ap k e.symm hk), Below.heap_alloc _ _ _ h5.2]
  · intro g hg1 hg2
    rcases hl g hg1 with q | q
    · exact h.ap g q hg2
    · have h5 := World.ownsRow.lt h.r2 g hg2
      omega

theorem Bd.num {w0 w w1 : World} {p room k1 k2 : Nat} {T : Nat → ByteArray} {S : Nat → Nat} {v1 v2 v' : Value} {o : Obj} (h : Bd w0 w p room T S k1 k2 v1 v2) (hg : (w.alloc o).grownBy w1 v2.ownBlock)
    (ho : w1.ownsRow (p + 1) 3 1 v' ((numsTo S k2).length + 1) (numsTo S k2 ++ [Value.int .i64 (S k2 : Int)])) (hl : ∀ k, v'.ownBlock = some k → v2.ownBlock = some k ∨ w.heap.size < k) :
    Bd w0 (w1.setCell ⟨p, 2, none⟩ v') p room T S k1 (k2 + 1) v1 v' := by
  have hr1 : ∀ k, v2.ownBlock = some k → p < k := fun k hk => by have := World.ownsRow.lt h.r2 k hk; omega
  have hb := grown_block h.lt hg hr1
  have hc : ∀ o, w1.cell? ⟨p, o, none⟩ = w.cell? ⟨p, o, none⟩ := fun o => hb.cell (p := ⟨p, o, none⟩) (Nat.lt_succ_self p)
  have hf : ∀ o, w1.frozen? ⟨p, o, none⟩ = w.frozen? ⟨p, o, none⟩ := fun o => hb.frozen (p := ⟨p, o, none⟩) (Nat.lt_succ_self p)
  have h1 : w1.cell? ⟨p, 2, none⟩ = some v2 := by rw [hc]; exact h.c2
  refine ⟨(h.old.trans (hb.mono (Nat.le_succ _))).setCell (Nat.le_refl p) _, by have := hb.size; have := h.lt; simp [World.setCell]; omega, ?_, ?_, ?_, fun o ho => by rw [World.frozen?_setCell, hf]; exact h.f o ho, ?_, ?_, ?_⟩
  · rw [cell_set _ h1, if_neg (by omega), hc]; exact h.c0
  · rw [cell_set _ h1, if_neg (by omega), hc]; exact h.c1
  · rw [cell_set _ h1, if_pos rfl]
  · refine own_carry h.r1 fun k hk => ?_
    have h5 := World.ownsRow.lt h.r1 k hk
    rw [Below.heap_setCell _ _ _ _ (by show k ≠ p; omega), hg.block k (by simp; omega) (fun e => h.ap k hk e.symm), Below.heap_alloc _ _ _ h5.2]
  · rw [numsTo_next, List.length_append]
    refine own_carry ho fun k hk => Below.heap_setCell _ _ _ _ ?_
    have := World.ownsRow.lt ho k hk
    show k ≠ p
    omega
  · intro g hg1 hg2
    rcases hl g hg2 with q | q
    · exact h.ap g hg1 q
    · have h5 := World.ownsRow.lt h.r1 g hg1
      omega

theorem Bd.strS {w0 w w1 : World} {p room k1 k2 : Nat} {T : Nat → ByteArray} {S : Nat → Nat} {v1 v2 v' : Value} {o : Obj} (h : Bd w0 w p room T S k1 k2 v1 v2) (hg : (w.alloc o).grownBy w1 v1.ownBlock)
    (ho : w1.ownsRow (p + 1) 9 1 v' ((strsTo T k1).length + 1) (strsTo T k1 ++ [Value.string (T k1)])) (hl : ∀ k, v'.ownBlock = some k → v1.ownBlock = some k ∨ w.heap.size < k) :
    Bd w0 (w1.setCell ⟨p, 1, none⟩ v') p room T S (k1 + 1) k2 v' v2 ∧ w1.cell? ⟨p, 1, none⟩ = some v1 ∧ w1.cell? ⟨p, 2, none⟩ = some v2 ∧ w1.frozen? ⟨p, 1, none⟩ = false ∧ w1.frozen? ⟨p, 2, none⟩ = false := by
  have hb := grown_block h.lt hg (fun k hk => by have := World.ownsRow.lt h.r1 k hk; omega)
  have hc : ∀ o, w1.cell? ⟨p, o, none⟩ = w.cell? ⟨p, o, none⟩ := fun o => hb.cell (p := ⟨p, o, none⟩) (Nat.lt_succ_self p)
  have hf : ∀ o, w1.frozen? ⟨p, o, none⟩ = w.frozen? ⟨p, o, none⟩ := fun o => hb.frozen (p := ⟨p, o, none⟩) (Nat.lt_succ_self p)
  exact ⟨h.str hg ho hl, by rw [hc]; exact h.c1, by rw [hc]; exact h.c2, by rw [hf]; exact h.f 1 (by omega), by rw [hf]; exact h.f 2 (by omega)⟩
theorem Bd.numS {w0 w w1 : World} {p room k1 k2 : Nat} {T : Nat → ByteArray} {S : Nat → Nat} {v1 v2 v' : Value} {o : Obj} (h : Bd w0 w p room T S k1 k2 v1 v2) (hg : (w.alloc o).grownBy w1 v2.ownBlock)
    (ho : w1.ownsRow (p + 1) 3 1 v' ((numsTo S k2).length + 1) (numsTo S k2 ++ [Value.int .i64 (S k2 : Int)])) (hl : ∀ k, v'.ownBlock = some k → v2.ownBlock = some k ∨ w.heap.size < k) :
    Bd w0 (w1.setCell ⟨p, 2, none⟩ v') p room T S k1 (k2 + 1) v1 v' ∧ w1.cell? ⟨p, 2, none⟩ = some v2 ∧ w1.frozen? ⟨p, 2, none⟩ = false := by
  have hb := grown_block h.lt hg (fun k hk => by have := World.ownsRow.lt h.r2 k hk; omega)
  exact ⟨h.num hg ho hl, by rw [hb.cell (p := ⟨p, 2, none⟩) (Nat.lt_succ_self p)]; exact h.c2, by rw [hb.frozen (p := ⟨p, 2, none⟩) (Nat.lt_succ_self p)]; exact h.f 2 (by omega)⟩

theorem Bd.done {w0 w : World} {p room : Nat} {T : Nat → ByteArray} {S : Nat → Nat} {v1 v2 : Value} (h : Bd w0 w p room T S 256 256 v1 v2) :
    ∃ g1 g2 c1 c2, v1 = .slice (some ⟨g1, 0, none⟩) 256 c1 ∧ v2 = .slice (some ⟨g2, 0, none⟩) 256 c2 ∧ p < g1 ∧ p < g2 ∧ ∀ W : World, w.heap.size ≤ W.heap.size → W.heap[g1]? = w.heap[g1]? → W.heap[g2]? = w.heap[g2]? →
      Rf W (.agg #[.int .i64 (room : Int), .slice (some ⟨g1, 0, none⟩) 256 c1, .slice (some ⟨g2, 0, none⟩) 256 c2]) room T S g1 g2 c1 c2 := by
  have h1 := h.r1
  have h2 := h.r2
  rw [strsTo_len] at h1
  rw [numsTo_len] at h2
  obtain ⟨q1, ⟨_, hz⟩ | ⟨g1, c1, cur1, e1, hb1, hh1, hn1, hm1, hs1, ht1⟩⟩ := h1
  · omega
  obtain ⟨q2, ⟨_, hz⟩ | ⟨g2, c2, cur2, e2, hb2, hh2, hn2, hm2, hs2, ht2⟩⟩ := h2
  · omega
  have o1 : w.ownsRow (p + 1) 9 1 (.slice (some ⟨g1, 0, none⟩) 256 c1) 256 (strsTo T 256) := ⟨q1, .inr ⟨g1, c1, cur1, rfl, hb1, hh1, hn1, hm1, hs1, ht1⟩⟩
  have o2 : w.ownsRow (p + 1) 3 1 (.slice (some ⟨g2, 0, none⟩) 256 c2) 256 (numsTo S 256) := ⟨q2, .inr ⟨g2, c2, cur2, rfl, hb2, hh2, hn2, hm2, hs2, ht2⟩⟩
  refine ⟨g1, g2, c1, c2, e1, e2, by omega, by omega, fun W a1 a2 a3 => ⟨rfl, hn1, hn2, Nat.lt_of_lt_of_le (World.ownsRow.lt o1 g1 rfl).2 a1, Nat.lt_of_lt_of_le (World.ownsRow.lt o2 g2 rfl).2 a1, fun i hi => ?_, fun i hi => ?_⟩⟩
  · rw [World.cell?_of_block (a := ⟨g1, i, none⟩) a2, World.ownsRow.cellAt o1 i (by omega)]
    simp [strsTo, hi]
  · rw [World.cell?_of_block (a := ⟨g2, i, none⟩) a3, World.ownsRow.cellAt o2 i (by omega)]
    simp [numsTo, hi]

theorem row_form {w : World} {base : Nat} {e : TypeId} {v : Value} {n : Nat} {xs : List Value} (h : w.ownsRow base e 1 v n xs) : ∃ ao cap, v = .slice ao n cap := by
  obtain ⟨h1, ⟨h2, h3⟩ | ⟨g, cap, cur, hv, r⟩⟩ := h
  · exact ⟨none, 0, by rw [h2, h3]⟩
  · exact ⟨_, cap, hv⟩

set_option maxHeartbeats 800000 in
set_option maxRecDepth 20000 in
theorem ref_with {w : World} {v : Value} {room g1 g2 c1 c2 : Nat} {T : Nat → ByteArray} {S : Nat → Nat} (h : Rf w v room T S g1 g2 c1 c2) (i : Nat) (hi : i < 256) (s : ByteArray) (n : Nat) :
    Calls Try.prog 29 #[v, .int .i64 (i : Int), .string s, .int .i64 (n : Int)] w fun e w' => ∃ v' g1' g2' c1' c2', e = .returned v' ∧ Rf w' v' room (upd T i s) (upd S i n) g1' g2' c1' c2' ∧ w.heap.size ≤ g1' ∧ w.heap.size ≤ g2' ∧ Below w.heap.size w w' := by
  have hform := h.form
  subst hform
  have hk1 := h.k1
  have hk2 := h.k2
  have HR : Hid (Rf w _ room T S g1 g2 c1 c2) := h
  clear h
  obtain ⟨T', hT'⟩ : ∃ T', T' = upd T i s := ⟨_, rfl⟩
  obtain ⟨S', hS'⟩ : ∃ S', S' = upd S i n := ⟨_, rfl⟩
  rw [← hT', ← hS']
  have HTk : Hid (T' i = s ∧ S' i = n ∧ ∀ k, k ≠ i → T' k = T k ∧ S' k = S k) := by rw [hT', hS']; exact ⟨upd_same _ _ _, upd_same _ _ _, fun k hk => ⟨upd_other _ _ hk, upd_other _ _ hk⟩⟩
  clear hT' hS'
  go_enter Try.func29, Try.ntmps29
  go_wp2
  obtain ⟨a, ha⟩ : ∃ a, a = w.heap.size := ⟨_, rfl⟩
  obtain ⟨w0, hw0⟩ : ∃ w0, w0 = ((w.alloc (.cells #[.int .i64 (room : Int), .slice (some ⟨g1, 0, none⟩) 256 c1, .slice (some ⟨g2, 0, none⟩) 256 c2] 30)).alloc (.cells #[.int .i64 0, .slice none 0 0, .slice none 0 0] 30)).alloc (.cells #[.int .i64 (room : Int), .slice none 0 0, .slice none 0 0] 30) := ⟨_, rfl⟩
  have hbel : Below w.heap.size w w0 := by rw [hw0]; exact (((Below.refl _ _).alloc (Nat.le_refl _) _).alloc (by simp) _).alloc (by simp; omega) _
  have hsz0 : w0.heap.size = a + 3 := by rw [hw0, ha]; simp
  have y : ∀ o, w0.cell? ⟨a, o, none⟩ = (#[.int .i64 (room : Int), .slice (some ⟨g1, 0, none⟩) 256 c1, .slice (some ⟨g2, 0, none⟩) 256 c2] : Array Value)[o]? ∧ w0.cell? ⟨a + 1, o, none⟩ = (#[.int .i64 0, .slice none 0 0, .slice none 0 0] : Array Value)[o]? ∧ w0.cell? ⟨a + 2, o, none⟩ = (#[.int .i64 (room : Int), .slice none 0 0, .slice none 0 0] : Array Value)[o]? ∧ w0.frozen? ⟨a + 1, o, none⟩ = false ∧ w0.frozen? ⟨a + 2, o, none⟩ = false := by
    intro o
    rw [hw0, ha]
    refine ⟨?_, ?_, ?_, ?_, ?_⟩ <;> simp [go_sem]
  obtain ⟨p, hp⟩ : ∃ p, p = a + 1 + 1 := ⟨_, rfl⟩
  have HB0 : Hid (Bd w0 w0 p room T' S' 0 0 (.slice none 0 0) (.slice none 0 0)) :=
    ⟨Below.refl _ _, by omega, by rw [hp]; exact (y 0).2.2.1, by rw [hp]; exact (y 1).2.2.1, by rw [hp]; exact (y 2).2.2.1, fun o _ => by rw [hp]; exact (y o).2.2.2.2, World.ownsRow_nil _ _ _ _, World.ownsRow_nil _ _ _ _, fun g hg => by simp [Value.ownBlock] at hg⟩
  have HX : Hid (∀ W, Below p w0 W → W.cell? ⟨a, 1, none⟩ = some (.slice (some ⟨g1, 0, none⟩) 256 c1) ∧ W.cell? ⟨a, 2, none⟩ = some (.slice (some ⟨g2, 0, none⟩) 256 c2) ∧ ∀ k, k < 256 → W.cell? ⟨g1, k, none⟩ = some (.string (T k)) ∧ W.cell? ⟨g2, k, none⟩ = some (.int .i64 (S k : Int))) := by
    intro W hW
    have h0 := HR.out.below hbel
    have q1 := HR.out.l1
    have q2 := HR.out.l2
    refine ⟨by rw [hW.cell (p := ⟨a, 1, none⟩) (by show a < p; omega)]; exact (y 1).1, by rw [hW.cell (p := ⟨a, 2, none⟩) (by show a < p; omega)]; exact (y 2).1, fun k hk => ⟨?_, ?_⟩⟩
    · rw [hW.cell (p := ⟨g1, k, none⟩) (by show g1 < p; omega)]; exact h0.t k hk
    · rw [hW.cell (p := ⟨g2, k, none⟩) (by show g2 < p; omega)]; exact h0.s k hk
  have HY : Hid (∀ W, Below p w0 W → (∀ o, o < 3 → W.frozen? ⟨a + 1, o, none⟩ = false) ∧ W.cell? ⟨a + 1, 0, none⟩ = some (.int .i64 0) ∧ W.cell? ⟨a + 1, 1, none⟩ = some (.slice none 0 0) ∧ W.cell? ⟨a + 1, 2, none⟩ = some (.slice none 0 0)) := by
    intro W hW
    refine ⟨fun o _ => by rw [hW.frozen (p := ⟨a + 1, o, none⟩) (by show a + 1 < p; omega)]; exact (y o).2.2.2.1, ?_, ?_, ?_⟩
    · rw [hW.cell (p := ⟨a + 1, 0, none⟩) (by show a + 1 < p; omega)]; exact (y 0).2.1
    · rw [hW.cell (p := ⟨a + 1, 1, none⟩) (by show a + 1 < p; omega)]; exact (y 1).2.1
    · rw [hW.cell (p := ⟨a + 1, 2, none⟩) (by show a + 1 < p; omega)]; exact (y 2).2.1
  have HBel : Hid (Below w.heap.size w w0) := hbel
  have hpa : a + 1 < p := by omega
  have Ha : Hid (a = w.heap.size ∧ p = a + 1 + 1) := ⟨ha, hp⟩
  rw [← hw0, ← ha, ← hp]
  clear hw0 hbel hsz0 y hp ha HR
  go_loopw [10] (fun x wr => ∃ (k : Nat) (v1 v2 : Value), k ≤ 256 ∧ x = .int .i64 (k : Int) ∧ Hid (Bd w0 wr p room T' S' k k v1 v2)) (fun x _ => 256 - (intOf x).toNat)
  case atStart => exact ⟨0, _, _, by omega, rfl, HB0⟩
  case round =>
    clear HB0
    obtain ⟨k, v1, v2, hk, rfl, HD⟩ := hrel
    obtain ⟨x1, x2, xs⟩ := HX.out wr HD.out.old
    by_cases hlt : k < 256
    · obtain ⟨ck1, ck2⟩ := xs k hlt
      have d1 := HD.out.c1
      have d2 := HD.out.c2
      have f1 := HD.out.f 1 (by omega)
      have f2 := HD.out.f 2 (by omega)
      obtain ⟨ao1, cp1, e1⟩ := row_form HD.out.r1
      obtain ⟨ao2, cp2, e2⟩ := row_form HD.out.r2
      rw [strsTo_len] at e1
      rw [numsTo_len] at e2
      subst e1 e2
      clear xs
      have hlw := HD.out.lt
      by_cases eki : k = i
      · subst eki
        have t0 : ((k : Int) == (k : Int)) = true := by simp
        go_wp2_with (at_builtin; refine wpList_append_cell rfl (.tmp 32) (.tmp 34) 27 9 rfl Try.underlying27 (.string ⟨#[]⟩) 16 (by kernel_rfl) rfl (p + 1) (.slice ao1 k cp1) (strsTo T' k) rfl HD.out.r1 (.string s) rfl rfl ?qlen ?qmax ?qbase ?qnext)
        case qlen => rw [strsTo_len]; omega
        case qmax => rw [strsTo_len]; unfold maxLen; omega
        case qbase => omega
        case qnext =>
          intro v' w1 ho hg hl
          obtain ⟨H2, b1, b2, b3, b4⟩ := HD.out.strS hg (by rw [HTk.out.1]; exact ho) hl
          obtain ⟨ao', cp', ev⟩ := row_form ho
          rw [strsTo_len] at ev
          subst ev
          have HD2 : Hid _ := H2
          clear H2 ho hg hl
          go_wp2_with (at_builtin; refine wpList_append_cell rfl (.tmp 38) (.tmp 40) 28 3 rfl Try.underlying28 (.int .i64 0) 8 (by kernel_rfl) rfl (p + 1) (.slice ao2 k cp2) (numsTo S' k) rfl HD2.out.r2 (.int .i64 (n : Int)) rfl (by simp [Act.eval]) ?rlen ?rmax ?rbase ?rnext)
          case rlen => rw [numsTo_len]; omega
          case rmax => rw [numsTo_len]; unfold maxLen; omega
          case rbase => have := HD2.out.lt; omega
          case rnext =>
            intro v'' w2 ho hg hl
            obtain ⟨H3, b5, b6⟩ := HD2.out.numS hg (by rw [HTk.out.2.1]; exact ho) (fun k hk => by have := hl k hk; simpa [World.setCell] using this)
            obtain ⟨ao'', cp'', ev⟩ := row_form ho
            rw [numsTo_len] at ev
            subst ev
            have HD3 : Hid _ := H3
            clear H3 ho hg hl
            go_wp2
            go_roundw
            case rel => exact ⟨k + 1, _, _, by omega, by go_num, HD3⟩
            case measure => simp [intOf]; omega
      · have t0 : ((k : Int) == (i : Int)) = false := by simp; omega
        obtain ⟨ek1, ek2⟩ := HTk.out.2.2 k eki
        have EK : Hid (T' k = T k ∧ S' k = S k) := ⟨ek1, ek2⟩
        clear ek1 ek2
        go_wp2
        go_region_law (refine step_append_cell rfl (.tmp 44) (.tmp 50) 27 9 rfl Try.underlying27 (.string ⟨#[]⟩) 16 (by kernel_rfl) rfl (p + 1) (.slice ao1 k cp1) (strsTo T' k) (by simp [Act.eval]) HD.out.drew.r1 (.string (T k)) rfl (by simp [Act.eval]) (by rw [strsTo_len]; omega) (by rw [strsTo_len]; unfold maxLen; omega) (by simp; omega) ?_; intro v' w1 ho hg hl; obtain ⟨H2, b1, b2, b3, b4⟩ := HD.out.drew.strS hg (by rw [EK.out.1]; exact ho) hl; obtain ⟨ao', cp', ev⟩ := row_form ho; rw [strsTo_len] at ev; subst ev; have HD2 : Hid _ := H2; clear H2 ho hg hl)
        all_goals
          go_wp2
          obtain ⟨w3, hw3⟩ : ∃ w3, w3 = w1.setCell ⟨p, 1, none⟩ (.slice ao' (k + 1) cp') := ⟨_, rfl⟩
          obtain ⟨y1, y2, ys⟩ := HX.out w3 (by rw [hw3]; exact HD2.out.old)
          obtain ⟨yk1, yk2⟩ := ys k hlt
          have HD3 : Hid (Bd w0 w3 p room T' S' (k + 1) k (.slice ao' (k + 1) cp') (.slice ao2 k cp2)) := by show Bd _ _ _ _ _ _ _ _ _ _; rw [hw3]; exact HD2.out
          have e2 := HD3.out.c2
          have h2 := HD3.out.f 2 (by omega)
          have hlw3 := HD3.out.lt
          rw [← hw3]
          clear hw3 HD2 HD b1 b2 b3 b4 x1 x2 ck1 ck2 d1 d2 f1 f2 hlw ys
          go_region_law (refine step_append_cell rfl (.tmp 54) (.tmp 60) 28 3 rfl Try.underlying28 (.int .i64 0) 8 (by kernel_rfl) rfl (p + 1) (.slice ao2 k cp2) (numsTo S' k) (by simp [Act.eval]) HD3.out.drew.r2 (.int .i64 (S k : Int)) rfl (by simp [Act.eval]) (by rw [numsTo_len]; omega) (by rw [numsTo_len]; unfold maxLen; omega) (by simp; omega) ?_; intro v'' w5 ho hg hl; obtain ⟨H4, b5, b6⟩ := HD3.out.drew.numS hg (by rw [EK.out.2]; exact ho) hl; obtain ⟨ao'', cp'', ev⟩ := row_form ho; rw [numsTo_len] at ev; subst ev; have HD4 : Hid _ := H4; clear H4 ho hg hl)
          all_goals
            go_wp2
            go_roundw
            case rel => exact ⟨k + 1, _, _, by omega, by go_num, HD4⟩
            case measure => simp [intOf]; omega
    · have e : k = 256 := by omega
      subst e
      obtain ⟨fz, z0, z1, z2⟩ := HY.out wr HD.out.old
      have d0 := HD.out.c0
      have d1 := HD.out.c1
      have d2 := HD.out.c2
      have fz0 := fz 0 (by omega)
      have fz1 := fz 1 (by omega)
      have fz2 := fz 2 (by omega)
      obtain ⟨r1, r2, q1, q2, e1, e2, l1, l2, hrf⟩ := HD.out.done
      subst e1 e2
      have HRF : Hid _ := hrf
      have HO : Hid (Below p w0 wr) := HD.out.old
      clear fz xs hrf HD
      go_wp2
      have hw : ∀ (A B C : Value) (k : Nat), k ≠ a + 1 → (((wr.setCell ⟨a + 1, 0, none⟩ A).setCell ⟨a + 1, 1, none⟩ B).setCell ⟨a + 1, 2, none⟩ C).heap[k]? = wr.heap[k]? := by
        intro A B C k hk
        rw [Below.heap_setCell _ _ _ _ hk, Below.heap_setCell _ _ _ _ hk, Below.heap_setCell _ _ _ _ hk]
      obtain ⟨ha1, ha2⟩ := Ha.out
      refine bodyPost_ret (v := .agg #[.int .i64 (room : Int), .slice (some ⟨r1, 0, none⟩) 256 q1, .slice (some ⟨r2, 0, none⟩) 256 q2]) ?qres rfl ?qpost
      case qres => simp [results, Try.results29, go_sem, z0, z1, z2]
      case qpost =>
        refine ⟨_, r1, r2, q1, q2, rfl, HRF.out _ (by simp [World.setCell]) (hw _ _ _ _ (by omega)) (hw _ _ _ _ (by omega)), by omega, by omega, ?_⟩
        refine (((HBel.out.trans (HO.out.mono (by omega))).setCell ?_ _).setCell ?_ _).setCell ?_ _
        all_goals (show w.heap.size ≤ a + 1; omega)

end Go.Proofs.Ytncchapgoedncaa
