import Derived.Test.YtkioeahlajjmiaaMpMath
import Derived.Test.YtkioeahlajjmiaaMoEnds
import Derived.StillTailTactics
import Derived.Deep.RegionHeld3

/-
  Rows of texts, and rows that are being made, for the document's model; its Without and With.
-/
namespace Go.Proofs.Ytkioeahlajjmiaa
open Go.RowKit

/-- Texts as cells. -/
def tx (l : List ByteArray) : List Value := l.map Value.string
theorem tx_len (l : List ByteArray) : (tx l).length = l.length := by simp [tx]
theorem tx_snoc (l : List ByteArray) (x : ByteArray) : tx (l ++ [x]) = tx l ++ [.string x] := by simp [tx]
def Tx (w : World) (v : Value) (l : List ByteArray) : Prop := RowC w 1 v l.length (tx l)
theorem Tx.below {w w' : World} {v : Value} {l : List ByteArray} (h : Tx w v l) (hb : Below w.heap.size w w') : Tx w' v l := RowC.carry h (fun k hk => hb.block k (RowC.lt h (by decide) hk))
theorem Tx.at {w : World} {p : Option Addr} {m c : Nat} {l : List ByteArray} (h : Tx w (.slice p m c) l) {i : Nat} {x : ByteArray} (hx : l[i]? = some x) : ∃ g off, p = some ⟨g, off, none⟩ ∧ w.cell? ⟨g, off + i, none⟩ = some (.string x) := by
  have hi := (List.getElem?_eq_some_iff.1 hx).1
  obtain ⟨g, off, c', hv, _, _, _, hcs⟩ := RowC.cells h (by omega)
  injection hv with hp _ _
  exact ⟨g, off, hp, hcs i _ (by simp [tx, hx])⟩
theorem Tx.strv {w : World} {v : Value} {l : List ByteArray} (h : Tx w v l) : StrV w v l := by
  obtain ⟨p, c, hv, h1, h2⟩ := RowC.form h
  subst hv
  refine ⟨p, c, rfl, h1, h2, ?_⟩
  by_cases e : l = []
  · exact .inl e
  · have hl : 0 < l.length := List.length_pos_iff.2 e
    obtain ⟨g, off, hp, _⟩ := h.at (List.getElem?_eq_getElem hl)
    refine .inr ⟨g, off, hp, fun j x hx => ?_⟩
    obtain ⟨g', off', hp', hc⟩ := h.at hx
    rw [hp] at hp'
    injection hp' with hp'
    injection hp' with e1 e2
    rw [e1, e2]
    exact hc

/-- A row of the call's own that is being made. -/
def Mk (u X : World) (K : Nat) (v : Value) (n : Nat) (xs : List Value) : Prop := Below u.heap.size u X ∧ RowC X K v n xs ∧ ∀ j, cBlk v = some j → u.heap.size ≤ j
theorem Mk.nil (u X : World) (K : Nat) (hb : Below u.heap.size u X) : Mk u X K (.slice none 0 0) 0 [] := ⟨hb, RowC.nil _ _ _, fun j hj => by simp [cBlk] at hj⟩
theorem Mk.below {u X Y : World} {K : Nat} {v : Value} {n : Nat} {xs : List Value} (h : Mk u X K v n xs) (hK : 0 < K) (hb : Below X.heap.size X Y) : Mk u Y K v n xs :=
  ⟨h.1.trans (hb.mono h.1.size), RowC.carry h.2.1 (fun k hk => hb.block k (RowC.lt h.2.1 hK hk)), h.2.2⟩
theorem Mk.len {u X : World} {K : Nat} {q : Option Addr} {n m c : Nat} {xs : List Value} (h : Mk u X K (.slice q m c) n xs) : m = n := by
  obtain ⟨_, _, e, _⟩ := RowC.form h.2.1
  injection e
/-- One more. -/
theorem Mk.app {u X : World} {K : Nat} {q : Option Addr} {n c : Nat} {xs : List Value} (h : Mk u X K (.slice q n c) n xs) (hK : 0 < K) {t e : TypeId} (ht : Try.prog.underlying t = some (.slice e)) (a : Array Value) (hl : a.toList.length = K) (hone : ∀ u ∈ a.toList, u.oneCell' = true) :
    RowC (X.alloc (.cells a e)) K (.slice q n c) n xs ∧ Src Try.prog K t (.slice (some ⟨X.heap.size, 0, none⟩) 1 1) 1 a.toList (X.alloc (.cells a e)) ∧
    ∀ Y L', RowC Y K L' (n + 1) (xs ++ a.toList) → (X.alloc (.cells a e)).grownBy Y (cBlk (.slice q n c)) → (∀ j, cBlk L' = some j → cBlk (.slice q n c) = some j ∨ X.heap.size + 1 ≤ j) → ∃ p' c2, L' = .slice p' (n + 1) c2 ∧ Mk u Y K (.slice p' (n + 1) c2) (n + 1) (xs ++ a.toList) ∧ ∀ k, k < X.heap.size → cBlk (.slice q n c) ≠ some k → Y.heap[k]? = X.heap[k]? := by
  have hb := below_alloc X (.cells a e)
  have hs : (X.alloc (.cells a e)).heap.size = X.heap.size + 1 := by simp
  have hu := h.1.size
  refine ⟨RowC.carry h.2.1 (fun k hk => hb.block k (RowC.lt h.2.1 hK hk)), ?_, fun Y L' a1 a2 a3 => ?_⟩
  · refine Src.ofSlice _ ht _ _ _ _ (by omega) (fun j u hu => ?_) hone
    rw [Addr.add_lit, Nat.zero_add, World.cell?_alloc_mark, ← Array.getElem?_toList]
    exact hu
  · obtain ⟨p', c2, hv, _⟩ := a1.form
    subst hv
    have hA : Below u.heap.size u (X.alloc (.cells a e)) := h.1.trans (hb.mono h.1.size)
    refine ⟨p', c2, rfl, ⟨hA.grown a2 (by omega) (fun k hk => h.2.2 k hk), a1, fun j hj => ?_⟩, fun k hk hne => (a2.block k (by omega) (fun e => hne e.symm)).trans (hb.block k hk)⟩
    rcases a3 j hj with r | r
    · exact h.2.2 j r
    · omega

theorem lessS_take (s : ByteArray) {l : List ByteArray} {i : Nat} {x : ByteArray} (hx : l[i]? = some x) : Mp.lessS s (l.take (i + 1)) = Mp.lessS s (l.take i) ++ (if x = s then [] else [x]) := by
  rw [List.take_add_one, hx, Option.toList_some]
  unfold Mp.lessS
  rw [List.filter_append]
  congr 1
  by_cases h : x = s
  · rw [if_pos h]; simp [h]
  · rw [if_neg h]; simp [h]
theorem lessS_le (s : ByteArray) (l : List ByteArray) (i : Nat) : (Mp.lessS s (l.take i)).length ≤ l.length := Nat.le_trans (List.length_filter_le _ _) (by rw [List.length_take]; exact Nat.min_le_right _ _)

set_option maxHeartbeats 1600000 in
set_option maxRecDepth 20000 in
theorem rWithout_c {w : World} {v : Value} {l : List ByteArray} (h : Tx w v l) (hn : l.length ≤ 1000000) (s : ByteArray) : Calls Try.prog 63 #[v, .string s] w fun e w' => ∃ v', e = .returned v' ∧ Mk w w' 1 v' (Mp.lessS s l).length (tx (Mp.lessS s l)) := by
  obtain ⟨p, c, hv, hc1, hc2⟩ := RowC.form h
  obtain ⟨m, hm⟩ : ∃ m, m = l.length := ⟨_, rfl⟩
  rw [← hm] at hv hc1 hn
  subst hv
  have HI : Hid (∀ X, Below w.heap.size w X → ∀ k, k < m → ∃ x g off, l[k]? = some x ∧ p = some ⟨g, off, none⟩ ∧ X.cell? ⟨g, off + k, none⟩ = some (.string x)) := by
    intro X hX k hk
    have hx : l[k]? = some (l[k]'(by omega)) := List.getElem?_eq_getElem (by omega)
    obtain ⟨g, off, h1, h2⟩ := (h.below hX).at hx
    exact ⟨_, g, off, hx, h1, h2⟩
  have HM : Hid (m = l.length ∧ m ≤ 1000000) := ⟨hm, hn⟩
  have HQ : Hid (∀ X v', Mk w X 1 v' (Mp.lessS s l).length (tx (Mp.lessS s l)) → (fun (e : Ending) w' => ∃ v', e = .returned v' ∧ Mk w w' 1 v' (Mp.lessS s l).length (tx (Mp.lessS s l))) (.returned v') X) := fun X v' hX => ⟨v', rfl, hX⟩
  generalize (fun (e : Ending) w' => ∃ v', e = .returned v' ∧ Mk w w' 1 v' (Mp.lessS s l).length (tx (Mp.lessS s l))) = Q at HQ ⊢
  clear h hm hc1 hc2
  go_enter Try.func63, Try.ntmps63
  go_wp2
  go_loopw [5, 6] (fun lv iv wr => ∃ (i n c' : Nat) (q : Option Addr), iv = .int .i64 (i : Int) ∧ i ≤ m ∧ lv = .slice q n c' ∧ Hid (n = (Mp.lessS s (l.take i)).length ∧ Mk w wr 1 (.slice q n c') n (tx (Mp.lessS s (l.take i))))) (fun _ iv _ => m - (intOf iv).toNat)
  case atStart => exact ⟨0, 0, 0, none, rfl, Nat.zero_le _, rfl, rfl, Mk.nil _ _ _ (Below.refl _ _)⟩
  case round =>
    obtain ⟨i, n, c', q, rfl, him, rfl, HS⟩ := hrel
    by_cases hlt : i < m
    · obtain ⟨x, g, off, hl, hp, y0⟩ := HI.out wr HS.out.2.1 i hlt
      subst hp
      have HT := lessS_take s hl
      have hi0 : (0 : Int) ≤ (i : Int) := Int.natCast_nonneg i
      have hi1 : (i : Int) < (m : Int) := by omega
      by_cases q2 : x = s
      · rw [if_pos q2, List.append_nil] at HT
        have HS' : Hid (n = (Mp.lessS s (l.take (i + 1))).length ∧ Mk w wr 1 (.slice q n c') n (tx (Mp.lessS s (l.take (i + 1))))) := by rw [HT]; exact HS.out
        have hbe : (x.toList == s.toList) = true := by rw [beqB]; exact decide_eq_true q2
        clear HT hl q2
        go_wp2
        go_roundw
        case rel => exact ⟨i + 1, n, c', q, by go_num, by omega, rfl, HS'⟩
        case measure => simp [intOf]; omega
      · rw [if_neg q2] at HT
        have hbe : (x.toList == s.toList) = false := by rw [beqB]; exact decide_eq_false q2
        have HT : Hid _ := HT
        obtain ⟨r1, r2, r3⟩ := HS.out.2.app (by decide) (t := 25) (e := 9) Try.underlying25 #[.string x] rfl (fun u hu => by simp at hu; rw [hu]; rfl)
        have HRow : Hid (RowC (wr.alloc (.cells #[.string x] 9)) 1 (.slice q n c') n (tx (Mp.lessS s (l.take i)))) := r1
        have HSrc : Hid (Src Try.prog 1 25 (.slice (some ⟨wr.heap.size, 0, none⟩) 1 1) 1 [.string x] (wr.alloc (.cells #[.string x] 9))) := r2
        have HEnd : Hid (∀ Y L', RowC Y 1 L' (n + 1) (tx (Mp.lessS s (l.take i)) ++ [.string x]) → (wr.alloc (.cells #[.string x] 9)).grownBy Y (cBlk (.slice q n c')) → (∀ j, cBlk L' = some j → cBlk (.slice q n c') = some j ∨ wr.heap.size + 1 ≤ j) → ∃ p' c2, L' = .slice p' (n + 1) c2 ∧ Hid (n + 1 = (Mp.lessS s (l.take (i + 1))).length ∧ Mk w Y 1 (.slice p' (n + 1) c2) (n + 1) (tx (Mp.lessS s (l.take (i + 1)))))) := fun Y L' a1 a2 a3 => by
          obtain ⟨p', c2, e1, e2, _⟩ := r3 Y L' a1 a2 a3
          refine ⟨p', c2, e1, ?_, ?_⟩
          · rw [HT.out, List.length_append, HS.out.1]; rfl
          · rw [HT.out, tx_snoc]; exact e2
        have hL : Hid ((n + 1) * 16 ≤ 140737488355328 ∧ n + 1 ≤ maxLen) := by have h1 := lessS_le s l i; have h2 := HS.out.1; have h3 := HM.out; unfold maxLen; exact ⟨by omega, by omega⟩
        clear r1 r2 r3 hl q2
        go_wp2_with (at_builtin; refine wpList_append_rowC rfl (.tmp 19) (.tmp 24) 25 25 9 rfl Try.underlying25 _ 1 16 infoStr rfl (.slice q n c') n (tx (Mp.lessS s (l.take i))) rfl HRow.out _ 1 _ rfl HSrc.out hL.out.1 hL.out.2 ?qnext)
        case qnext =>
          intro L' Y a1 a2 a3
          obtain ⟨p', c2, rfl, HC⟩ := HEnd.out Y L' a1 a2 a3
          clear a1 a2 a3
          go_wp2
          go_roundw
          case rel => exact ⟨i + 1, n + 1, c2, p', by go_num, by omega, rfl, HC⟩
          case measure => simp [intOf]; omega
    · obtain rfl : i = m := by omega
      have HF : Hid (Mk w wr 1 (.slice q n c') (Mp.lessS s l).length (tx (Mp.lessS s l))) := by
        have h1 := HS.out
        rw [List.take_of_length_le (Nat.le_of_eq HM.out.1.symm)] at h1
        obtain ⟨h2, h3⟩ := h1
        rw [← h2]
        exact h3
      go_wp2
      exact HQ.out _ _ HF.out

end Go.Proofs.Ytkioeahlajjmiaa

/-
  The document's With: a rising list with one text more.
-/
namespace Go.Proofs.Ytkioeahlajjmiaa
open Go.RowKit

theorem st_len {α K : Type} (lt : K → K → Prop) (key : α → K) [DecidableEq K] [DecidableRel lt] (c : α) : ∀ (l : List α) (s : List α × Bool), (l.foldl (Mp.st key lt c) s).1.length ≤ s.1.length + 2 * l.length
  | [], s => by simp
  | x :: l, s => by
    have h1 : (Mp.st key lt c s x).1.length ≤ s.1.length + 2 := by
      unfold Mp.st
      split
      · omega
      · split <;> simp
    have := st_len lt key c l (Mp.st key lt c s x)
    rw [List.foldl_cons, List.length_cons]
    omega
theorem fold_take {α β : Type} (f : β → α → β) (z : β) {l : List α} {i : Nat} {x : α} (hx : l[i]? = some x) : (l.take (i + 1)).foldl f z = f ((l.take i).foldl f z) x := by
  rw [List.take_add_one, hx, Option.toList_some, List.foldl_append]
  rfl
theorem st_skip {α K : Type} {key : α → K} {lt : K → K → Prop} [DecidableEq K] [DecidableRel lt] {c x : α} (s : List α × Bool) (h : key x = key c) : Mp.st key lt c s x = s := if_pos h
theorem st_gt {α K : Type} {key : α → K} {lt : K → K → Prop} [DecidableEq K] [DecidableRel lt] {c x : α} (s : List α × Bool) (h : ¬ key x = key c) (hd : s.2 = false) (hl : lt (key c) (key x)) : Mp.st key lt c s x = (s.1 ++ [c] ++ [x], true) := by
  unfold Mp.st
  rw [if_neg h, if_pos ⟨hd, hl⟩]
theorem st_on {α K : Type} {key : α → K} {lt : K → K → Prop} [DecidableEq K] [DecidableRel lt] {c x : α} (s : List α × Bool) (h : ¬ key x = key c) (hd : s.2 = true ∨ ¬ lt (key c) (key x)) : Mp.st key lt c s x = (s.1 ++ [x], s.2) := by
  unfold Mp.st
  rw [if_neg h, if_neg (fun e => hd.elim (fun q => by rw [q] at e; simp at e) (fun q => q e.2))]
theorem less_of {x s : ByteArray} (h : ¬ Mp.ltB s x) (hne : x ≠ s) : Op.bytesLess x.toList s.toList = true := by
  rw [bytesLess_eq, ByteArray.toList_eq, ByteArray.toList_eq]
  rcases Mp.linB.tri x s with q | q | q
  · exact decide_eq_true q
  · exact absurd q hne
  · exact absurd q h
theorem less_not {x s : ByteArray} (h : Mp.ltB s x) : Op.bytesLess x.toList s.toList = false := by
  rw [bytesLess_eq, ByteArray.toList_eq, ByteArray.toList_eq]
  exact decide_eq_false (fun q => Mp.linB.irr _ (Mp.linB.tr _ _ _ h q))

set_option maxHeartbeats 3200000 in
set_option maxRecDepth 20000 in
theorem rWith_c {w : World} {v : Value} {l : List ByteArray} (h : Tx w v l) (hn : l.length ≤ 1000000) (s : ByteArray) (hs : s ∉ l) (hso : Mp.Sorted id Mp.ltB l) : Calls Try.prog 64 #[v, .string s] w fun e w' => ∃ v', e = .returned v' ∧ Mk w w' 1 v' (Mp.insS s l).length (tx (Mp.insS s l)) := by
  obtain ⟨p, c, hv, hc1, hc2⟩ := RowC.form h
  obtain ⟨m, hm⟩ : ∃ m, m = l.length := ⟨_, rfl⟩
  rw [← hm] at hv hc1 hn
  subst hv
  have HI : Hid (∀ X, Below w.heap.size w X → ∀ k, k < m → ∃ x g off, l[k]? = some x ∧ x ≠ s ∧ p = some ⟨g, off, none⟩ ∧ X.cell? ⟨g, off + k, none⟩ = some (.string x)) := by
    intro X hX k hk
    have hx : l[k]? = some (l[k]'(by omega)) := List.getElem?_eq_getElem (by omega)
    obtain ⟨g, off, h1, h2⟩ := (h.below hX).at hx
    exact ⟨_, g, off, hx, fun e => hs (by rw [← e]; exact List.getElem_mem _), h1, h2⟩
  have HM : Hid (m = l.length ∧ m ≤ 1000000) := ⟨hm, hn⟩
  have HFi : Hid (Mp.fin s (l.foldl (Mp.st id Mp.ltB s) ([], false)) = Mp.insS s l) := by rw [Mp.st_all Mp.linB l [] hso]; rfl
  have HQ : Hid (∀ X v', Mk w X 1 v' (Mp.insS s l).length (tx (Mp.insS s l)) → (fun (e : Ending) w' => ∃ v', e = .returned v' ∧ Mk w w' 1 v' (Mp.insS s l).length (tx (Mp.insS s l))) (.returned v') X) := fun X v' hX => ⟨v', rfl, hX⟩
  generalize (fun (e : Ending) w' => ∃ v', e = .returned v' ∧ Mk w w' 1 v' (Mp.insS s l).length (tx (Mp.insS s l))) = Q at HQ ⊢
  clear h hm hc1 hc2 hs hso
  go_enter Try.func64, Try.ntmps64
  go_wp2
  go_loopw [5, 6, 7] (fun lv dv iv wr => ∃ (i n c' : Nat) (q : Option Addr) (d : Bool), iv = .int .i64 (i : Int) ∧ i ≤ m ∧ dv = .bool d ∧ lv = .slice q n c' ∧ Hid (n = ((l.take (i)).foldl (Mp.st id Mp.ltB s) ([], false)).1.length ∧ d = ((l.take (i)).foldl (Mp.st id Mp.ltB s) ([], false)).2 ∧ Mk w wr 1 (.slice q n c') n (tx ((l.take (i)).foldl (Mp.st id Mp.ltB s) ([], false)).1))) (fun _ _ iv _ => m - (intOf iv).toNat)
  case atStart => exact ⟨0, 0, 0, none, false, rfl, Nat.zero_le _, rfl, rfl, rfl, rfl, Mk.nil _ _ _ (Below.refl _ _)⟩
  case round =>
    obtain ⟨i, n, c', q, d, rfl, him, rfl, rfl, HS⟩ := hrel
    by_cases hlt : i < m
    · obtain ⟨x, g, off, hl, hxs, hp, y0⟩ := HI.out wr HS.out.2.2.1 i hlt
      subst hp
      have hi0 : (0 : Int) ≤ (i : Int) := Int.natCast_nonneg i
      have hi1 : (i : Int) < (m : Int) := by omega
      have hbe : (x.toList == s.toList) = false := by rw [beqB]; exact decide_eq_false hxs
      have HT0 := fold_take (Mp.st id Mp.ltB s) ([], false) hl
      have hd := HS.out.2.1
      cases d with
      | true =>
        have HT : Hid (((l.take (i + 1)).foldl (Mp.st id Mp.ltB s) ([], false)) = (((l.take (i)).foldl (Mp.st id Mp.ltB s) ([], false)).1 ++ [x], true)) := by
          show _ = _
          rw [HT0, st_on (key := id) (lt := Mp.ltB) _ hxs (.inl hd.symm), ← hd]
        clear HT0 hd hl hxs hbe
        obtain ⟨r1, r2, r3⟩ := (HS.out.2.2).app (by decide) (t := 25) (e := 9) Try.underlying25 #[.string x] rfl (fun u hu => by simp at hu; rcases hu with rfl <;> rfl)
        have HRowA : Hid (RowC (wr.alloc (.cells #[.string x] 9)) 1 (.slice q n c') n (tx ((l.take (i)).foldl (Mp.st id Mp.ltB s) ([], false)).1)) := r1
        have HSrcA : Hid (Src Try.prog 1 25 (.slice (some ⟨wr.heap.size, 0, none⟩) 1 1) 1 [.string x] (wr.alloc (.cells #[.string x] 9))) := r2
        have HEndA : Hid (∀ Y L', RowC Y 1 L' (n + 1) (tx ((l.take (i)).foldl (Mp.st id Mp.ltB s) ([], false)).1 ++ [.string x]) → (wr.alloc (.cells #[.string x] 9)).grownBy Y (cBlk (.slice q n c')) → (∀ j, cBlk L' = some j → cBlk (.slice q n c') = some j ∨ wr.heap.size + 1 ≤ j) → ∃ p' c2, L' = .slice p' (n + 1) c2 ∧ Hid (Mk w Y 1 (.slice p' (n + 1) c2) (n + 1) (tx ((l.take (i)).foldl (Mp.st id Mp.ltB s) ([], false)).1 ++ [.string x])) ∧ Hid (∀ k, k < wr.heap.size → cBlk (.slice q n c') ≠ some k → Y.heap[k]? = wr.heap[k]?)) := fun Y L' a1 a2 a3 => r3 Y L' a1 a2 a3
        have hLA : Hid ((n + 1) * 16 ≤ 140737488355328 ∧ n + 1 ≤ maxLen) := by have h1 := st_len (Mp.ltB) id s (l.take i) ([], false); have h2 := HS.out.1; have h3 : (l.take i).length ≤ l.length := (by rw [List.length_take]; exact Nat.min_le_right _ _); have h4 := HM.out; simp at h1; unfold maxLen; exact ⟨by omega, by omega⟩
        clear r1 r2 r3 
        go_wp2_with (at_builtin; refine wpList_append_rowC rfl (.tmp 28) (.tmp 33) 25 25 9 rfl Try.underlying25 _ 1 16 infoStr rfl (.slice q n c') n (tx ((l.take (i)).foldl (Mp.st id Mp.ltB s) ([], false)).1) rfl HRowA.out _ 1 _ rfl HSrcA.out hLA.out.1 hLA.out.2 ?qnextA)
        case qnextA =>
          intro L' YA a1 a2 a3
          obtain ⟨pA, cA, rfl, HCA, HKpA⟩ := HEndA.out YA L' a1 a2 a3
          clear a1 a2 a3 HRowA HSrcA HEndA hLA
          have HN : Hid (n + 1 = ((l.take (i + 1)).foldl (Mp.st id Mp.ltB s) ([], false)).1.length ∧ true = ((l.take (i + 1)).foldl (Mp.st id Mp.ltB s) ([], false)).2 ∧ Mk w YA 1 (.slice pA (n + 1) cA) (n + 1) (tx ((l.take (i + 1)).foldl (Mp.st id Mp.ltB s) ([], false)).1)) := by
            have e1 := HT.out
            refine ⟨?_, ?_, ?_⟩
            · rw [e1]; have := HS.out.1; simp; omega
            · rw [e1]
            · rw [e1]; rw [tx_snoc]; exact HCA.out
          go_wp2
          go_roundw
          case rel => exact ⟨i + 1, n + 1, cA, pA, true, by go_num, by omega, rfl, rfl, HN⟩
          case measure => simp [intOf]; omega
      | false =>
        by_cases hgt : Mp.ltB s x
        · have HT : Hid (((l.take (i + 1)).foldl (Mp.st id Mp.ltB s) ([], false)) = (((l.take (i)).foldl (Mp.st id Mp.ltB s) ([], false)).1 ++ [s] ++ [x], true)) := by
            show _ = _
            rw [HT0, st_gt (key := id) (lt := Mp.ltB) _ hxs hd.symm hgt]
          have hbl := less_not hgt
          have HIx : Hid (∀ X, Below w.heap.size w X → X.cell? ⟨g, off + i, none⟩ = some (.string x)) := fun X hX => by
            obtain ⟨x', g', off', hl', _, hp', y'⟩ := HI.out X hX i hlt
            rw [hl] at hl'
            injection hl' with hl'
            injection hp' with hp'
            injection hp' with e1 e2
            rw [hl', e1, e2]
            exact y'
          clear HT0 hd hl hxs hgt
          obtain ⟨r1, r2, r3⟩ := (HS.out.2.2).app (by decide) (t := 25) (e := 9) Try.underlying25 #[.string s] rfl (fun u hu => by simp at hu; rcases hu with rfl <;> rfl)
          have HRowA : Hid (RowC (wr.alloc (.cells #[.string s] 9)) 1 (.slice q n c') n (tx ((l.take (i)).foldl (Mp.st id Mp.ltB s) ([], false)).1)) := r1
          have HSrcA : Hid (Src Try.prog 1 25 (.slice (some ⟨wr.heap.size, 0, none⟩) 1 1) 1 [.string s] (wr.alloc (.cells #[.string s] 9))) := r2
          have HEndA : Hid (∀ Y L', RowC Y 1 L' (n + 1) (tx ((l.take (i)).foldl (Mp.st id Mp.ltB s) ([], false)).1 ++ [.string s]) → (wr.alloc (.cells #[.string s] 9)).grownBy Y (cBlk (.slice q n c')) → (∀ j, cBlk L' = some j → cBlk (.slice q n c') = some j ∨ wr.heap.size + 1 ≤ j) → ∃ p' c2, L' = .slice p' (n + 1) c2 ∧ Hid (Mk w Y 1 (.slice p' (n + 1) c2) (n + 1) (tx ((l.take (i)).foldl (Mp.st id Mp.ltB s) ([], false)).1 ++ [.string s])) ∧ Hid (∀ k, k < wr.heap.size → cBlk (.slice q n c') ≠ some k → Y.heap[k]? = wr.heap[k]?)) := fun Y L' a1 a2 a3 => r3 Y L' a1 a2 a3
          have hLA : Hid ((n + 1) * 16 ≤ 140737488355328 ∧ n + 1 ≤ maxLen) := by have h1 := st_len (Mp.ltB) id s (l.take i) ([], false); have h2 := HS.out.1; have h3 : (l.take i).length ≤ l.length := (by rw [List.length_take]; exact Nat.min_le_right _ _); have h4 := HM.out; simp at h1; unfold maxLen; exact ⟨by omega, by omega⟩
          clear r1 r2 r3 
          go_wp2_with (at_builtin; refine wpList_append_rowC rfl (.tmp 24) (.tmp 26) 25 25 9 rfl Try.underlying25 _ 1 16 infoStr rfl (.slice q n c') n (tx ((l.take (i)).foldl (Mp.st id Mp.ltB s) ([], false)).1) rfl HRowA.out _ 1 _ rfl HSrcA.out hLA.out.1 hLA.out.2 ?qnextA)
          case qnextA =>
            intro L' YA a1 a2 a3
            obtain ⟨pA, cA, rfl, HCA, HKpA⟩ := HEndA.out YA L' a1 a2 a3
            clear a1 a2 a3 HRowA HSrcA HEndA hLA
            have y1 := HIx.out YA HCA.out.1
            obtain ⟨xs1, hxs1⟩ : ∃ z, z = tx ((l.take (i)).foldl (Mp.st id Mp.ltB s) ([], false)).1 ++ [.string s] := ⟨_, rfl⟩
            rw [← hxs1] at HCA
            have HX1 : Hid (xs1 = tx ((l.take (i)).foldl (Mp.st id Mp.ltB s) ([], false)).1 ++ [.string s]) := hxs1
            clear y0 hxs1
            obtain ⟨r1, r2, r3⟩ := (HCA.out).app (by decide) (t := 25) (e := 9) Try.underlying25 #[.string x] rfl (fun u hu => by simp at hu; rcases hu with rfl <;> rfl)
            have HRowB : Hid (RowC (YA.alloc (.cells #[.string x] 9)) 1 (.slice pA (n + 1) cA) (n + 1) (xs1)) := r1
            have HSrcB : Hid (Src Try.prog 1 25 (.slice (some ⟨YA.heap.size, 0, none⟩) 1 1) 1 [.string x] (YA.alloc (.cells #[.string x] 9))) := r2
            have HEndB : Hid (∀ Y L', RowC Y 1 L' ((n + 1) + 1) (xs1 ++ [.string x]) → (YA.alloc (.cells #[.string x] 9)).grownBy Y (cBlk (.slice pA (n + 1) cA)) → (∀ j, cBlk L' = some j → cBlk (.slice pA (n + 1) cA) = some j ∨ YA.heap.size + 1 ≤ j) → ∃ p' c2, L' = .slice p' ((n + 1) + 1) c2 ∧ Hid (Mk w Y 1 (.slice p' ((n + 1) + 1) c2) ((n + 1) + 1) (xs1 ++ [.string x])) ∧ Hid (∀ k, k < YA.heap.size → cBlk (.slice pA (n + 1) cA) ≠ some k → Y.heap[k]? = YA.heap[k]?)) := fun Y L' a1 a2 a3 => r3 Y L' a1 a2 a3
            have hLB : Hid (((n + 1) + 1) * 16 ≤ 140737488355328 ∧ (n + 1) + 1 ≤ maxLen) := by have h1 := st_len (Mp.ltB) id s (l.take i) ([], false); have h2 := HS.out.1; have h3 : (l.take i).length ≤ l.length := (by rw [List.length_take]; exact Nat.min_le_right _ _); have h4 := HM.out; simp at h1; unfold maxLen; exact ⟨by omega, by omega⟩
            clear r1 r2 r3 
            go_wp2_with (at_builtin; refine wpList_append_rowC rfl (.tmp 28) (.tmp 33) 25 25 9 rfl Try.underlying25 _ 1 16 infoStr rfl (.slice pA (n + 1) cA) (n + 1) (xs1) rfl HRowB.out _ 1 _ rfl HSrcB.out hLB.out.1 hLB.out.2 ?qnextB)
            case qnextB =>
              intro L' YB a1 a2 a3
              obtain ⟨pB, cB, rfl, HCB, HKpB⟩ := HEndB.out YB L' a1 a2 a3
              clear a1 a2 a3 HRowB HSrcB HEndB hLB
              have HN : Hid (n + 1 + 1 = ((l.take (i + 1)).foldl (Mp.st id Mp.ltB s) ([], false)).1.length ∧ true = ((l.take (i + 1)).foldl (Mp.st id Mp.ltB s) ([], false)).2 ∧ Mk w YB 1 (.slice pB (n + 1 + 1) cB) (n + 1 + 1) (tx ((l.take (i + 1)).foldl (Mp.st id Mp.ltB s) ([], false)).1)) := by
                have e1 := HT.out
                refine ⟨?_, ?_, ?_⟩
                · rw [e1]; have := HS.out.1; simp; omega
                · rw [e1]
                · rw [e1]; rw [tx_snoc, tx_snoc, ← HX1.out]; exact HCB.out
              go_wp2
              go_roundw
              case rel => exact ⟨i + 1, n + 1 + 1, cB, pB, true, by go_num, by omega, rfl, rfl, HN⟩
              case measure => simp [intOf]; omega
        · have HT : Hid (((l.take (i + 1)).foldl (Mp.st id Mp.ltB s) ([], false)) = (((l.take (i)).foldl (Mp.st id Mp.ltB s) ([], false)).1 ++ [x], false)) := by
            show _ = _
            rw [HT0, st_on (key := id) (lt := Mp.ltB) _ hxs (.inr hgt), ← hd]
          have hbl := less_of hgt hxs
          clear HT0 hd hl hxs hgt
          obtain ⟨r1, r2, r3⟩ := (HS.out.2.2).app (by decide) (t := 25) (e := 9) Try.underlying25 #[.string x] rfl (fun u hu => by simp at hu; rcases hu with rfl <;> rfl)
          have HRowA : Hid (RowC (wr.alloc (.cells #[.string x] 9)) 1 (.slice q n c') n (tx ((l.take (i)).foldl (Mp.st id Mp.ltB s) ([], false)).1)) := r1
          have HSrcA : Hid (Src Try.prog 1 25 (.slice (some ⟨wr.heap.size, 0, none⟩) 1 1) 1 [.string x] (wr.alloc (.cells #[.string x] 9))) := r2
          have HEndA : Hid (∀ Y L', RowC Y 1 L' (n + 1) (tx ((l.take (i)).foldl (Mp.st id Mp.ltB s) ([], false)).1 ++ [.string x]) → (wr.alloc (.cells #[.string x] 9)).grownBy Y (cBlk (.slice q n c')) → (∀ j, cBlk L' = some j → cBlk (.slice q n c') = some j ∨ wr.heap.size + 1 ≤ j) → ∃ p' c2, L' = .slice p' (n + 1) c2 ∧ Hid (Mk w Y 1 (.slice p' (n + 1) c2) (n + 1) (tx ((l.take (i)).foldl (Mp.st id Mp.ltB s) ([], false)).1 ++ [.string x])) ∧ Hid (∀ k, k < wr.heap.size → cBlk (.slice q n c') ≠ some k → Y.heap[k]? = wr.heap[k]?)) := fun Y L' a1 a2 a3 => r3 Y L' a1 a2 a3
          have hLA : Hid ((n + 1) * 16 ≤ 140737488355328 ∧ n + 1 ≤ maxLen) := by have h1 := st_len (Mp.ltB) id s (l.take i) ([], false); have h2 := HS.out.1; have h3 : (l.take i).length ≤ l.length := (by rw [List.length_take]; exact Nat.min_le_right _ _); have h4 := HM.out; simp at h1; unfold maxLen; exact ⟨by omega, by omega⟩
          clear r1 r2 r3 
          go_wp2_with (at_builtin; refine wpList_append_rowC rfl (.tmp 28) (.tmp 33) 25 25 9 rfl Try.underlying25 _ 1 16 infoStr rfl (.slice q n c') n (tx ((l.take (i)).foldl (Mp.st id Mp.ltB s) ([], false)).1) rfl HRowA.out _ 1 _ rfl HSrcA.out hLA.out.1 hLA.out.2 ?qnextA)
          case qnextA =>
            intro L' YA a1 a2 a3
            obtain ⟨pA, cA, rfl, HCA, HKpA⟩ := HEndA.out YA L' a1 a2 a3
            clear a1 a2 a3 HRowA HSrcA HEndA hLA
            have HN : Hid (n + 1 = ((l.take (i + 1)).foldl (Mp.st id Mp.ltB s) ([], false)).1.length ∧ false = ((l.take (i + 1)).foldl (Mp.st id Mp.ltB s) ([], false)).2 ∧ Mk w YA 1 (.slice pA (n + 1) cA) (n + 1) (tx ((l.take (i + 1)).foldl (Mp.st id Mp.ltB s) ([], false)).1)) := by
              have e1 := HT.out
              refine ⟨?_, ?_, ?_⟩
              · rw [e1]; have := HS.out.1; simp; omega
              · rw [e1]
              · rw [e1]; rw [tx_snoc]; exact HCA.out
            go_wp2
            go_roundw
            case rel => exact ⟨i + 1, n + 1, cA, pA, false, by go_num, by omega, rfl, rfl, HN⟩
            case measure => simp [intOf]; omega
    · obtain rfl : i = m := by omega
      have HF : Hid (n = (l.foldl (Mp.st id Mp.ltB s) ([], false)).1.length ∧ d = (l.foldl (Mp.st id Mp.ltB s) ([], false)).2 ∧ Mk w wr 1 (.slice q n c') n (tx (l.foldl (Mp.st id Mp.ltB s) ([], false)).1)) := by
        have h1 := HS.out
        rw [List.take_of_length_le (Nat.le_of_eq HM.out.1.symm)] at h1
        exact h1
      cases d with
      | true =>
        have HE : Hid (Mk w wr 1 (.slice q n c') (Mp.insS s l).length (tx (Mp.insS s l))) := by
          rw [← HFi.out]
          unfold Mp.fin
          rw [if_pos HF.out.2.1.symm, ← HF.out.1]
          exact HF.out.2.2
        go_wp2
        exact HQ.out _ _ HE.out
      | false =>
        obtain ⟨r1, r2, r3⟩ := (HF.out.2.2).app (by decide) (t := 25) (e := 9) Try.underlying25 #[.string s] rfl (fun u hu => by simp at hu; rcases hu with rfl <;> rfl)
        have HRowA : Hid (RowC (wr.alloc (.cells #[.string s] 9)) 1 (.slice q n c') n (tx (l.foldl (Mp.st id Mp.ltB s) ([], false)).1)) := r1
        have HSrcA : Hid (Src Try.prog 1 25 (.slice (some ⟨wr.heap.size, 0, none⟩) 1 1) 1 [.string s] (wr.alloc (.cells #[.string s] 9))) := r2
        have HEndA : Hid (∀ Y L', RowC Y 1 L' (n + 1) (tx (l.foldl (Mp.st id Mp.ltB s) ([], false)).1 ++ [.string s]) → (wr.alloc (.cells #[.string s] 9)).grownBy Y (cBlk (.slice q n c')) → (∀ j, cBlk L' = some j → cBlk (.slice q n c') = some j ∨ wr.heap.size + 1 ≤ j) → ∃ p' c2, L' = .slice p' (n + 1) c2 ∧ Hid (Mk w Y 1 (.slice p' (n + 1) c2) (n + 1) (tx (l.foldl (Mp.st id Mp.ltB s) ([], false)).1 ++ [.string s])) ∧ Hid (∀ k, k < wr.heap.size → cBlk (.slice q n c') ≠ some k → Y.heap[k]? = wr.heap[k]?)) := fun Y L' a1 a2 a3 => r3 Y L' a1 a2 a3
        have hLA : Hid ((n + 1) * 16 ≤ 140737488355328 ∧ n + 1 ≤ maxLen) := by have h1 := st_len (Mp.ltB) id s l ([], false); have h2 := HF.out.1; have h4 := HM.out; simp at h1; unfold maxLen; exact ⟨by omega, by omega⟩
        clear r1 r2 r3 
        go_wp2_with (at_builtin; refine wpList_append_rowC rfl (.tmp 37) (.tmp 39) 25 25 9 rfl Try.underlying25 _ 1 16 infoStr rfl (.slice q n c') n (tx (l.foldl (Mp.st id Mp.ltB s) ([], false)).1) rfl HRowA.out _ 1 _ rfl HSrcA.out hLA.out.1 hLA.out.2 ?qnextA)
        case qnextA =>
          intro L' YA a1 a2 a3
          obtain ⟨pA, cA, rfl, HCA, HKpA⟩ := HEndA.out YA L' a1 a2 a3
          clear a1 a2 a3 HRowA HSrcA HEndA hLA
          have HE : Hid (Mk w YA 1 (.slice pA (n + 1) cA) (Mp.insS s l).length (tx (Mp.insS s l))) := by
            rw [← HFi.out]
            unfold Mp.fin
            rw [if_neg (by rw [← HF.out.2.1]; simp), List.length_append, ← HF.out.1, tx_snoc]
            exact HCA.out
          go_wp2
          exact HQ.out _ _ HE.out

end Go.Proofs.Ytkioeahlajjmiaa

/-
  Rows of the document's channels; the boxes of a call that makes another model; Find.
-/
namespace Go.Proofs.Ytkioeahlajjmiaa
open Go.RowKit

/-- A channel of the document's, with where its lists lie. -/
structure Rw where
  cn : Mp.Cn
  pm : Option Addr
  cm : Nat
  pp : Option Addr
  cp : Nat
def Rw.vm (p : Rw) : Value := .slice p.pm p.cn.mems.length p.cm
def Rw.vp (p : Rw) : Value := .slice p.pp p.cn.posts.length p.cp
def Rw.key (p : Rw) : ByteArray × ByteArray := p.cn.key
def chC (p : Rw) : List Value := [.string p.cn.space, .string p.cn.name, .slice p.pm p.cn.mems.length p.cm, .slice p.pp p.cn.posts.length p.cp]
def lsC (t : List Rw) : List Value := t.flatMap chC
theorem lsC_snoc (t : List Rw) (p : Rw) : lsC (t ++ [p]) = lsC t ++ [.string p.cn.space, .string p.cn.name, .slice p.pm p.cn.mems.length p.cm, .slice p.pp p.cn.posts.length p.cp] := by simp [lsC, chC]
theorem lsC_at : ∀ (t : List Rw) (i : Nat) (x : Rw), t[i]? = some x → ∀ q, q < 4 → (lsC t)[i * 4 + q]? = (chC x)[q]?
  | [], _, _, h, _, _ => by simp at h
  | y :: l, 0, x, h, q, hq => by
    have h' : y = x := by simpa using h
    subst h'
    show (chC y ++ lsC l)[0 * 4 + q]? = _
    rw [Nat.zero_mul, Nat.zero_add, List.getElem?_append_left (by exact hq)]
  | y :: l, i + 1, x, h, q, hq => by
    have ih := lsC_at l i x (by simpa using h) q hq
    show (chC y ++ lsC l)[(i + 1) * 4 + q]? = _
    rw [List.getElem?_append_right (by show 4 ≤ _; omega), ← ih]
    congr 1
    show (i + 1) * 4 + q - 4 = _
    omega
/-- The document's channels lie there. -/
def Ls9 (w : World) (v : Value) (t : List Rw) : Prop := RowC w 4 v t.length (lsC t)
theorem Ls9.below {w w' : World} {v : Value} {t : List Rw} (h : Ls9 w v t) (hb : Below w.heap.size w w') : Ls9 w' v t := RowC.carry h (fun k hk => hb.block k (RowC.lt h (by decide) hk))
theorem Ls9.at {w : World} {p : Option Addr} {m c : Nat} {t : List Rw} (h : Ls9 w (.slice p m c) t) {i : Nat} {x : Rw} (hx : t[i]? = some x) : ∃ g off, p = some ⟨g, off, none⟩ ∧ w.cell? ⟨g, off + i * 4, none⟩ = some (.string x.cn.space) ∧ w.cell? ⟨g, off + i * 4 + 1, none⟩ = some (.string x.cn.name) ∧ w.cell? ⟨g, off + i * 4 + 2, none⟩ = some (.slice x.pm x.cn.mems.length x.cm) ∧ w.cell? ⟨g, off + i * 4 + 3, none⟩ = some (.slice x.pp x.cn.posts.length x.cp) := by
  have hi := (List.getElem?_eq_some_iff.1 hx).1
  obtain ⟨g, off, c', hv, _, _, _, hcs⟩ := RowC.cells h (by omega)
  injection hv with hp _ _
  have h0 := hcs _ _ ((lsC_at t i x hx 0 (by omega)).trans rfl)
  have h1 := hcs _ _ ((lsC_at t i x hx 1 (by omega)).trans rfl)
  have h2 := hcs _ _ ((lsC_at t i x hx 2 (by omega)).trans rfl)
  have h3 := hcs _ _ ((lsC_at t i x hx 3 (by omega)).trans rfl)
  exact ⟨g, off, hp, h0, h1, h2, h3⟩

theorem infoCn : (Try.prog.info? 84).map (fun i => (i.zero, i.size, i.bytes)) = some (some (.agg #[.string ⟨#[]⟩, .string ⟨#[]⟩, .slice none 0 0, .slice none 0 0]), 4, 80) := by kernel_rfl

/-! ### boxes -/
theorem cell_set9 {w : World} {b o : Nat} {y : Value} (x : Value) (h : w.cell? ⟨b, o, none⟩ = some y) (q : Nat) : (w.setCell ⟨b, o, none⟩ x).cell? ⟨b, q, none⟩ = if q = o then some x else w.cell? ⟨b, q, none⟩ := by
  split
  · rename_i e
    subst e
    exact World.cell?_setCell_same _ _ _ (by rw [h])
  · rename_i e
    exact World.cell?_setCell_other _ _ _ _ (fun e' => e (by injection e' with _ e2; exact e2.symm))
theorem size_set9 (w : World) (p : Addr) (x : Value) : (w.setCell p x).heap.size = w.heap.size := by simp [World.setCell]
/-- A box of two values, and whether it may be written. -/
structure Bq (b : Nat) (x y : Value) (X : World) : Prop where
  c0 : X.cell? ⟨b, 0, none⟩ = some x
  c1 : X.cell? ⟨b, 1, none⟩ = some y
  f0 : X.frozen? ⟨b, 0, none⟩ = false
  f1 : X.frozen? ⟨b, 1, none⟩ = false
theorem Bq.keep {b : Nat} {x y : Value} {X Y : World} (h : Bq b x y X) (hb : Y.heap[b]? = X.heap[b]?) : Bq b x y Y :=
  ⟨(World.cell?_of_block (a := ⟨b, 0, none⟩) hb).trans h.c0, (World.cell?_of_block (a := ⟨b, 1, none⟩) hb).trans h.c1, (World.frozen?_of_block (a := ⟨b, 0, none⟩) hb).trans h.f0, (World.frozen?_of_block (a := ⟨b, 1, none⟩) hb).trans h.f1⟩
theorem Bq.lt {b : Nat} {x y : Value} {X : World} (h : Bq b x y X) : b < X.heap.size := World.block_lt_of_cell? _ _ h.c0
theorem Bq.below {b : Nat} {x y : Value} {X Y : World} (h : Bq b x y X) (hb : Below X.heap.size X Y) : Bq b x y Y := h.keep (hb.block b h.lt)
theorem Bq.start (w : World) (x y : Value) (t : TypeId) : Bq w.heap.size x y (w.alloc (.cells #[x, y] t)) :=
  ⟨World.cell?_alloc_mark w _ _ _ 0, World.cell?_alloc_mark w _ _ _ 1, by rw [World.frozen?_alloc_mark]; simp, by rw [World.frozen?_alloc_mark]; simp⟩
theorem Bq.set0 {b : Nat} {x y : Value} {X : World} (h : Bq b x y X) (z : Value) : Bq b z y (X.setCell ⟨b, 0, none⟩ z) :=
  ⟨by rw [cell_set9 _ h.c0, if_pos rfl], by rw [cell_set9 _ h.c0, if_neg (by omega)]; exact h.c1, by rw [World.frozen?_setCell]; exact h.f0, by rw [World.frozen?_setCell]; exact h.f1⟩
theorem Bq.set1 {b : Nat} {x y : Value} {X : World} (h : Bq b x y X) (z : Value) : Bq b x z (X.setCell ⟨b, 1, none⟩ z) :=
  ⟨by rw [cell_set9 _ h.c1, if_neg (by omega)]; exact h.c0, by rw [cell_set9 _ h.c1, if_pos rfl], by rw [World.frozen?_setCell]; exact h.f0, by rw [World.frozen?_setCell]; exact h.f1⟩
/-- The result's box is written. -/
def fn2 (X : World) (b : Nat) (x y : Value) : World := (X.setCell ⟨b, 0, none⟩ x).setCell ⟨b, 1, none⟩ y
theorem fn2_below {w X : World} {b : Nat} (hb : Below w.heap.size w X) (h1 : w.heap.size ≤ b) (x y : Value) : Below w.heap.size w (fn2 X b x y) := (hb.setCell (p := ⟨b, 0, none⟩) h1 _).setCell (p := ⟨b, 1, none⟩) h1 _
theorem fn2_other {X : World} {b k : Nat} (h1 : k ≠ b) (x y : Value) : (fn2 X b x y).heap[k]? = X.heap[k]? := by
  unfold fn2
  rw [Below.heap_setCell _ _ _ _ h1, Below.heap_setCell _ _ _ _ h1]
theorem Bq.fin {b : Nat} {x y : Value} {X : World} (h : Bq b x y X) (x' y' : Value) : Bq b x' y' (fn2 X b x' y') := (h.set0 x').set1 y'

/-- The end of a call that makes another list: it goes into the model's box, and that into the result's. -/
theorem tail2 {w u X : World} {bn br K n : Nat} {v' vl vo r0 r1 : Value} {xs : List Value} (hbu : Below w.heap.size w u) (hn1 : w.heap.size ≤ bn) (hn2 : bn < u.heap.size) (hr1 : w.heap.size ≤ br) (hr2 : br < u.heap.size) (hne : br ≠ bn) (hN : Bq bn vl vo X) (hR : Bq br r0 r1 X) (hM : Mk u X K v' n xs) :
    Bq bn v' vo (X.setCell ⟨bn, 0, none⟩ v') ∧ Bq br r0 r1 (X.setCell ⟨bn, 0, none⟩ v') ∧ Bq br v' vo (fn2 (X.setCell ⟨bn, 0, none⟩ v') br v' vo) ∧ Mk w (fn2 (X.setCell ⟨bn, 0, none⟩ v') br v' vo) K v' n xs := by
  have hwX : Below w.heap.size w X := hbu.trans (hM.1.mono hbu.size)
  have hRz : Bq br r0 r1 (X.setCell ⟨bn, 0, none⟩ v') := hR.keep (Below.heap_setCell _ _ _ _ hne)
  refine ⟨hN.set0 v', hRz, hRz.fin _ _, fn2_below (hwX.setCell (p := ⟨bn, 0, none⟩) hn1 _) hr1 _ _, RowC.carry hM.2.1 (fun k hk => ?_), fun j hj => Nat.le_trans hbu.size (hM.2.2 j hj)⟩
  have := hM.2.2 k hk
  rw [fn2_other (by omega), Below.heap_setCell _ _ _ _ (by show k ≠ bn; omega)]

theorem filt_take {α : Type} (P : α → Bool) {l : List α} {i : Nat} {x : α} (hx : l[i]? = some x) : (l.take (i + 1)).filter P = (l.take i).filter P ++ (if P x = true then [x] else []) := by
  rw [List.take_add_one, hx, Option.toList_some, List.filter_append]
  congr 1
  by_cases h : P x = true
  · rw [if_pos h]; simp [h]
  · rw [if_neg h]; simp [h]
theorem filt_le {α : Type} (P : α → Bool) (l : List α) (i : Nat) : ((l.take i).filter P).length ≤ l.length := Nat.le_trans (List.length_filter_le _ _) (by rw [List.length_take]; exact Nat.min_le_right _ _)

/-! ### Find -/
section
variable {w : World} {pl : Option Addr} {cl : Nat} {t : List Rw}
/-- Where a channel stands. -/
def Where (t : List Rw) (x y : ByteArray) (k : Int) : Prop := (k = -1 ∧ ∀ p ∈ t, p.key ≠ (x, y)) ∨ ∃ (i : Nat) (p : Rw), k = (i : Int) ∧ t[i]? = some p ∧ p.key = (x, y)
theorem where_is (t : List Rw) (x y : ByteArray) : (∀ p ∈ t, p.key ≠ (x, y)) ∨ ∃ (i : Nat) (p : Rw), t[i]? = some p ∧ p.key = (x, y) ∧ ∀ (j : Nat), j < i → ∀ q : Rw, t[j]? = some q → q.key ≠ (x, y) := by
  induction t with
  | nil => exact .inl (fun p hp => by cases hp)
  | cons a t ih =>
    by_cases e : a.key = (x, y)
    · exact .inr ⟨0, a, rfl, e, fun j hj => by omega⟩
    · rcases ih with h | ⟨i, p, h1, h2, h3⟩
      · refine .inl (fun p hp => ?_)
        rcases List.mem_cons.1 hp with q | q
        · rw [q]; exact e
        · exact h p q
      · refine .inr ⟨i + 1, p, by simpa using h1, h2, fun j hj q hq => ?_⟩
        cases j with
        | zero =>
          have : a = q := by simpa using hq
          rw [← this]; exact e
        | succ j => exact h3 j (by omega) q (by simpa using hq)

set_option maxHeartbeats 1600000 in
set_option maxRecDepth 20000 in
theorem rFind_c (h : Ls9 w (.slice pl t.length cl) t) (hn : t.length ≤ 1000000) (po : Option Addr) (no co : Nat) (x y : ByteArray) :
    Calls Try.prog 39 #[.agg #[.slice pl t.length cl, .slice po no co], .string x, .string y] w fun e w' => ∃ k : Int, e = .returned (.int .i64 k) ∧ Where t x y k ∧ Below w.heap.size w w' := by
  obtain ⟨u, hu⟩ : ∃ u, u = w.alloc (.cells #[.slice pl t.length cl, .slice po no co] 54) := ⟨_, rfl⟩
  have hbu : Below w.heap.size w u := by rw [hu]; exact below_alloc _ _
  have hB : Bq w.heap.size (.slice pl t.length cl) (.slice po no co) u := by rw [hu]; exact Bq.start _ _ _ _
  obtain ⟨bn, hbn⟩ : ∃ bn, bn = w.heap.size := ⟨_, rfl⟩
  rw [← hbn] at hB
  obtain ⟨m, hm⟩ : ∃ m, m = t.length := ⟨_, rfl⟩
  have HI : Hid (∀ X, Below u.heap.size u X → ∀ k, k < m → ∃ p g off, t[k]? = some p ∧ pl = some ⟨g, off, none⟩ ∧ X.cell? ⟨g, off + k * 4, none⟩ = some (.string p.cn.space) ∧ X.cell? ⟨g, off + k * 4 + 1, none⟩ = some (.string p.cn.name)) := by
    intro X hX k hk
    have hx : t[k]? = some (t[k]'(by omega)) := List.getElem?_eq_getElem (by omega)
    obtain ⟨g, off, h1, h2, h3, _⟩ := ((h.below hbu).below hX).at hx
    exact ⟨_, g, off, hx, h1, h2, h3⟩
  have HX : Hid (∀ X, Below u.heap.size u X → Bq bn (.slice pl m cl) (.slice po no co) X ∧ Below w.heap.size w X) := fun X hX => by rw [hm]; exact ⟨hB.below hX, hbu.trans (hX.mono hbu.size)⟩
  have HM : Hid (m = t.length ∧ m ≤ 1000000) := ⟨hm, by omega⟩
  have HQ : Hid (∀ X (k : Int), Where t x y k → Below w.heap.size w X → (fun (e : Ending) w' => ∃ k : Int, e = .returned (.int .i64 k) ∧ Where t x y k ∧ Below w.heap.size w w') (.returned (.int .i64 k)) X) := fun X k h1 h2 => ⟨k, rfl, h1, h2⟩
  generalize (fun (e : Ending) w' => ∃ k : Int, e = .returned (.int .i64 k) ∧ Where t x y k ∧ Below w.heap.size w w') = Q at HQ ⊢
  have hcl : t.length ≤ cl ∧ cl ≤ maxLen := by
    obtain ⟨_, _, e, h1, h2⟩ := RowC.form h
    injection e with _ _ e
    rw [e]
    exact ⟨h1, h2⟩
  rw [← hm] at hu hn hcl ⊢
  obtain ⟨hcl1, hcl2⟩ := hcl
  unfold maxLen at hcl2
  clear h hbu hB hm
  go_enter Try.func39, Try.ntmps39
  go_wp2
  rw [← hu, ← hbn]
  clear hu hbn
  go_loopw [7] (fun iv wr => ∃ i : Nat, iv = .int .i64 (i : Int) ∧ i ≤ m ∧ Hid (Below u.heap.size u wr ∧ ∀ (j : Nat), j < i → ∀ q : Rw, t[j]? = some q → q.key ≠ (x, y))) (fun iv _ => m - (intOf iv).toNat)
  case atStart => exact ⟨0, rfl, Nat.zero_le _, Below.refl _ _, fun j hj => by omega⟩
  case round =>
    obtain ⟨i, rfl, him, HS⟩ := hrel
    obtain ⟨⟨n0, n1, _, _⟩, hbw⟩ := HX.out wr HS.out.1
    by_cases hlt : i < m
    · obtain ⟨p, g, off, hl, hp, y0, y1⟩ := HI.out wr HS.out.1 i hlt
      subst hp
      have hi0 : (0 : Int) ≤ (i : Int) := Int.natCast_nonneg i
      have hi1 : (i : Int) < (m : Int) := by omega
      have HNx : Hid (¬ p.key = (x, y) → ∀ (j : Nat), j < i + 1 → ∀ q : Rw, t[j]? = some q → q.key ≠ (x, y)) := fun hne j hj q hq => by
        by_cases e : j = i
        · subst e
          rw [hl] at hq
          injection hq with hq
          rw [← hq]
          exact hne
        · exact HS.out.2 j (by omega) q hq
      have HK : Hid (p.key = (p.cn.space, p.cn.name) ∧ t[i]? = some p) := ⟨rfl, hl⟩
      have HBw : Hid _ := hbw
      by_cases q1 : p.cn.space = x
      · have hb1 : (p.cn.space.toList == x.toList) = true := by rw [beqB]; exact decide_eq_true q1
        by_cases q2 : p.cn.name = y
        · have hb2 : (p.cn.name.toList == y.toList) = true := by rw [beqB]; exact decide_eq_true q2
          have HW : Hid (Where t x y (i : Int)) := .inr ⟨i, p, rfl, hl, by rw [HK.out.1, q1, q2]⟩
          clear hl q1 q2 hbw
          go_wp2
          exact HQ.out _ _ HW.out HBw.out
        · have hb2 : (p.cn.name.toList == y.toList) = false := by rw [beqB]; exact decide_eq_false q2
          have HS' : Hid (Below u.heap.size u wr ∧ ∀ (j : Nat), j < i + 1 → ∀ q : Rw, t[j]? = some q → q.key ≠ (x, y)) := ⟨HS.out.1, HNx.out (by rw [HK.out.1]; intro e; injection e with _ e; exact q2 e)⟩
          clear hl q1 q2 hbw
          go_wp2
          go_roundw
          case rel => exact ⟨i + 1, by go_num, by omega, HS'⟩
          case measure => simp [intOf]; omega
      · have hb1 : (p.cn.space.toList == x.toList) = false := by rw [beqB]; exact decide_eq_false q1
        have HS' : Hid (Below u.heap.size u wr ∧ ∀ (j : Nat), j < i + 1 → ∀ q : Rw, t[j]? = some q → q.key ≠ (x, y)) := ⟨HS.out.1, HNx.out (by rw [HK.out.1]; intro e; injection e with e _; exact q1 e)⟩
        clear hl q1 hbw
        go_wp2
        go_roundw
        case rel => exact ⟨i + 1, by go_num, by omega, HS'⟩
        case measure => simp [intOf]; omega
    · obtain rfl : i = m := by omega
      have HW : Hid (Where t x y (-1)) := .inl ⟨rfl, fun p hp => by
        obtain ⟨j, hj⟩ := List.getElem?_of_mem hp
        exact HS.out.2 j (by have := (List.getElem?_eq_some_iff.1 hj).1; have := HM.out.1; omega) p hj⟩
      have HBw : Hid _ := hbw
      clear hbw
      go_wp2
      exact HQ.out _ _ HW.out HBw.out
end

end Go.Proofs.Ytkioeahlajjmiaa

/-
  The document's Close and Drop: the channels without some.
-/
namespace Go.Proofs.Ytkioeahlajjmiaa
open Go.RowKit
def notSp (x : ByteArray) (p : Rw) : Bool := decide (p.cn.space ≠ x)
def notK (x y : ByteArray) (p : Rw) : Bool := decide (p.cn.key ≠ (x, y))
section
variable {w : World} {pl : Option Addr} {cl : Nat} {t : List Rw}

set_option maxHeartbeats 3200000 in
set_option maxRecDepth 20000 in
theorem rClose_c (h : Ls9 w (.slice pl t.length cl) t) (hn : t.length ≤ 1000000) (po : Option Addr) (no co : Nat) (x : ByteArray) :
    Calls Try.prog 41 #[.agg #[.slice pl t.length cl, .slice po no co], .string x] w fun e w' => ∃ p' c', e = .returned (.agg #[.slice p' (t.filter (notSp x)).length c', .slice po no co]) ∧ Mk w w' 4 (.slice p' (t.filter (notSp x)).length c') (t.filter (notSp x)).length (lsC (t.filter (notSp x))) := by
  obtain ⟨u, hu⟩ : ∃ u, u = (w.alloc (.cells #[.slice pl t.length cl, .slice po no co] 54)).alloc (.cells #[.slice none 0 0, .slice none 0 0] 54) := ⟨_, rfl⟩
  have hb1 := below_alloc w (.cells #[.slice pl t.length cl, .slice po no co] 54)
  have hbu : Below w.heap.size w u := by rw [hu]; exact hb1.trans ((below_alloc _ _).mono (by simp))
  have hB : Bq w.heap.size (.slice pl t.length cl) (.slice po no co) u := by rw [hu]; exact (Bq.start _ _ _ _).below (below_alloc _ _)
  have hR : Bq (w.heap.size + 1) (.slice none 0 0) (.slice none 0 0) u := by
    rw [hu]
    have := Bq.start (w.alloc (.cells #[.slice pl t.length cl, .slice po no co] 54)) (.slice none 0 0) (.slice none 0 0) 54
    rw [show (w.alloc (.cells #[.slice pl t.length cl, .slice po no co] 54)).heap.size = w.heap.size + 1 by simp] at this
    exact this
  obtain ⟨bn, hbn⟩ : ∃ bn, bn = w.heap.size := ⟨_, rfl⟩
  obtain ⟨br, hbr⟩ : ∃ br, br = w.heap.size + 1 := ⟨_, rfl⟩
  rw [← hbn] at hB
  rw [← hbr] at hR
  have hRl := hR.lt
  have hBl := hB.lt
  obtain ⟨m, hm⟩ : ∃ m, m = t.length := ⟨_, rfl⟩
  have HI : Hid (∀ X, Below u.heap.size u X → ∀ k, k < m → ∃ p g off, t[k]? = some p ∧ pl = some ⟨g, off, none⟩ ∧ X.cell? ⟨g, off + k * 4, none⟩ = some (.string p.cn.space) ∧ X.cell? ⟨g, off + k * 4 + 1, none⟩ = some (.string p.cn.name) ∧ X.cell? ⟨g, off + k * 4 + 2, none⟩ = some (.slice p.pm p.cn.mems.length p.cm) ∧ X.cell? ⟨g, off + k * 4 + 3, none⟩ = some (.slice p.pp p.cn.posts.length p.cp)) := by
    intro X hX k hk
    have hx : t[k]? = some (t[k]'(by omega)) := List.getElem?_eq_getElem (by omega)
    obtain ⟨g, off, h1, h2, h3, h4, h5⟩ := ((h.below hbu).below hX).at hx
    exact ⟨_, g, off, hx, h1, h2, h3, h4, h5⟩
  have HX : Hid (∀ X, Below u.heap.size u X → Bq bn (.slice pl m cl) (.slice po no co) X ∧ Bq br (.slice none 0 0) (.slice none 0 0) X) := fun X hX => by rw [hm]; exact ⟨hB.below hX, hR.below hX⟩
  have HM : Hid (m = t.length ∧ m ≤ 1000000) := ⟨hm, by omega⟩
  have HU : Hid (Below w.heap.size w u ∧ w.heap.size ≤ bn ∧ bn < u.heap.size ∧ w.heap.size ≤ br ∧ br < u.heap.size ∧ br ≠ bn) := ⟨hbu, by omega, hBl, by omega, hRl, by omega⟩
  have HQ : Hid (∀ X p' c', Mk w X 4 (.slice p' (t.filter (notSp x)).length c') (t.filter (notSp x)).length (lsC (t.filter (notSp x))) → (fun (e : Ending) w' => ∃ p' c', e = .returned (.agg #[.slice p' (t.filter (notSp x)).length c', .slice po no co]) ∧ Mk w w' 4 (.slice p' (t.filter (notSp x)).length c') (t.filter (notSp x)).length (lsC (t.filter (notSp x)))) (.returned (.agg #[.slice p' (t.filter (notSp x)).length c', .slice po no co])) X) := fun X p' c' h1 => ⟨p', c', rfl, h1⟩
  generalize (fun (e : Ending) w' => ∃ p' c', e = .returned (.agg #[.slice p' (t.filter (notSp x)).length c', .slice po no co]) ∧ Mk w w' 4 (.slice p' (t.filter (notSp x)).length c') (t.filter (notSp x)).length (lsC (t.filter (notSp x)))) = Q at HQ ⊢
  have hcl : t.length ≤ cl ∧ cl ≤ maxLen := by
    obtain ⟨_, _, e, h1, h2⟩ := RowC.form h
    injection e with _ _ e
    rw [e]
    exact ⟨h1, h2⟩
  rw [← hm] at hu hn hcl ⊢
  obtain ⟨hcl1, hcl2⟩ := hcl
  unfold maxLen at hcl2
  clear h hbu hB hm hR hRl hBl hb1
  go_enter Try.func41, Try.ntmps41
  go_wp2
  rw [← hu, ← hbr, ← hbn]
  clear hu hbn hbr
  go_loopw [5, 6] (fun lv iv wr => ∃ (i n c' : Nat) (q : Option Addr), iv = .int .i64 (i : Int) ∧ i ≤ m ∧ lv = .slice q n c' ∧ Hid (n = ((t.take (i)).filter (notSp x)).length ∧ Mk u wr 4 (.slice q n c') n (lsC ((t.take (i)).filter (notSp x))))) (fun _ iv _ => m - (intOf iv).toNat)
  case atStart => exact ⟨0, 0, 0, none, rfl, Nat.zero_le _, rfl, rfl, Mk.nil _ _ _ (Below.refl _ _)⟩
  case round =>
    obtain ⟨i, n, c', q, rfl, him, rfl, HS⟩ := hrel
    obtain ⟨hbq, hbr⟩ := HX.out wr HS.out.2.1
    by_cases hlt : i < m
    · obtain ⟨p, g, off, hl, hp, y0, y1, y2, y3⟩ := HI.out wr HS.out.2.1 i hlt
      subst hp
      have hi0 : (0 : Int) ≤ (i : Int) := Int.natCast_nonneg i
      have hi1 : (i : Int) < (m : Int) := by omega
      have HT := filt_take (notSp x) hl
      obtain ⟨n0, n1, _, _⟩ := hbq
      clear hbr
      by_cases q1 : p.cn.space = x
      · have hb1 : (p.cn.space.toList == x.toList) = true := by rw [beqB]; exact decide_eq_true q1
        rw [if_neg (by simp [notSp, q1]), List.append_nil] at HT
        have HS' : Hid (n = ((t.take (i + 1)).filter (notSp x)).length ∧ Mk u wr 4 (.slice q n c') n (lsC ((t.take (i + 1)).filter (notSp x)))) := by rw [HT]; exact HS.out
        clear HT hl q1
        go_wp2
        go_roundw
        case rel => exact ⟨i + 1, n, c', q, by go_num, by omega, rfl, HS'⟩
        case measure => simp [intOf]; omega
      · have hb1 : (p.cn.space.toList == x.toList) = false := by rw [beqB]; exact decide_eq_false q1
        rw [if_pos (by simp [notSp, q1])] at HT
        have HT : Hid _ := HT
        clear hl q1
        obtain ⟨r1, r2, r3⟩ := (HS.out.2).app (by decide) (t := 52) (e := 84) Try.underlying52 #[.string p.cn.space, .string p.cn.name, .slice p.pm p.cn.mems.length p.cm, .slice p.pp p.cn.posts.length p.cp] rfl (fun u hu => by simp at hu; rcases hu with rfl | rfl | rfl | rfl <;> rfl)
        have HRowA : Hid (RowC (wr.alloc (.cells #[.string p.cn.space, .string p.cn.name, .slice p.pm p.cn.mems.length p.cm, .slice p.pp p.cn.posts.length p.cp] 84)) 4 (.slice q n c') n (lsC ((t.take (i)).filter (notSp x)))) := r1
        have HSrcA : Hid (Src Try.prog 4 52 (.slice (some ⟨wr.heap.size, 0, none⟩) 1 1) 1 [.string p.cn.space, .string p.cn.name, .slice p.pm p.cn.mems.length p.cm, .slice p.pp p.cn.posts.length p.cp] (wr.alloc (.cells #[.string p.cn.space, .string p.cn.name, .slice p.pm p.cn.mems.length p.cm, .slice p.pp p.cn.posts.length p.cp] 84))) := r2
        have HEndA : Hid (∀ Y L', RowC Y 4 L' (n + 1) (lsC ((t.take (i)).filter (notSp x)) ++ [.string p.cn.space, .string p.cn.name, .slice p.pm p.cn.mems.length p.cm, .slice p.pp p.cn.posts.length p.cp]) → (wr.alloc (.cells #[.string p.cn.space, .string p.cn.name, .slice p.pm p.cn.mems.length p.cm, .slice p.pp p.cn.posts.length p.cp] 84)).grownBy Y (cBlk (.slice q n c')) → (∀ j, cBlk L' = some j → cBlk (.slice q n c') = some j ∨ wr.heap.size + 1 ≤ j) → ∃ p' c2, L' = .slice p' (n + 1) c2 ∧ Hid (Mk u Y 4 (.slice p' (n + 1) c2) (n + 1) (lsC ((t.take (i)).filter (notSp x)) ++ [.string p.cn.space, .string p.cn.name, .slice p.pm p.cn.mems.length p.cm, .slice p.pp p.cn.posts.length p.cp])) ∧ Hid (∀ k, k < wr.heap.size → cBlk (.slice q n c') ≠ some k → Y.heap[k]? = wr.heap[k]?)) := fun Y L' a1 a2 a3 => r3 Y L' a1 a2 a3
        have hLA : Hid ((n + 1) * 80 ≤ 140737488355328 ∧ n + 1 ≤ maxLen) := by have h1 := filt_le (notSp x) t i; have h2 := HS.out.1; have h3 := HM.out; unfold maxLen; exact ⟨by omega, by omega⟩
        clear r1 r2 r3 
        go_wp2_with (at_builtin; refine wpList_append_rowC rfl (.tmp 22) (.tmp 28) 52 52 84 rfl Try.underlying52 _ 4 80 infoCn rfl (.slice q n c') n (lsC ((t.take (i)).filter (notSp x))) rfl HRowA.out _ 1 _ rfl HSrcA.out hLA.out.1 hLA.out.2 ?qnextA)
        case qnextA =>
          intro L' YA a1 a2 a3
          obtain ⟨pA, cA, rfl, HCA, HKpA⟩ := HEndA.out YA L' a1 a2 a3
          clear a1 a2 a3 HRowA HSrcA HEndA hLA
          have HN : Hid (n + 1 = ((t.take (i + 1)).filter (notSp x)).length ∧ Mk u YA 4 (.slice pA (n + 1) cA) (n + 1) (lsC ((t.take (i + 1)).filter (notSp x)))) := by
            have e1 := HT.out
            refine ⟨?_, ?_⟩
            · rw [e1, List.length_append, ← HS.out.1]; rfl
            · rw [e1, lsC_snoc]; exact HCA.out
          go_wp2
          go_roundw
          case rel => exact ⟨i + 1, n + 1, cA, pA, by go_num, by omega, rfl, HN⟩
          case measure => simp [intOf]; omega
    · obtain rfl : i = m := by omega
      have HF : Hid (n = (t.filter (notSp x)).length ∧ Mk u wr 4 (.slice q n c') n (lsC (t.filter (notSp x)))) := by
        have h1 := HS.out
        rw [List.take_of_length_le (Nat.le_of_eq HM.out.1.symm)] at h1
        exact h1
      obtain ⟨g1, g2, g3, g4⟩ := tail2 HU.out.1 HU.out.2.1 HU.out.2.2.1 HU.out.2.2.2.1 HU.out.2.2.2.2.1 HU.out.2.2.2.2.2 hbq hbr HF.out.2
      have HOut : Hid (Mk w (fn2 (wr.setCell ⟨bn, 0, none⟩ (.slice q n c')) br (.slice q n c') (.slice po no co)) 4 (.slice q (t.filter (notSp x)).length c') (t.filter (notSp x)).length (lsC (t.filter (notSp x)))) := by
        have e := HF.out.1
        rw [← e]
        exact g4
      obtain ⟨n0, n1, fn, _⟩ := hbq
      obtain ⟨m0, m1, _, _⟩ := g1
      obtain ⟨z0, z1, h0, h1⟩ := g2
      obtain ⟨x0, x1, _, _⟩ := g3
      obtain ⟨F, hF⟩ : ∃ F, F = fn2 (wr.setCell ⟨bn, 0, none⟩ (.slice q n c')) br (.slice q n c') (.slice po no co) := ⟨_, rfl⟩
      rw [← hF] at HOut x0 x1
      unfold fn2 at hF
      clear hlt him g4 hbr
      go_wp2
      rw [← hF]
      clear hF
      refine bodyPost_ret (v := .agg #[.slice q n c', .slice po no co]) ?qres rfl ?qpost
      case qres => simp [results, Try.results41, go_sem, x0, x1]
      case qpost =>
        have e := HQ.out _ _ _ HOut.out
        rw [← HF.out.1] at e
        exact e

set_option maxHeartbeats 3200000 in
set_option maxRecDepth 20000 in
theorem rDrop_c (h : Ls9 w (.slice pl t.length cl) t) (hn : t.length ≤ 1000000) (po : Option Addr) (no co : Nat) (x y : ByteArray) :
    Calls Try.prog 65 #[.agg #[.slice pl t.length cl, .slice po no co], .string x, .string y] w fun e w' => ∃ p' c', e = .returned (.agg #[.slice p' (t.filter (notK x y)).length c', .slice po no co]) ∧ Mk w w' 4 (.slice p' (t.filter (notK x y)).length c') (t.filter (notK x y)).length (lsC (t.filter (notK x y))) := by
  obtain ⟨u, hu⟩ : ∃ u, u = (w.alloc (.cells #[.slice pl t.length cl, .slice po no co] 54)).alloc (.cells #[.slice none 0 0, .slice none 0 0] 54) := ⟨_, rfl⟩
  have hb1 := below_alloc w (.cells #[.slice pl t.length cl, .slice po no co] 54)
  have hbu : Below w.heap.size w u := by rw [hu]; exact hb1.trans ((below_alloc _ _).mono (by simp))
  have hB : Bq w.heap.size (.slice pl t.length cl) (.slice po no co) u := by rw [hu]; exact (Bq.start _ _ _ _).below (below_alloc _ _)
  have hR : Bq (w.heap.size + 1) (.slice none 0 0) (.slice none 0 0) u := by
    rw [hu]
    have := Bq.start (w.alloc (.cells #[.slice pl t.length cl, .slice po no co] 54)) (.slice none 0 0) (.slice none 0 0) 54
    rw [show (w.alloc (.cells #[.slice pl t.length cl, .slice po no co] 54)).heap.size = w.heap.size + 1 by simp] at this
    exact this
  obtain ⟨bn, hbn⟩ : ∃ bn, bn = w.heap.size := ⟨_, rfl⟩
  obtain ⟨br, hbr⟩ : ∃ br, br = w.heap.size + 1 := ⟨_, rfl⟩
  rw [← hbn] at hB
  rw [← hbr] at hR
  have hRl := hR.lt
  have hBl := hB.lt
  obtain ⟨m, hm⟩ : ∃ m, m = t.length := ⟨_, rfl⟩
  have HI : Hid (∀ X, Below u.heap.size u X → ∀ k, k < m → ∃ p g off, t[k]? = some p ∧ pl = some ⟨g, off, none⟩ ∧ X.cell? ⟨g, off + k * 4, none⟩ = some (.string p.cn.space) ∧ X.cell? ⟨g, off + k * 4 + 1, none⟩ = some (.string p.cn.name) ∧ X.cell? ⟨g, off + k * 4 + 2, none⟩ = some (.slice p.pm p.cn.mems.length p.cm) ∧ X.cell? ⟨g, off + k * 4 + 3, none⟩ = some (.slice p.pp p.cn.posts.length p.cp)) := by
    intro X hX k hk
    have hx : t[k]? = some (t[k]'(by omega)) := List.getElem?_eq_getElem (by omega)
    obtain ⟨g, off, h1, h2, h3, h4, h5⟩ := ((h.below hbu).below hX).at hx
    exact ⟨_, g, off, hx, h1, h2, h3, h4, h5⟩
  have HX : Hid (∀ X, Below u.heap.size u X → Bq bn (.slice pl m cl) (.slice po no co) X ∧ Bq br (.slice none 0 0) (.slice none 0 0) X) := fun X hX => by rw [hm]; exact ⟨hB.below hX, hR.below hX⟩
  have HM : Hid (m = t.length ∧ m ≤ 1000000) := ⟨hm, by omega⟩
  have HU : Hid (Below w.heap.size w u ∧ w.heap.size ≤ bn ∧ bn < u.heap.size ∧ w.heap.size ≤ br ∧ br < u.heap.size ∧ br ≠ bn) := ⟨hbu, by omega, hBl, by omega, hRl, by omega⟩
  have HQ : Hid (∀ X p' c', Mk w X 4 (.slice p' (t.filter (notK x y)).length c') (t.filter (notK x y)).length (lsC (t.filter (notK x y))) → (fun (e : Ending) w' => ∃ p' c', e = .returned (.agg #[.slice p' (t.filter (notK x y)).length c', .slice po no co]) ∧ Mk w w' 4 (.slice p' (t.filter (notK x y)).length c') (t.filter (notK x y)).length (lsC (t.filter (notK x y)))) (.returned (.agg #[.slice p' (t.filter (notK x y)).length c', .slice po no co])) X) := fun X p' c' h1 => ⟨p', c', rfl, h1⟩
  generalize (fun (e : Ending) w' => ∃ p' c', e = .returned (.agg #[.slice p' (t.filter (notK x y)).length c', .slice po no co]) ∧ Mk w w' 4 (.slice p' (t.filter (notK x y)).length c') (t.filter (notK x y)).length (lsC (t.filter (notK x y)))) = Q at HQ ⊢
  have hcl : t.length ≤ cl ∧ cl ≤ maxLen := by
    obtain ⟨_, _, e, h1, h2⟩ := RowC.form h
    injection e with _ _ e
    rw [e]
    exact ⟨h1, h2⟩
  rw [← hm] at hu hn hcl ⊢
  obtain ⟨hcl1, hcl2⟩ := hcl
  unfold maxLen at hcl2
  clear h hbu hB hm hR hRl hBl hb1
  go_enter Try.func65, Try.ntmps65
  go_wp2
  rw [← hu, ← hbr, ← hbn]
  clear hu hbn hbr
  go_loopw [7, 8] (fun lv iv wr => ∃ (i n c' : Nat) (q : Option Addr), iv = .int .i64 (i : Int) ∧ i ≤ m ∧ lv = .slice q n c' ∧ Hid (n = ((t.take (i)).filter (notK x y)).length ∧ Mk u wr 4 (.slice q n c') n (lsC ((t.take (i)).filter (notK x y))))) (fun _ iv _ => m - (intOf iv).toNat)
  case atStart => exact ⟨0, 0, 0, none, rfl, Nat.zero_le _, rfl, rfl, Mk.nil _ _ _ (Below.refl _ _)⟩
  case round =>
    obtain ⟨i, n, c', q, rfl, him, rfl, HS⟩ := hrel
    obtain ⟨hbq, hbr⟩ := HX.out wr HS.out.2.1
    by_cases hlt : i < m
    · obtain ⟨p, g, off, hl, hp, y0, y1, y2, y3⟩ := HI.out wr HS.out.2.1 i hlt
      subst hp
      have hi0 : (0 : Int) ≤ (i : Int) := Int.natCast_nonneg i
      have hi1 : (i : Int) < (m : Int) := by omega
      have HT := filt_take (notK x y) hl
      obtain ⟨n0, n1, _, _⟩ := hbq
      clear hbr
      by_cases q1 : p.cn.space = x
      · have hb1 : (p.cn.space.toList == x.toList) = true := by rw [beqB]; exact decide_eq_true q1
        by_cases q2 : p.cn.name = y
        · have hb2 : (p.cn.name.toList == y.toList) = true := by rw [beqB]; exact decide_eq_true q2
          rw [if_neg (by simp [notK, Mp.Cn.key, q1, q2]), List.append_nil] at HT
          have HS' : Hid (n = ((t.take (i + 1)).filter (notK x y)).length ∧ Mk u wr 4 (.slice q n c') n (lsC ((t.take (i + 1)).filter (notK x y)))) := by rw [HT]; exact HS.out
          clear HT hl q1 q2
          go_wp2
          go_roundw
          case rel => exact ⟨i + 1, n, c', q, by go_num, by omega, rfl, HS'⟩
          case measure => simp [intOf]; omega
        · have hb2 : (p.cn.name.toList == y.toList) = false := by rw [beqB]; exact decide_eq_false q2
          rw [if_pos (by simp [notK, Mp.Cn.key, q2])] at HT
          have HT : Hid _ := HT
          clear hl q1 q2
          obtain ⟨r1, r2, r3⟩ := (HS.out.2).app (by decide) (t := 52) (e := 84) Try.underlying52 #[.string p.cn.space, .string p.cn.name, .slice p.pm p.cn.mems.length p.cm, .slice p.pp p.cn.posts.length p.cp] rfl (fun u hu => by simp at hu; rcases hu with rfl | rfl | rfl | rfl <;> rfl)
          have HRowA : Hid (RowC (wr.alloc (.cells #[.string p.cn.space, .string p.cn.name, .slice p.pm p.cn.mems.length p.cm, .slice p.pp p.cn.posts.length p.cp] 84)) 4 (.slice q n c') n (lsC ((t.take (i)).filter (notK x y)))) := r1
          have HSrcA : Hid (Src Try.prog 4 52 (.slice (some ⟨wr.heap.size, 0, none⟩) 1 1) 1 [.string p.cn.space, .string p.cn.name, .slice p.pm p.cn.mems.length p.cm, .slice p.pp p.cn.posts.length p.cp] (wr.alloc (.cells #[.string p.cn.space, .string p.cn.name, .slice p.pm p.cn.mems.length p.cm, .slice p.pp p.cn.posts.length p.cp] 84))) := r2
          have HEndA : Hid (∀ Y L', RowC Y 4 L' (n + 1) (lsC ((t.take (i)).filter (notK x y)) ++ [.string p.cn.space, .string p.cn.name, .slice p.pm p.cn.mems.length p.cm, .slice p.pp p.cn.posts.length p.cp]) → (wr.alloc (.cells #[.string p.cn.space, .string p.cn.name, .slice p.pm p.cn.mems.length p.cm, .slice p.pp p.cn.posts.length p.cp] 84)).grownBy Y (cBlk (.slice q n c')) → (∀ j, cBlk L' = some j → cBlk (.slice q n c') = some j ∨ wr.heap.size + 1 ≤ j) → ∃ p' c2, L' = .slice p' (n + 1) c2 ∧ Hid (Mk u Y 4 (.slice p' (n + 1) c2) (n + 1) (lsC ((t.take (i)).filter (notK x y)) ++ [.string p.cn.space, .string p.cn.name, .slice p.pm p.cn.mems.length p.cm, .slice p.pp p.cn.posts.length p.cp])) ∧ Hid (∀ k, k < wr.heap.size → cBlk (.slice q n c') ≠ some k → Y.heap[k]? = wr.heap[k]?)) := fun Y L' a1 a2 a3 => r3 Y L' a1 a2 a3
          have hLA : Hid ((n + 1) * 80 ≤ 140737488355328 ∧ n + 1 ≤ maxLen) := by have h1 := filt_le (notK x y) t i; have h2 := HS.out.1; have h3 := HM.out; unfold maxLen; exact ⟨by omega, by omega⟩
          clear r1 r2 r3 
          go_wp2_with (at_builtin; refine wpList_append_rowC rfl (.tmp 34) (.tmp 40) 52 52 84 rfl Try.underlying52 _ 4 80 infoCn rfl (.slice q n c') n (lsC ((t.take (i)).filter (notK x y))) rfl HRowA.out _ 1 _ rfl HSrcA.out hLA.out.1 hLA.out.2 ?qnextA)
          case qnextA =>
            intro L' YA a1 a2 a3
            obtain ⟨pA, cA, rfl, HCA, HKpA⟩ := HEndA.out YA L' a1 a2 a3
            clear a1 a2 a3 HRowA HSrcA HEndA hLA
            have HN : Hid (n + 1 = ((t.take (i + 1)).filter (notK x y)).length ∧ Mk u YA 4 (.slice pA (n + 1) cA) (n + 1) (lsC ((t.take (i + 1)).filter (notK x y)))) := by
              have e1 := HT.out
              refine ⟨?_, ?_⟩
              · rw [e1, List.length_append, ← HS.out.1]; rfl
              · rw [e1, lsC_snoc]; exact HCA.out
            go_wp2
            go_roundw
            case rel => exact ⟨i + 1, n + 1, cA, pA, by go_num, by omega, rfl, HN⟩
            case measure => simp [intOf]; omega
      · have hb1 : (p.cn.space.toList == x.toList) = false := by rw [beqB]; exact decide_eq_false q1
        rw [if_pos (by simp [notK, Mp.Cn.key, q1])] at HT
        have HT : Hid _ := HT
        clear hl q1
        obtain ⟨r1, r2, r3⟩ := (HS.out.2).app (by decide) (t := 52) (e := 84) Try.underlying52 #[.string p.cn.space, .string p.cn.name, .slice p.pm p.cn.mems.length p.cm, .slice p.pp p.cn.posts.length p.cp] rfl (fun u hu => by simp at hu; rcases hu with rfl | rfl | rfl | rfl <;> rfl)
        have HRowA : Hid (RowC (wr.alloc (.cells #[.string p.cn.space, .string p.cn.name, .slice p.pm p.cn.mems.length p.cm, .slice p.pp p.cn.posts.length p.cp] 84)) 4 (.slice q n c') n (lsC ((t.take (i)).filter (notK x y)))) := r1
        have HSrcA : Hid (Src Try.prog 4 52 (.slice (some ⟨wr.heap.size, 0, none⟩) 1 1) 1 [.string p.cn.space, .string p.cn.name, .slice p.pm p.cn.mems.length p.cm, .slice p.pp p.cn.posts.length p.cp] (wr.alloc (.cells #[.string p.cn.space, .string p.cn.name, .slice p.pm p.cn.mems.length p.cm, .slice p.pp p.cn.posts.length p.cp] 84))) := r2
        have HEndA : Hid (∀ Y L', RowC Y 4 L' (n + 1) (lsC ((t.take (i)).filter (notK x y)) ++ [.string p.cn.space, .string p.cn.name, .slice p.pm p.cn.mems.length p.cm, .slice p.pp p.cn.posts.length p.cp]) → (wr.alloc (.cells #[.string p.cn.space, .string p.cn.name, .slice p.pm p.cn.mems.length p.cm, .slice p.pp p.cn.posts.length p.cp] 84)).grownBy Y (cBlk (.slice q n c')) → (∀ j, cBlk L' = some j → cBlk (.slice q n c') = some j ∨ wr.heap.size + 1 ≤ j) → ∃ p' c2, L' = .slice p' (n + 1) c2 ∧ Hid (Mk u Y 4 (.slice p' (n + 1) c2) (n + 1) (lsC ((t.take (i)).filter (notK x y)) ++ [.string p.cn.space, .string p.cn.name, .slice p.pm p.cn.mems.length p.cm, .slice p.pp p.cn.posts.length p.cp])) ∧ Hid (∀ k, k < wr.heap.size → cBlk (.slice q n c') ≠ some k → Y.heap[k]? = wr.heap[k]?)) := fun Y L' a1 a2 a3 => r3 Y L' a1 a2 a3
        have hLA : Hid ((n + 1) * 80 ≤ 140737488355328 ∧ n + 1 ≤ maxLen) := by have h1 := filt_le (notK x y) t i; have h2 := HS.out.1; have h3 := HM.out; unfold maxLen; exact ⟨by omega, by omega⟩
        clear r1 r2 r3 
        go_wp2_with (at_builtin; refine wpList_append_rowC rfl (.tmp 34) (.tmp 40) 52 52 84 rfl Try.underlying52 _ 4 80 infoCn rfl (.slice q n c') n (lsC ((t.take (i)).filter (notK x y))) rfl HRowA.out _ 1 _ rfl HSrcA.out hLA.out.1 hLA.out.2 ?qnextA)
        case qnextA =>
          intro L' YA a1 a2 a3
          obtain ⟨pA, cA, rfl, HCA, HKpA⟩ := HEndA.out YA L' a1 a2 a3
          clear a1 a2 a3 HRowA HSrcA HEndA hLA
          have HN : Hid (n + 1 = ((t.take (i + 1)).filter (notK x y)).length ∧ Mk u YA 4 (.slice pA (n + 1) cA) (n + 1) (lsC ((t.take (i + 1)).filter (notK x y)))) := by
            have e1 := HT.out
            refine ⟨?_, ?_⟩
            · rw [e1, List.length_append, ← HS.out.1]; rfl
            · rw [e1, lsC_snoc]; exact HCA.out
          go_wp2
          go_roundw
          case rel => exact ⟨i + 1, n + 1, cA, pA, by go_num, by omega, rfl, HN⟩
          case measure => simp [intOf]; omega
    · obtain rfl : i = m := by omega
      have HF : Hid (n = (t.filter (notK x y)).length ∧ Mk u wr 4 (.slice q n c') n (lsC (t.filter (notK x y)))) := by
        have h1 := HS.out
        rw [List.take_of_length_le (Nat.le_of_eq HM.out.1.symm)] at h1
        exact h1
      obtain ⟨g1, g2, g3, g4⟩ := tail2 HU.out.1 HU.out.2.1 HU.out.2.2.1 HU.out.2.2.2.1 HU.out.2.2.2.2.1 HU.out.2.2.2.2.2 hbq hbr HF.out.2
      have HOut : Hid (Mk w (fn2 (wr.setCell ⟨bn, 0, none⟩ (.slice q n c')) br (.slice q n c') (.slice po no co)) 4 (.slice q (t.filter (notK x y)).length c') (t.filter (notK x y)).length (lsC (t.filter (notK x y)))) := by
        have e := HF.out.1
        rw [← e]
        exact g4
      obtain ⟨n0, n1, fn, _⟩ := hbq
      obtain ⟨m0, m1, _, _⟩ := g1
      obtain ⟨z0, z1, h0, h1⟩ := g2
      obtain ⟨x0, x1, _, _⟩ := g3
      obtain ⟨F, hF⟩ : ∃ F, F = fn2 (wr.setCell ⟨bn, 0, none⟩ (.slice q n c')) br (.slice q n c') (.slice po no co) := ⟨_, rfl⟩
      rw [← hF] at HOut x0 x1
      unfold fn2 at hF
      clear hlt him g4 hbr
      go_wp2
      rw [← hF]
      clear hF
      refine bodyPost_ret (v := .agg #[.slice q n c', .slice po no co]) ?qres rfl ?qpost
      case qres => simp [results, Try.results65, go_sem, x0, x1]
      case qpost =>
        have e := HQ.out _ _ _ HOut.out
        rw [← HF.out.1] at e
        exact e

end
end Go.Proofs.Ytkioeahlajjmiaa
