/-
  Rows of posts: two cells each; pieces of them: cut out, copied.
-/
import Derived.Test.YtepbmfjimppgcaaRlRow
import Derived.Test.YtepbmfjimppgcaaMoMath
import Derived.Test.YtepbmfjimppgcaaRows
import Derived.Laws.IdiomCopy
import Derived.Deep.RegionHeld
import Derived.BigRegion
import Derived.BigQuiet
namespace Go.Proofs.Ytepbmfjimppgcaa
open Go.RowKit

theorem infoPo : (Try.prog.info? 108).map (fun i => (i.zero, i.size, i.bytes)) = some (some (.agg #[.string ⟨#[]⟩, .string ⟨#[]⟩]), 2, 32) := by kernel_rfl
theorem below_alloc (w : World) (o : Obj) : Below w.heap.size w (w.alloc o) := (Below.refl _ _).alloc (Nat.le_refl _) o
theorem below_drewN (w : World) (n : Nat) : Below w.heap.size w (w.drewN n) := ⟨rfl, rfl, rfl, Nat.le_refl _, fun _ _ => rfl⟩

/-- Posts as cells. -/
def poCells (l : List Mo.Po) : List Value := l.flatMap fun e => [.string e.user, .string e.text]
theorem poCells_len (l : List Mo.Po) : (poCells l).length = l.length * 2 := by
  induction l with
  | nil => rfl
  | cons e l ih => rw [poCells, List.flatMap_cons, List.length_append, ← poCells, ih]; simp; omega
theorem poCells_snoc (l : List Mo.Po) (e : Mo.Po) : poCells (l ++ [e]) = poCells l ++ [.string e.user, .string e.text] := by simp [poCells]
theorem poCells_cons (e : Mo.Po) (l : List Mo.Po) : poCells (e :: l) = .string e.user :: .string e.text :: poCells l := by simp [poCells]
theorem poCells_at : ∀ (l : List Mo.Po) (i : Nat) (e : Mo.Po), l[i]? = some e → (poCells l)[i * 2]? = some (.string e.user) ∧ (poCells l)[i * 2 + 1]? = some (.string e.text)
  | [], _, _, h => by simp at h
  | x :: l, 0, e, h => by
    have h' : x = e := by simpa using h
    subst h'
    rw [poCells_cons]
    exact ⟨rfl, rfl⟩
  | x :: l, i + 1, e, h => by
    rw [poCells_cons]
    have := poCells_at l i e (by simpa using h)
    rw [show (i + 1) * 2 = i * 2 + 1 + 1 by omega]
    simpa using this
theorem poCells_one (l : List Mo.Po) : ∀ u ∈ poCells l, u.oneCell' = true := by
  intro u hu
  unfold poCells at hu
  rw [List.mem_flatMap] at hu
  obtain ⟨e, _, h⟩ := hu
  simp at h
  rcases h with rfl | rfl <;> rfl
theorem poCells_take (l : List Mo.Po) (k : Nat) : poCells (l.take k) = (poCells l).take (k * 2) := by
  induction l generalizing k with
  | nil => simp [poCells]
  | cons e l ih =>
    cases k with
    | zero => simp [poCells]
    | succ k =>
      rw [List.take_succ_cons, poCells_cons, poCells_cons, ih, show (k + 1) * 2 = k * 2 + 1 + 1 by omega]
      rfl
theorem poCells_drop (l : List Mo.Po) (k : Nat) : poCells (l.drop k) = (poCells l).drop (k * 2) := by
  induction l generalizing k with
  | nil => simp [poCells]
  | cons e l ih =>
    cases k with
    | zero => simp
    | succ k =>
      rw [List.drop_succ_cons, poCells_cons, ih, show (k + 1) * 2 = k * 2 + 1 + 1 by omega]
      rfl

/-- Where a piece lies. -/
def cutP (p : Option Addr) (l m size : Nat) : Option Addr := if m = l then p else p.map (·.add (l * size))

theorem run_cut2p (p : Option Addr) (n c l h : Nat) (h1 : l ≤ h) (h2 : h ≤ c) (W : World) :
    (Instr.slice 30 (.slice p n c) (some (.int .i64 (l : Int))) (some (.int .i64 (h : Int))) none).run Try.prog W = .ok (.slice (cutP p l c 2) (h - l) (c - l)) W := by
  simp [Instr.slice, run_underlying Try.underlying30, Instr.sliceBounds, Instr.sliceBound, asIntOf, h1, h2, cutP]

theorem cutP_some (g off l m : Nat) : cutP (some ⟨g, off, none⟩) l m 2 = some ⟨g, if m = l then off else off + l * 2, none⟩ := by
  unfold cutP
  split
  · rfl
  · simp [Addr.add]

/-- A piece of a row is a row. -/
theorem RowC.cut {w : World} {p : Option Addr} {n c : Nat} {xs : List Value} (hr : RowC w 2 (.slice p n c) n xs) (l h m : Nat) (h1 : l ≤ h) (h2 : h ≤ m) (h3 : m ≤ c) (h4 : h ≤ n) :
    RowC w 2 (.slice (cutP p l m 2) (h - l) (m - l)) (h - l) ((xs.drop (l * 2)).take ((h - l) * 2)) ∧ ∀ k, cBlk (.slice (cutP p l m 2) (h - l) (m - l)) = some k → cBlk (.slice p n c) = some k := by
  obtain ⟨hl, p0, c0, hv, hn, hc, hd⟩ := hr
  injection hv with e1 e2 e3
  subst e1 e3
  have hlen : ((xs.drop (l * 2)).take ((h - l) * 2)).length = (h - l) * 2 := by
    rw [List.length_take, List.length_drop, hl]
    omega
  rcases hd with hd | ⟨g, off, rfl, hR, hC⟩
  · subst hd
    obtain rfl : m = 0 := by omega
    obtain rfl : h = 0 := by omega
    obtain rfl : l = 0 := by omega
    exact ⟨⟨hlen, _, _, rfl, by omega, by omega, .inl rfl⟩, fun k hk => by cases p <;> simp [cutP, cBlk] at hk⟩
  · rw [cutP_some]
    by_cases hm : m = l
    · rw [if_pos hm]
      subst hm
      refine ⟨⟨hlen, _, _, rfl, by omega, by omega, .inl (by omega)⟩, fun k hk => ?_⟩
      rw [Nat.sub_self] at hk
      simp [cBlk] at hk
    · rw [if_neg hm]
      refine ⟨⟨hlen, _, _, rfl, by omega, by omega, .inr ⟨g, off + l * 2, rfl, fun j hj => ?_, fun j x hx => ?_⟩⟩, fun k hk => ?_⟩
      · rw [Nat.add_assoc]
        exact hR _ (by omega)
      · rw [List.getElem?_take] at hx
        split at hx
        · rw [List.getElem?_drop] at hx
          rw [Nat.add_assoc]
          exact hC _ _ hx
        · cases hx
      · obtain ⟨q, hq⟩ : ∃ q, m - l = q + 1 := ⟨m - l - 1, by omega⟩
        obtain ⟨q', hq'⟩ : ∃ q', c = q' + 1 := ⟨c - 1, by omega⟩
        rw [hq] at hk
        rw [hq']
        simpa [cBlk] using hk

theorem cutP_none (l m : Nat) : cutP none l m 2 = none := by unfold cutP; split <;> rfl

theorem RowC.src {P : Program} {w : World} {p : Option Addr} {n c : Nat} {xs : List Value} (h : RowC w 2 (.slice p n c) n xs) (t e' : TypeId) (ht : P.underlying t = some (.slice e')) (hu : ∀ u ∈ xs, u.oneCell' = true) : Src P 2 t (.slice p n c) n xs w := by
  obtain ⟨hl, p0, c0, hv, hn, hc, hd⟩ := h
  injection hv with e1 e2 e3
  subst e1 e3
  cases p with
  | none =>
    have h0 : c = 0 := by
      rcases hd with h | ⟨g, off, hp, _⟩
      · exact h
      · cases hp
    obtain rfl : n = 0 := by omega
    have hx : xs = [] := List.eq_nil_of_length_eq_zero (by simpa using hl)
    subst hx
    exact Src.ofNil w ht c
  | some a =>
    refine Src.ofSlice w ht _ _ _ _ hl (fun j u hj => ?_) hu
    rcases hd with h | ⟨g, off, hp, _, hC⟩
    · have hx : xs = [] := List.eq_nil_of_length_eq_zero (by rw [hl]; have : n = 0 := by omega
                                                             rw [this])
      subst hx
      simp at hj
    · injection hp with hp
      subst hp
      rw [Addr.add_lit]
      exact hC j u hj

/-- What a copy of posts answers. -/
def CloneOut (w : World) (n : Nat) (xs : List Value) (e : Ending) (w' : World) : Prop := ∃ v', e = .returned v' ∧ RowC w' 2 v' n xs ∧ Below w.heap.size w w' ∧ ∀ k, cBlk v' = some k → w.heap.size ≤ k

/-- slices.Clone of posts. -/
theorem PClone_c {w : World} {p : Option Addr} {n c : Nat} {xs : List Value} (h : RowC w 2 (.slice p n c) n xs) (hu : ∀ u ∈ xs, u.oneCell' = true) (hn : n ≤ 1099511627776) :
    Calls Try.prog 54 #[.slice p n c] w (CloneOut w n xs) := by
  cases p with
  | none =>
    obtain ⟨hl, p0, c0, hv, hnc, hc, hd⟩ := h
    injection hv with e1 e2 e3
    subst e3
    have h0 : c = 0 := by
      rcases hd with h | ⟨g, off, hp, _⟩
      · exact h
      · rw [hp] at e1; cases e1
    obtain rfl : n = 0 := by omega
    have hx : xs = [] := List.eq_nil_of_length_eq_zero (by simpa using hl)
    subst hx h0
    have hnil : (binOp .eql 30 (.slice none 0 0) (.slice none 0 0)).run Try.prog w = .ok (.bool true) w := by kernel_rfl
    have HO : Hid (CloneOut w 0 [] (.returned (.slice none 0 0)) w) := ⟨_, rfl, RowC.nil _ _ _, Below.refl _ _, fun k hk => by simp [cBlk] at hk⟩
    generalize CloneOut w 0 [] = Q at HO ⊢
    clear hl hnc hc hd hu hn e1
    go_enter Try.func54, Try.ntmps54
    go_wp2
    exact HO.out
  | some a =>
    have hnil : (binOp .eql 30 (.slice (some a) n c) (.slice none 0 0)).run Try.prog w = .ok (.bool false) w := by kernel_rfl
    have HS : Hid (∀ o, Src Try.prog 2 30 (.slice (some a) n c) n xs (w.alloc o)) := fun o => RowC.src (h.carry (fun k hk => (below_alloc w o).block k (h.lt (by omega) hk))) _ _ Try.underlying30 hu
    have hn1 : Hid ((0 + n) * 32 ≤ 140737488355328) := by show _ ≤ _; omega
    have hn2 : Hid (0 + n ≤ maxLen) := by unfold maxLen; show _ ≤ _; omega
    clear h hu hn
    go_enter Try.func54, Try.ntmps54
    go_wp2_with (at_builtin; refine wpList_append_rowC rfl (.tmp 5) (.tmp 6) 30 30 108 rfl Try.underlying30 _ 2 32 infoPo rfl (.slice (some ⟨w.heap.size, 0, none⟩) 0 0) 0 [] rfl (RowC.nil _ _ _) (.slice (some a) n c) n xs rfl (HS.out _) hn1.out hn2.out ?qnext)
    case qnext =>
      intro v' w1 ho hg hloc
      have hb : Below w.heap.size w w1 := ((Below.refl _ w).alloc (Nat.le_refl _) _).grown hg (by simp) (by intro k hk; simp [cBlk] at hk)
      have HB : Hid (Below w.heap.size w w1) := hb
      have HO : Hid (RowC w1 2 v' n xs) := by simpa [Hid] using ho
      have HK : Hid (∀ k, cBlk v' = some k → w.heap.size ≤ k) := by
        intro k hk
        rcases hloc k hk with q | q
        · simp [cBlk] at q
        · first | omega | (simp at q; omega)
      obtain ⟨p', c', hv', _⟩ := HO.out.form
      subst hv'
      clear ho hg hloc hb
      have HF : Hid (CloneOut w n xs (.returned (.slice p' n c')) w1) := ⟨_, rfl, HO.out, HB.out, HK.out⟩
      go_wp2
      go_ret
      exact HF.out

end Go.Proofs.Ytepbmfjimppgcaa
