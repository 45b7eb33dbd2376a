/-
  A table's calls: New, Len, Find, Put.
-/
import Derived.Test.YtepbmfjimppgcaaSeMem
import Derived.Test.YtepbmfjimppgcaaClone
import Derived.Deep.RegionHeld3
namespace Go.Proofs.Ytepbmfjimppgcaa
open Go.RowKit

/-- A copy of posts that are read. -/
theorem PCloneR_c {w : World} {v : Value} {ps : List Mo.Po} (h : PoR w v ps) (hn : ps.length ≤ 1099511627776) :
    Calls Try.prog 54 #[v] w (CloneOut w ps.length (poCells ps)) := by
  obtain ⟨p, c, rfl, hnc, hc, hp0, hcell⟩ := h
  cases p with
  | none =>
    have h0 := hp0 rfl
    subst h0
    have hx : ps = [] := List.eq_nil_of_length_eq_zero (by omega)
    subst hx
    have hnil : (binOp .eql 30 (.slice none 0 0) (.slice none 0 0)).run Try.prog w = .ok (.bool true) w := by kernel_rfl
    have HO : Hid (CloneOut w 0 [] (.returned (.slice none 0 0)) w) := ⟨_, rfl, RowC.nil _ _ _, Below.refl _ _, fun k hk => by simp [cBlk] at hk⟩
    show Calls Try.prog _ #[.slice none 0 0] w (CloneOut w 0 [])
    generalize CloneOut w 0 [] = Q at HO ⊢
    clear hnc hc hp0 hcell hn
    go_enter Try.func54, Try.ntmps54
    go_wp2
    exact HO.out
  | some a =>
    have hlt : ∀ j x, (poCells ps)[j]? = some x → a.block < w.heap.size := fun j x hx => by
      have := World.block_lt_of_cell? w _ (hcell a rfl j x hx)
      rw [add_block] at this
      exact this
    obtain ⟨n, hn0⟩ : ∃ n, n = ps.length := ⟨_, rfl⟩
    obtain ⟨xs, hxs⟩ : ∃ xs, xs = poCells ps := ⟨_, rfl⟩
    rw [← hn0] at hnc hn ⊢
    rw [← hxs] at hcell hlt ⊢
    have hxl : xs.length = n * 2 := by rw [hxs, hn0, poCells_len]
    have hu : ∀ u ∈ xs, u.oneCell' = true := by rw [hxs]; exact poCells_one ps
    have hnil : (binOp .eql 30 (.slice (some a) n c) (.slice none 0 0)).run Try.prog w = .ok (.bool false) w := by kernel_rfl
    have HS : Hid (∀ o, Src Try.prog 2 30 (.slice (some a) n c) n xs (w.alloc o)) := fun o => by
      refine Src.ofSlice _ Try.underlying30 _ _ _ _ hxl (fun j u hj => ?_) hu
      rw [World.cell?_alloc_lt _ _ _ (by rw [add_block]; exact hlt j u hj)]
      exact hcell a rfl j u hj
    have hn1 : Hid ((0 + n) * 32 ≤ 140737488355328) := by show _ ≤ _; omega
    have hn2 : Hid (0 + n ≤ maxLen) := by unfold maxLen; show _ ≤ _; omega
    clear hnc hc hp0 hcell hn hlt hn0 hxs hxl hu
    go_enter Try.func54, Try.ntmps54
    go_wp2_with (at_builtin; refine wpList_append_rowC rfl (.tmp 5) (.tmp 6) 30 30 108 rfl Try.underlying30 _ 2 32 infoPo rfl (.slice (some ⟨w.heap.size, 0, none⟩) 0 0) 0 [] rfl (RowC.nil _ _ _) (.slice (some a) n c) n xs rfl (HS.out _) hn1.out hn2.out ?qnext)
    case qnext =>
      intro v' w1 ho hg hloc
      have hb : Below w.heap.size w w1 := ((Below.refl _ w).alloc (Nat.le_refl _) _).grown hg (by simp) (by intro k hk; simp [cBlk] at hk)
      have HB : Hid (Below w.heap.size w w1) := hb
      have HO : Hid (RowC w1 2 v' n xs) := by simpa [Hid] using ho
      have HK : Hid (∀ k, cBlk v' = some k → w.heap.size ≤ k) := by
        intro k hk
        rcases hloc k hk with q | q
        · simp [cBlk] at q
        · first | omega | (simp at q; omega)
      obtain ⟨p', c', hv', _⟩ := HO.out.form
      subst hv'
      clear ho hg hloc hb
      have HF : Hid (CloneOut w n xs (.returned (.slice p' n c')) w1) := ⟨_, rfl, HO.out, HB.out, HK.out⟩
      go_wp2
      go_ret
      exact HF.out

/-- New(). -/
theorem NewT_c (w : World) : Calls Try.prog 17 #[] w fun e w' => e = .returned (.pointer (some ⟨w.heap.size + 1, 0, none⟩)) ∧ Tb w' (w.heap.size + 1) w.heap.size [] ∧ Below w.heap.size w w' := by
  obtain ⟨u, hu⟩ : ∃ u, u = (w.alloc (.map #[] 0)).alloc (.cells #[.map (some w.heap.size)] 80) := ⟨_, rfl⟩
  have HT : Hid (Tb u (w.heap.size + 1) w.heap.size []) := by
    have hb : Below (w.alloc (.map #[] 0)).heap.size (w.alloc (.map #[] 0)) u := by rw [hu]; exact below_alloc _ _
    refine ⟨?_, ⟨[], (Mi.made w).carry (hb.block _ (by simp)), trivial⟩, by simp⟩
    have e := World.cell?_alloc_mark (w.alloc (.map #[] 0)) #[.map (some w.heap.size)] 80 (0, 0) 0
    have s1 : (w.alloc (.map #[] 0)).heap.size = w.heap.size + 1 := by simp
    rw [s1] at e
    rw [hu]
    exact e
  have HB : Hid (Below w.heap.size w u) := by rw [hu]; exact (below_alloc _ _).trans ((below_alloc _ _).mono (by simp))
  have hmm := @run_makeMap Try.prog
  go_enter Try.func17, Try.ntmps17
  go_wp2
  rw [← hu]
  go_ret
  exact ⟨rfl, HT.out, HB.out⟩

theorem se_mayBe_c (a b : Int) (w : World) : Calls Try.prog 53 #[.agg #[.int .i64 a, .int .i64 b]] w fun e w' => e = .returned (.bool (Se.may a b)) ∧ Below w.heap.size w w' := by
  have HB : Hid (Below w.heap.size w (w.alloc (.cells #[.int .i64 a, .int .i64 b] 35))) := below_alloc _ _
  by_cases h0 : 0 ≤ a
  · by_cases h1 : a ≤ 2147483647
    · by_cases h2 : 1 ≤ b
      · have e : Se.may a b = decide (b ≤ 2147483647) := by simp [Se.may, h0, h1, h2]
        rw [e]
        clear e
        go_enter Try.func53, Try.ntmps53
        go_wp2
        go_ret
        exact ⟨by simp, HB.out⟩
      · have e : Se.may a b = false := by simp [Se.may]; omega
        rw [e]
        clear e
        go_enter Try.func53, Try.ntmps53
        go_wp2
        go_ret
        exact ⟨by simp, HB.out⟩
    · have e : Se.may a b = false := by simp [Se.may]; omega
      rw [e]
      clear e
      go_enter Try.func53, Try.ntmps53
      go_wp2
      go_ret
      exact ⟨by simp, HB.out⟩
  · have e : Se.may a b = false := by simp [Se.may]; omega
    rw [e]
    clear e
    go_enter Try.func53, Try.ntmps53
    go_wp2
    go_ret
    exact ⟨by simp, HB.out⟩

section
variable {w : World} {B mb : Nat} {s : Se.St}

theorem isMadeT_c (h : Tb w B mb s) : Calls Try.prog 52 #[.pointer (some ⟨B, 0, none⟩)] w fun e w' => e = .returned (.bool true) ∧ w' = w := by
  have h0 := h.c0
  have hq : ∀ X : World, (binOp .neq 78 (.map (some mb)) (.map none)).run Try.prog X = .ok (.bool true) X := fun X => by kernel_rfl
  clear h
  go_enter Try.func52, Try.ntmps52
  go_wp2
  go_ret
  exact ⟨rfl, rfl⟩

theorem LenT_c (h : Tb w B mb s) : Calls Try.prog 55 #[.pointer (some ⟨B, 0, none⟩)] w fun e w' => e = .returned (.int .i64 (s.length : Int)) ∧ w' = w := by
  have HM : Hid _ := isMadeT_c h
  have h0 := h.c0
  have hl := h.lenC 3
  clear h
  go_enter Try.func55, Try.ntmps55
  go_wp2_with fail
  refine Calls.mono HM.out ?_
  rintro e w1 ⟨rfl, hw⟩
  subst hw
  go_wp2
  go_ret
  exact ⟨rfl, rfl⟩
end

end Go.Proofs.Ytepbmfjimppgcaa
