/-
  Rows of letters: three cells each; pieces of them: cut out, copied, cleared.
-/
import Derived.Test.YtpopanfefpehnaaRlRow
import Derived.Test.YtpopanfefpehnaaNnMath
import Derived.Test.YtpopanfefpehnaaRows
import Derived.Laws.IdiomCopy
import Derived.Deep.RegionHeld
import Derived.BigRegion
import Derived.BigQuiet
namespace Go.Proofs.Ytpopanfefpehnaa
open Go.RowKit

theorem infoLt : (Try.prog.info? 78).map (fun i => (i.zero, i.size, i.bytes)) = some (some (.agg #[.int .i64 0, .int .i64 0, .string ⟨#[]⟩]), 3, 32) := by kernel_rfl
theorem below_alloc (w : World) (o : Obj) : Below w.heap.size w (w.alloc o) := (Below.refl _ _).alloc (Nat.le_refl _) o
theorem below_drewN (w : World) (n : Nat) : Below w.heap.size w (w.drewN n) := ⟨rfl, rfl, rfl, Nat.le_refl _, fun _ _ => rfl⟩

/-- Letters as cells. -/
def ltCells (l : List Q.Lt) : List Value := l.flatMap fun e => [.int .i64 e.fr, .int .i64 e.tt, .string e.tx]
theorem ltCells_len (l : List Q.Lt) : (ltCells l).length = l.length * 3 := by
  induction l with
  | nil => rfl
  | cons e l ih => rw [ltCells, List.flatMap_cons, List.length_append, ← ltCells, ih]; simp; omega
theorem ltCells_snoc (l : List Q.Lt) (e : Q.Lt) : ltCells (l ++ [e]) = ltCells l ++ [.int .i64 e.fr, .int .i64 e.tt, .string e.tx] := by simp [ltCells]
theorem ltCells_append (l l' : List Q.Lt) : ltCells (l ++ l') = ltCells l ++ ltCells l' := by simp [ltCells]
theorem ltCells_cons (e : Q.Lt) (l : List Q.Lt) : ltCells (e :: l) = .int .i64 e.fr :: .int .i64 e.tt :: .string e.tx :: ltCells l := by simp [ltCells]
theorem ltCells_at : ∀ (l : List Q.Lt) (i : Nat) (e : Q.Lt), l[i]? = some e → (ltCells l)[i * 3]? = some (.int .i64 e.fr) ∧ (ltCells l)[i * 3 + 1]? = some (.int .i64 e.tt) ∧ (ltCells l)[i * 3 + 2]? = some (.string e.tx)
  | [], _, _, h => by simp at h
  | x :: l, 0, e, h => by
    have h' : x = e := by simpa using h
    subst h'
    rw [ltCells_cons]
    exact ⟨rfl, rfl, rfl⟩
  | x :: l, i + 1, e, h => by
    rw [ltCells_cons]
    have := ltCells_at l i e (by simpa using h)
    rw [show (i + 1) * 3 = i * 3 + 1 + 1 + 1 by omega]
    simpa using this
theorem ltCells_one (l : List Q.Lt) : ∀ u ∈ ltCells l, u.oneCell' = true := by
  intro u hu
  unfold ltCells at hu
  rw [List.mem_flatMap] at hu
  obtain ⟨e, _, h⟩ := hu
  simp at h
  rcases h with rfl | rfl | rfl <;> rfl
theorem ltCells_take (l : List Q.Lt) (k : Nat) : ltCells (l.take k) = (ltCells l).take (k * 3) := by
  induction l generalizing k with
  | nil => simp [ltCells]
  | cons e l ih =>
    cases k with
    | zero => simp [ltCells]
    | succ k =>
      rw [List.take_succ_cons, ltCells_cons, ltCells_cons, ih, show (k + 1) * 3 = k * 3 + 1 + 1 + 1 by omega]
      rfl
theorem ltCells_drop (l : List Q.Lt) (k : Nat) : ltCells (l.drop k) = (ltCells l).drop (k * 3) := by
  induction l generalizing k with
  | nil => simp [ltCells]
  | cons e l ih =>
    cases k with
    | zero => simp
    | succ k =>
      rw [List.drop_succ_cons, ltCells_cons, ih, show (k + 1) * 3 = k * 3 + 1 + 1 + 1 by omega]
      rfl

/-- Where a piece lies. -/
def cutP (p : Option Addr) (l m size : Nat) : Option Addr := if m = l then p else p.map (·.add (l * size))

theorem run_cut3 (p : Option Addr) (n c l h m : Nat) (h1 : l ≤ h) (h2 : h ≤ m) (h3 : m ≤ c) (W : World) :
    (Instr.slice 73 (.slice p n c) (some (.int .i64 (l : Int))) (some (.int .i64 (h : Int))) (some (.int .i64 (m : Int)))).run Try.prog W = .ok (.slice (cutP p l m 3) (h - l) (m - l)) W := by
  simp [Instr.slice, run_underlying Try.underlying73, Instr.sliceBounds, Instr.sliceBound, asIntOf, h1, h2, h3, cutP]

theorem run_cut2 (p : Option Addr) (n c l h : Nat) (h1 : l ≤ h) (h2 : h ≤ c) (W : World) :
    (Instr.slice 73 (.slice p n c) (some (.int .i64 (l : Int))) (some (.int .i64 (h : Int))) none).run Try.prog W = .ok (.slice (cutP p l c 3) (h - l) (c - l)) W := by
  simp [Instr.slice, run_underlying Try.underlying73, Instr.sliceBounds, Instr.sliceBound, asIntOf, h1, h2, cutP]

theorem run_cutLow (p : Option Addr) (n c l : Nat) (h1 : l ≤ n) (W : World) :
    (Instr.slice 73 (.slice p n c) (some (.int .i64 (l : Int))) none none).run Try.prog W = .ok (.slice (cutP p l c 3) (n - l) (c - l)) W := by
  simp [Instr.slice, run_underlying Try.underlying73, Instr.sliceBounds, Instr.sliceBound, asIntOf, h1, cutP]

theorem run_cutHigh (p : Option Addr) (n c h : Nat) (h1 : h ≤ c) (W : World) :
    (Instr.slice 73 (.slice p n c) none (some (.int .i64 (h : Int))) none).run Try.prog W = .ok (.slice (cutP p 0 c 3) (h - 0) (c - 0)) W := by
  simp [Instr.slice, run_underlying Try.underlying73, Instr.sliceBounds, Instr.sliceBound, asIntOf, h1, cutP]

theorem cutP_some (g off l m : Nat) : cutP (some ⟨g, off, none⟩) l m 3 = some ⟨g, if m = l then off else off + l * 3, none⟩ := by
  unfold cutP
  split
  · rfl
  · simp [Addr.add]

/-- A piece of a row is a row. -/
theorem RowC.cut {w : World} {p : Option Addr} {n c : Nat} {xs : List Value} (hr : RowC w 3 (.slice p n c) n xs) (l h m : Nat) (h1 : l ≤ h) (h2 : h ≤ m) (h3 : m ≤ c) (h4 : h ≤ n) :
    RowC w 3 (.slice (cutP p l m 3) (h - l) (m - l)) (h - l) ((xs.drop (l * 3)).take ((h - l) * 3)) ∧ ∀ k, cBlk (.slice (cutP p l m 3) (h - l) (m - l)) = some k → cBlk (.slice p n c) = some k := by
  obtain ⟨hl, p0, c0, hv, hn, hc, hd⟩ := hr
  injection hv with e1 e2 e3
  subst e1 e3
  have hlen : ((xs.drop (l * 3)).take ((h - l) * 3)).length = (h - l) * 3 := by
    rw [List.length_take, List.length_drop, hl]
    omega
  rcases hd with hd | ⟨g, off, rfl, hR, hC⟩
  · subst hd
    obtain rfl : m = 0 := by omega
    obtain rfl : h = 0 := by omega
    obtain rfl : l = 0 := by omega
    exact ⟨⟨hlen, _, _, rfl, by omega, by omega, .inl rfl⟩, fun k hk => by cases p <;> simp [cutP, cBlk] at hk⟩
  · rw [cutP_some]
    by_cases hm : m = l
    · rw [if_pos hm]
      subst hm
      refine ⟨⟨hlen, _, _, rfl, by omega, by omega, .inl (by omega)⟩, fun k hk => ?_⟩
      rw [Nat.sub_self] at hk
      simp [cBlk] at hk
    · rw [if_neg hm]
      refine ⟨⟨hlen, _, _, rfl, by omega, by omega, .inr ⟨g, off + l * 3, rfl, fun j hj => ?_, fun j x hx => ?_⟩⟩, fun k hk => ?_⟩
      · rw [Nat.add_assoc]
        exact hR _ (by omega)
      · rw [List.getElem?_take] at hx
        split at hx
        · rw [List.getElem?_drop] at hx
          rw [Nat.add_assoc]
          exact hC _ _ hx
        · cases hx
      · obtain ⟨q, hq⟩ : ∃ q, m - l = q + 1 := ⟨m - l - 1, by omega⟩
        obtain ⟨q', hq'⟩ : ∃ q', c = q' + 1 := ⟨c - 1, by omega⟩
        rw [hq] at hk
        rw [hq']
        simpa [cBlk] using hk

theorem cutP_none (l m : Nat) : cutP none l m 3 = none := by unfold cutP; split <;> rfl

theorem RowC.src {P : Program} {w : World} {p : Option Addr} {n c : Nat} {xs : List Value} (h : RowC w 3 (.slice p n c) n xs) (t e' : TypeId) (ht : P.underlying t = some (.slice e')) (hu : ∀ u ∈ xs, u.oneCell' = true) : Src P 3 t (.slice p n c) n xs w := by
  obtain ⟨hl, p0, c0, hv, hn, hc, hd⟩ := h
  injection hv with e1 e2 e3
  subst e1 e3
  cases p with
  | none =>
    have h0 : c = 0 := by
      rcases hd with h | ⟨g, off, hp, _⟩
      · exact h
      · cases hp
    obtain rfl : n = 0 := by omega
    have hx : xs = [] := List.eq_nil_of_length_eq_zero (by simpa using hl)
    subst hx
    exact Src.ofNil w ht c
  | some a =>
    refine Src.ofSlice w ht _ _ _ _ hl (fun j u hj => ?_) hu
    rcases hd with h | ⟨g, off, hp, _, hC⟩
    · have hx : xs = [] := List.eq_nil_of_length_eq_zero (by rw [hl]; have : n = 0 := by omega
                                                             rw [this])
      subst hx
      simp at hj
    · injection hp with hp
      subst hp
      rw [Addr.add_lit]
      exact hC j u hj

/-- What a copy of letters answers. -/
def CloneOut (w : World) (n : Nat) (xs : List Value) (e : Ending) (w' : World) : Prop := ∃ v', e = .returned v' ∧ RowC w' 3 v' n xs ∧ Below w.heap.size w w' ∧ ∀ k, cBlk v' = some k → w.heap.size ≤ k

/-- slices.Clone of letters. -/
theorem LClone_c {w : World} {p : Option Addr} {n c : Nat} {xs : List Value} (h : RowC w 3 (.slice p n c) n xs) (hu : ∀ u ∈ xs, u.oneCell' = true) (hn : n ≤ 1099511627776) :
    Calls Try.prog 98 #[.slice p n c] w (CloneOut w n xs) := by
  cases p with
  | none =>
    obtain ⟨hl, p0, c0, hv, hnc, hc, hd⟩ := h
    injection hv with e1 e2 e3
    subst e3
    have h0 : c = 0 := by
      rcases hd with h | ⟨g, off, hp, _⟩
      · exact h
      · rw [hp] at e1; cases e1
    obtain rfl : n = 0 := by omega
    have hx : xs = [] := List.eq_nil_of_length_eq_zero (by simpa using hl)
    subst hx h0
    have hnil : (binOp .eql 73 (.slice none 0 0) (.slice none 0 0)).run Try.prog w = .ok (.bool true) w := by kernel_rfl
    have HO : Hid (CloneOut w 0 [] (.returned (.slice none 0 0)) w) := ⟨_, rfl, RowC.nil _ _ _, Below.refl _ _, fun k hk => by simp [cBlk] at hk⟩
    generalize CloneOut w 0 [] = Q at HO ⊢
    clear hl hnc hc hd hu hn e1
    go_enter Try.func98, Try.ntmps98
    go_wp2
    exact HO.out
  | some a =>
    have hnil : (binOp .eql 73 (.slice (some a) n c) (.slice none 0 0)).run Try.prog w = .ok (.bool false) w := by kernel_rfl
    have HS : Hid (∀ o, Src Try.prog 3 73 (.slice (some a) n c) n xs (w.alloc o)) := fun o => RowC.src (h.carry (fun k hk => (below_alloc w o).block k (h.lt (by omega) hk))) _ _ Try.underlying73 hu
    have hn1 : Hid ((0 + n) * 32 ≤ 140737488355328) := by show _ ≤ _; omega
    have hn2 : Hid (0 + n ≤ maxLen) := by unfold maxLen; show _ ≤ _; omega
    clear h hu hn
    go_enter Try.func98, Try.ntmps98
    go_wp2_with (at_builtin; refine wpList_append_rowC rfl (.tmp 5) (.tmp 6) 73 73 78 rfl Try.underlying73 _ 3 32 infoLt rfl (.slice (some ⟨w.heap.size, 0, none⟩) 0 0) 0 [] rfl (RowC.nil _ _ _) (.slice (some a) n c) n xs rfl (HS.out _) hn1.out hn2.out ?qnext)
    case qnext =>
      intro v' w1 ho hg hloc
      have hb : Below w.heap.size w w1 := ((Below.refl _ w).alloc (Nat.le_refl _) _).grown hg (by simp) (by intro k hk; simp [cBlk] at hk)
      have HB : Hid (Below w.heap.size w w1) := hb
      have HO : Hid (RowC w1 3 v' n xs) := by simpa [Hid] using ho
      have HK : Hid (∀ k, cBlk v' = some k → w.heap.size ≤ k) := by
        intro k hk
        rcases hloc k hk with q | q
        · simp [cBlk] at q
        · first | omega | (simp at q; omega)
      obtain ⟨p', c', hv', _⟩ := HO.out.form
      subst hv'
      clear ho hg hloc hb
      have HF : Hid (CloneOut w n xs (.returned (.slice p' n c')) w1) := ⟨_, rfl, HO.out, HB.out, HK.out⟩
      go_wp2
      go_ret
      exact HF.out

theorem cutP_zero (p : Option Addr) (c : Nat) : cutP p 0 c 3 = p := by
  unfold cutP
  split
  · rfl
  · cases p <;> simp [Addr.add]

/-- clear of a piece: the rest of the row's cells stay. -/
theorem run_clear_cut {w : World} {p : Option Addr} {n c : Nat} (hd : c = 0 ∨ ∃ g off, p = some ⟨g, off, none⟩ ∧ RoomAt w g off (c * 3)) (l h m : Nat) (h1 : l ≤ h) (h2 : h ≤ m) (h3 : m ≤ c) :
    ∃ w', (∀ ty, (Builtin.clear_ #[73] ty #[.slice (cutP p l m 3) (h - l) (m - l)]).run Try.prog w = .ok (.tuple #[]) w') ∧ w.grownBy w' (cBlk (.slice p n c)) ∧ w'.heap.size = w.heap.size ∧
      ∀ g off, p = some ⟨g, off, none⟩ → RoomAt w' g off (c * 3) ∧ ∀ j, (j < l * 3 ∨ h * 3 ≤ j) → w'.cell? ⟨g, off + j, none⟩ = w.cell? ⟨g, off + j, none⟩ := by
  by_cases hz : h - l = 0
  · refine ⟨w, fun ty => ?_, ⟨rfl, rfl, rfl, Nat.le_refl _, fun _ _ _ => rfl⟩, rfl, fun g off hp => ?_⟩
    · rw [hz]
      cases cutP p l m 3 <;> simp [Builtin.clear_, run_underlying Try.underlying73]
    · rcases hd with hd | ⟨g', off', hp', hR⟩
      · subst hd
        exact ⟨fun j hj => by simp at hj, fun j _ => rfl⟩
      · rw [hp] at hp'
        injection hp' with e
        injection e with e1 e2
        subst e1 e2
        exact ⟨hR, fun j _ => rfl⟩
  · rcases hd with hd | ⟨g, off, rfl, hR⟩
    · omega
    · have hml : ¬ m = l := by omega
      rw [cutP_some, if_neg hml]
      have hlen : (Builtin.zeroCells #[.int .i64 0, .int .i64 0, .string ⟨#[]⟩] (h - l)).toList.length = (h - l) * 3 := by rw [Array.length_toList, size_zeroCells]; rfl
      have hone : ∀ u ∈ (Builtin.zeroCells #[.int .i64 0, .int .i64 0, .string ⟨#[]⟩] (h - l)).toList, u.oneCell' = true := by
        intro u hu
        rw [Array.mem_toList_iff] at hu
        unfold Builtin.zeroCells at hu
        simp at hu
        obtain ⟨q, hq, hu⟩ := hu
        have : q % 3 = 0 ∨ q % 3 = 1 ∨ q % 3 = 2 := by omega
        rcases this with e | e | e <;> (first | (simp [e] at hu; rw [← hu]; rfl) | (simp [e] at hu; rw [hu]; rfl))
      have hst := run_storeCells_cells (P := Try.prog) g (off + l * 3) (Builtin.zeroCells #[.int .i64 0, .int .i64 0, .string ⟨#[]⟩] (h - l)).toList 0 w
        (fun j hj => by rw [hlen] at hj; rw [Nat.add_zero, Nat.add_assoc]; exact (hR _ (by omega)).1) (fun j hj => by rw [hlen] at hj; rw [Nat.add_zero, Nat.add_assoc]; exact (hR _ (by omega)).2) hone
      simp only [Nat.add_zero] at hst
      obtain ⟨c', rfl⟩ : ∃ c', c = c' + 1 := ⟨c - 1, by omega⟩
      refine ⟨w.setCells g (off + l * 3) (Builtin.zeroCells #[.int .i64 0, .int .i64 0, .string ⟨#[]⟩] (h - l)).toList, fun ty => ?_, grown_setCells _ _ _ _, size_setCells6 _ _ _ _, fun g' off' hp => ?_⟩
      · obtain ⟨q, hq⟩ : ∃ q, h - l = q + 1 := ⟨h - l - 1, by omega⟩
        rw [hq] at hst ⊢
        simp [Builtin.clear_, run_underlying Try.underlying73, Value.cells, hst]
      · injection hp with e
        injection e with e1 e2
        subst e1 e2
        refine ⟨hR.setCells _ _ _, fun j hj => ?_⟩
        refine World.cell?_setCells_out g _ _ w ⟨g, off + j, none⟩ (fun _ _ => ?_)
        rw [hlen]
        show off + j < off + l * 3 ∨ off + l * 3 + (h - l) * 3 ≤ off + j
        omega

/-- A piece of a row, where what is in it stayed. -/
theorem RowC.cutTo {w X : World} {p : Option Addr} {n c : Nat} {xs : List Value} (hr : RowC w 3 (.slice p n c) n xs) (l h : Nat) (h1 : l ≤ h) (h4 : h ≤ n)
    (hX : ∀ g off, p = some ⟨g, off, none⟩ → RoomAt X g off (c * 3) ∧ ∀ j, l * 3 ≤ j → j < h * 3 → X.cell? ⟨g, off + j, none⟩ = w.cell? ⟨g, off + j, none⟩) :
    RowC X 3 (.slice (cutP p l c 3) (h - l) (c - l)) (h - l) ((xs.drop (l * 3)).take ((h - l) * 3)) ∧ ∀ k, cBlk (.slice (cutP p l c 3) (h - l) (c - l)) = some k → cBlk (.slice p n c) = some k := by
  have hn := hr.form
  obtain ⟨p1, c1, hv1, hn1, _⟩ := hn
  injection hv1 with _ _ e3
  subst e3
  obtain ⟨q1, q2⟩ := hr.cut l h c h1 (by omega) (Nat.le_refl _) h4
  refine ⟨?_, q2⟩
  obtain ⟨hl, p0, c0, hv, hn, hc, hd⟩ := q1
  refine ⟨hl, p0, c0, hv, hn, hc, ?_⟩
  injection hv with e1 e2 e3
  rcases hd with hd | ⟨g, off, hp, hR, hC⟩
  · exact .inl hd
  · by_cases hcl : c = l
    · exact .inl (by omega)
    · cases p with
      | none => rw [cutP_none] at e1; rw [← e1] at hp; cases hp
      | some a =>
        obtain ⟨g', off', sp⟩ := a
        have hsp : sp = none := by
          obtain ⟨_, pz, cz, hvz, _, _, hdz⟩ := hr
          injection hvz with ez _ ec
          rcases hdz with hz | ⟨gz, oz, hpz, _⟩
          · omega
          · rw [hpz] at ez
            injection ez with ez
            injection ez
        subst hsp
        rw [cutP_some, if_neg hcl] at e1
        rw [← e1] at hp
        injection hp with e
        injection e with ea eb
        subst ea eb
        obtain ⟨x1, x2⟩ := hX g' off' rfl
        refine .inr ⟨g', off' + l * 3, e1.symm, fun j hj => ?_, fun j x hx => ?_⟩
        · rw [Nat.add_assoc]
          exact x1 _ (by omega)
        · have hlt := (List.getElem?_eq_some_iff.1 hx).1
          rw [hl] at hlt
          have := hC j x hx
          rw [Nat.add_assoc] at this ⊢
          rw [x2 _ (by omega) (by omega)]
          exact this

end Go.Proofs.Ytpopanfefpehnaa
