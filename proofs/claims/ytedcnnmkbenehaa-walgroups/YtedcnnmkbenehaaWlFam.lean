/-
  Several logs beside one another; short scripts; an append, refused or not.
-/
import Derived.Test.YtedcnnmkbenehaaWlAwake
import Derived.Test.YtedcnnmkbenehaaWlArgs
namespace Go.Proofs.Ytedcnnmkbenehaa
open Go.RowKit

/-- Scripts and their data are short. -/
def Short (l : List Op5) : Prop := l.length ≤ 100 ∧ ∀ x ∈ l, x.r.data.size ≤ 200

/-- What fine answers. -/
def FineOut (w : World) (l : List Op5) (e : Ending) (w' : World) : Prop := ∃ b, e = .returned (.bool b) ∧ (b = true → Short l) ∧ w' = w

set_option maxHeartbeats 800000 in
set_option maxRecDepth 20000 in
theorem fine_c {w : World} {v : Value} {l : List Op5} (h : Scr w v l) :
    Calls Try.prog 9 #[v] w (FineOut w l) := by
  obtain ⟨ao, c, rfl, h2, h3, h4, h5⟩ := h
  have HC : Hid _ := h5
  obtain ⟨n, hn⟩ : ∃ n, n = l.length := ⟨_, rfl⟩
  have HN : Hid (n = l.length) := hn
  rw [← hn] at h2 ⊢
  have hb : n < 9223372036854775808 := by unfold maxLen at h3; omega
  have HD : Hid (∀ x ∈ l, x.r.data.size ≤ maxLen) := fun x hx => (h4 x hx).2.2.2.2.2
  clear h3 h4 h5 hn
  go_enter Try.func9, Try.ntmps9
  go_wp2
  go_loop [3] (fun x => ∃ k : Nat, x = .int .i64 (k : Int) ∧ k ≤ n ∧ Hid (∀ x ∈ l.take k, x.r.data.size ≤ 200)) (fun x => n - (intOf x).toNat)
  case atStart => exact ⟨0, rfl, Nat.zero_le _, fun x hx => by simp at hx⟩
  case round =>
    obtain ⟨k, rfl, hk, HS⟩ := hrel
    by_cases hlt : k < n
    · obtain ⟨x, hx⟩ : ∃ x, l[k]? = some x := ⟨_, List.getElem?_eq_getElem (by have := HN.out; omega)⟩
      have HX : Hid (l[k]? = some x) := hx
      obtain ⟨g, o, rfl, q⟩ : ∃ g o, ao = some ⟨g, o, none⟩ ∧ w.cell? ⟨g, o + k * 8 + 1 + 5, none⟩ = some (.string x.r.data) := by
        rcases HC.out with e | ⟨g, o, e1, _, e2⟩
        · rw [e] at hx; simp at hx
        · exact ⟨g, o, e1, (e2 k x hx).2.2.2.2.2.2.1⟩
      obtain ⟨d, hd⟩ : ∃ d, d = x.r.data := ⟨_, rfl⟩
      have HDd : Hid (d = x.r.data) := hd
      rw [← hd] at q
      have hk0 : (0 : Int) ≤ (k : Int) := by omega
      have hkn : (k : Int) < (n : Int) := by omega
      clear hx hd
      by_cases hs : 200 < d.size
      · go_wp2
        go_ret
        exact ⟨false, rfl, fun e => (by cases e), rfl⟩
      · go_wp2
        go_round
        case rel =>
          refine ⟨k + 1, by go_num, by omega, ?_⟩
          intro y hy
          rw [List.take_add_one, HX.out, List.mem_append] at hy
          rcases hy with hy | hy
          · exact HS.out y hy
          · simp at hy
            subst hy
            rw [← HDd.out]
            omega
        case measure => simp [intOf]; omega
    · obtain rfl : k = n := by omega
      have HT : Hid (∀ x ∈ l, x.r.data.size ≤ 200) := by
        have := HS.out
        rw [List.take_of_length_le (by have := HN.out; omega)] at this
        exact this
      go_wp2
      go_ret
      refine ⟨decide ((k : Int) ≤ 100), rfl, fun e => ?_, rfl⟩
      have := of_decide_eq_true e
      exact ⟨by rw [← HN.out]; omega, HT.out⟩

theorem recB_small {r : W.Rec} (h : W.may r = true) : (W.recB r).size ≤ 54 + r.data.size := by
  obtain ⟨g, k, i, t, v, hg, hk, hi, ht, hv, lg, lk, li, lt, lv⟩ := may_nums h
  unfold W.recB
  rw [F.record_size]
  show 9 + (W.payload r).toArray.size ≤ _
  rw [List.size_toArray]
  unfold W.payload
  simp only [List.length_append]
  have h1 := M.putVar_length9 (n := r.group.toNat) (by omega)
  have h2 := M.putVar_length9 (n := r.kind.toNat) (by omega)
  have h3 := M.putVar_length9 (n := r.index.toNat) (by omega)
  have h4 := M.putVar_length9 (n := r.term.toNat) (by omega)
  have h5 := M.putVar_length9 (n := (r.vote + 1).toNat) (by omega)
  have h6 : r.data.data.toList.length = r.data.size := by simp
  omega

theorem wx_small (lim : Nat) (s : St) (ht : s.turn ≤ 1) (r : W.Rec) (hm : W.may r = true) (hd : r.data.size ≤ 200) : (wx lim s (W.recB r)).size ≤ 264 := by
  have h1 := recB_small hm
  unfold wx
  split
  · rw [size_app, head_size10 _ ht]; omega
  · omega

/-- What an append makes of a log, refused or not. -/
def app1 (lim : Nat) (s : St) (r : W.Rec) : St := if W.chk s.gs r = 0 then appd lim s r else s

theorem App_c {w : World} {p : Pl} {s : St} {own : Nat → Prop} (h : Lg w p s own) (r : W.Rec) (hd : r.data.size ≤ 200) (hroom : tot s.A + 264 ≤ p.room) (hn : s.n < 200) :
    Calls Try.prog 17 #[.pointer (some ⟨p.L, 0, none⟩), recV r] w fun e w' => e = .returned (.int .i64 (W.chk s.gs r)) ∧ Aft own w w' p (app1 p.limit s r) := by
  unfold app1
  by_cases hc : W.chk s.gs r = 0
  · rw [if_pos hc, hc]
    have hcl := cl_le p.limit s
    exact Append_yes h r hc (by have := wx_small p.limit s h.tt r (chk_may hc) hd; omega) (by omega)
  · rw [if_neg hc]
    refine (Append_no h r hc).mono ?_
    rintro e w' ⟨rfl, hb⟩
    exact ⟨rfl, Aft.same h hb⟩

theorem app1_small (lim : Nat) (s : St) (r : W.Rec) (ht : s.turn ≤ 1) (hd : r.data.size ≤ 200) (hn : s.n < 200) : tot (app1 lim s r).A ≤ tot s.A + 264 ∧ (app1 lim s r).n ≤ s.n + 1 ∧ (app1 lim s r).turn = s.turn ∧ (app1 lim s r).gs = if W.chk s.gs r = 0 then W.doR s.gs r else s.gs := by
  unfold app1
  by_cases hc : W.chk s.gs r = 0
  · rw [if_pos hc, if_pos hc]
    have hcl := cl_le lim s
    have h1 := wr_tot lim s (W.recB r) (by omega)
    have h2 := wx_small lim s ht r (chk_may hc) hd
    have h3 := wr_n lim s (W.recB r)
    refine ⟨?_, ?_, wr_turn lim s (W.recB r), rfl⟩
    · show tot (wr lim s (W.recB r)).A ≤ _; omega
    · show (wr lim s (W.recB r)).n ≤ _; omega
  · rw [if_neg hc, if_neg hc]
    exact ⟨by omega, by omega, rfl, rfl⟩

/-- n logs beside one another, all newer than w. -/
structure Fam (w wr : World) (n : Nat) (P : Nat → Pl) (T : Nat → St) (O : Nat → Nat → Prop) : Prop where
  old : Below w.heap.size w wr
  lg : ∀ i, i < n → Lg wr (P i) (T i) (O i)
  mine : ∀ i, i < n → ∀ k, O i k → w.heap.size ≤ k
  apart : ∀ i j, i < n → j < n → i ≠ j → ∀ k, O i k → O j k → False

theorem Fam.nil (w : World) (P : Nat → Pl) (T : Nat → St) (O : Nat → Nat → Prop) : Fam w w 0 P T O := ⟨Below.refl _ _, fun i h => by omega, fun i h => by omega, fun i j h => by omega⟩
theorem Fam.below {w wr w' : World} {n : Nat} {P : Nat → Pl} {T : Nat → St} {O : Nat → Nat → Prop} (h : Fam w wr n P T O) (hb : Below wr.heap.size wr w') : Fam w w' n P T O :=
  ⟨h.old.trans (hb.mono h.old.size), fun i hi => (h.lg i hi).below hb, h.mine, h.apart⟩
/-- A row that is none of the logs' has turned. -/
theorem Fam.grown {w wr w' : World} {n : Nat} {P : Nat → Pl} {T : Nat → St} {O : Nat → Nat → Prop} {row : Option Nat} (h : Fam w wr n P T O) (hg : wr.grownBy w' row) (hr : ∀ k, row = some k → w.heap.size ≤ k ∧ ∀ i, i < n → ¬ O i k) : Fam w w' n P T O := by
  refine ⟨⟨hg.os.trans h.old.os, hg.tape.trans h.old.tape, hg.output.trans h.old.output, Nat.le_trans h.old.size hg.size, fun k hk => ?_⟩, fun i hi => (h.lg i hi).carry hg.size (fun k hk => hg.block k ((h.lg i hi).here k hk) (fun e => (hr k e.symm).2 i hi hk)), h.mine, h.apart⟩
  rw [hg.block k (Nat.lt_of_lt_of_le hk h.old.size) (fun e => by have := (hr k e.symm).1; omega)]
  exact h.old.block k hk
/-- One log more. -/
theorem Fam.snoc {w wr w' : World} {n : Nat} {P : Nat → Pl} {T : Nat → St} {O : Nat → Nat → Prop} (h : Fam w wr n P T O) {p : Pl} {s : St} {own : Nat → Prop} (hf : Fresh wr w' p s own) : Fam w w' (n + 1) (upd P n p) (upd T n s) (upd O n own) := by
  have hb := h.below hf.old
  refine ⟨hb.old, fun i hi => ?_, fun i hi k hk => ?_, fun i j hi hj e k h1 h2 => ?_⟩
  · by_cases q : i = n
    · subst q; rw [upd_same, upd_same, upd_same]; exact hf.lg
    · rw [upd_other _ _ q, upd_other _ _ q, upd_other _ _ q]; exact hb.lg i (by omega)
  · by_cases q : i = n
    · subst q; rw [upd_same] at hk; exact Nat.le_trans h.old.size (hf.mine k hk)
    · rw [upd_other _ _ q] at hk; exact h.mine i (by omega) k hk
  · have hx : ∀ m, m < n → ∀ k, O m k → own k → False := fun m hm k q1 q2 => by
      have := (h.lg m hm).here k q1
      have := hf.mine k q2
      omega
    by_cases q : i = n
    · subst q
      rw [upd_same] at h1
      rw [upd_other _ _ (fun q => e q.symm)] at h2
      exact hx j (by omega) k h2 h1
    · rw [upd_other _ _ q] at h1
      by_cases q2 : j = n
      · subst q2
        rw [upd_same] at h2
        exact hx i (by omega) k h1 h2
      · rw [upd_other _ _ q2] at h2
        exact h.apart i j (by omega) (by omega) e k h1 h2
/-- One log has turned. -/
theorem Fam.step {w wr w' : World} {n : Nat} {P : Nat → Pl} {T : Nat → St} {O : Nat → Nat → Prop} (h : Fam w wr n P T O) {i : Nat} (hi : i < n) {s : St} (ha : Aft (O i) wr w' (P i) s) : Fam w w' n P (upd T i s) (upd O i (sinceS (O i) wr w')) := by
  refine ⟨h.old.trans (ha.2.below (h.mine i hi) h.old.size), fun j hj => ?_, fun j hj k hk => ?_, fun a b hab hb e k h1 h2 => ?_⟩
  · by_cases q : j = i
    · subst q; rw [upd_same, upd_same]; exact ha.1
    · rw [upd_other _ _ q, upd_other _ _ q]
      exact (h.lg j hj).carry ha.2.size (fun k hk => ha.2.block k ((h.lg j hj).here k hk) (fun e => h.apart j i hj hi q k hk e))
  · by_cases q : j = i
    · subst q
      rw [upd_same] at hk
      rcases hk with e | e
      · exact h.mine j hj k e
      · exact Nat.le_trans h.old.size e.1
    · rw [upd_other _ _ q] at hk; exact h.mine j hj k hk
  · have hx : ∀ m, m < n → m ≠ i → ∀ k, O m k → sinceS (O i) wr w' k → False := fun m hm hme k q1 q2 => by
      rcases q2 with q2 | q2
      · exact h.apart m i hm hi hme k q1 q2
      · have := (h.lg m hm).here k q1
        omega
    by_cases q : a = i
    · subst q
      rw [upd_same] at h1
      rw [upd_other _ _ (fun q => e q.symm)] at h2
      exact hx b hb (fun q => e q.symm) k h2 h1
    · rw [upd_other _ _ q] at h1
      by_cases q2 : b = i
      · subst q2
        rw [upd_same] at h2
        exact hx a hab q k h1 h2
      · rw [upd_other _ _ q2] at h2
        exact h.apart a b hab hb e k h1 h2

/-- From Z on only the n logs have turned. -/
structure Reach (w Z X : World) (n : Nat) (P : Nat → Pl) (T : Nat → St) (U : Nat → Prop) : Prop where
  ex : ∃ O, Fam w X n P T O ∧ ∀ i, i < n → ∀ k, O i k → U k ∨ Z.heap.size ≤ k
  kept : KeptS U Z X

theorem Reach.start {w Z : World} {n : Nat} {P : Nat → Pl} {T : Nat → St} {O : Nat → Nat → Prop} (h : Fam w Z n P T O) : Reach w Z Z n P T (fun k => ∃ i, i < n ∧ O i k) :=
  ⟨⟨O, h, fun i hi _ hk => .inl ⟨i, hi, hk⟩⟩, KeptS.refl _ _⟩
theorem Reach.below {w Z X Y : World} {n : Nat} {P : Nat → Pl} {T : Nat → St} {U : Nat → Prop} (h : Reach w Z X n P T U) (hb : Below X.heap.size X Y) : Reach w Z Y n P T U := by
  obtain ⟨⟨O, h1, h2⟩, h3⟩ := h
  exact ⟨⟨O, h1.below hb, h2⟩, h3.trans (KeptS.ofBelow (own := fun _ => False) hb) (fun _ _ e => e.elim)⟩
theorem Reach.cell {w Z X : World} {n : Nat} {P : Nat → Pl} {T : Nat → St} {U : Nat → Prop} (h : Reach w Z X n P T U) {b : Nat} (hb : b < Z.heap.size) (hu : ¬ U b) (j : Nat) : X.cell? ⟨b, j, none⟩ = Z.cell? ⟨b, j, none⟩ :=
  World.cell?_of_block (a := ⟨b, j, none⟩) (h.kept.block b hb hu)
theorem Reach.app {w Z X : World} {n : Nat} {P : Nat → Pl} {T : Nat → St} {U : Nat → Prop} (h : Reach w Z X n P T U) {i : Nat} (hi : i < n) (r : W.Rec) (hd : r.data.size ≤ 200) (hroom : tot (T i).A + 264 ≤ (P i).room) (hn : (T i).n < 200) :
    Calls Try.prog 17 #[.pointer (some ⟨(P i).L, 0, none⟩), recV r] X fun e w' => e = .returned (.int .i64 (W.chk (T i).gs r)) ∧ Reach w Z w' n P (upd T i (app1 (P i).limit (T i) r)) U := by
  obtain ⟨⟨O, h1, h2⟩, h3⟩ := h
  refine (App_c (h1.lg i hi) r hd hroom hn).mono ?_
  rintro e w' ⟨rfl, ha⟩
  refine ⟨rfl, ⟨_, h1.step hi ha, ?_⟩, ?_⟩
  · intro j hj k hk
    by_cases q : j = i
    · subst q
      rw [upd_same] at hk
      rcases hk with e | e
      · exact h2 j hj k e
      · exact .inr (Nat.le_trans h3.size e.1)
    · rw [upd_other _ _ q] at hk
      exact h2 j hj k hk
  · exact h3.trans ha.2 (fun q hq e => (h2 i hi q e).resolve_right (Nat.not_le.2 hq))
theorem Reach.saved {w Z X : World} {n : Nat} {P : Nat → Pl} {T : Nat → St} {U : Nat → Prop} (h : Reach w Z X n P T U) {i : Nat} (hi : i < n) (g : Nat) (g9 : g < 9) :
    Calls Try.prog 25 #[.pointer (some ⟨(P i).L, 0, none⟩), .int .i64 (g : Int)] X fun e w' => ∃ v', e = .returned (.tuple #[savV ((T i).gs g) v', .int .i64 0]) ∧ EntV w' v' ((T i).gs g).ents ∧ Below X.heap.size X w' := by
  obtain ⟨⟨O, h1, h2⟩, h3⟩ := h
  refine (Saved_c (h1.lg i hi) g g9).mono ?_
  rintro e w' ⟨v', rfl, h4, h5, _⟩
  exact ⟨v', rfl, h4, h5⟩

/-- The logs but for the first, by pointers. -/
def ptrs (P : Nat → Pl) (n : Nat) : List Value := (List.range n).map fun j => .pointer (some ⟨(P (j + 1)).L, 0, none⟩)
theorem ptrs_succ (P : Nat → Pl) (n : Nat) : ptrs P (n + 1) = ptrs P n ++ [.pointer (some ⟨(P (n + 1)).L, 0, none⟩)] := by unfold ptrs; rw [List.range_succ, List.map_append]; rfl
theorem ptrs_at (P : Nat → Pl) {n j : Nat} (hj : j < n) : (ptrs P n)[j]? = some (.pointer (some ⟨(P (j + 1)).L, 0, none⟩)) := by unfold ptrs; simp [hj]
theorem ptrs_upd (P : Nat → Pl) {n k : Nat} (h : n < k) (p : Pl) : ptrs (upd P k p) n = ptrs P n := by
  unfold ptrs
  refine List.map_congr_left (fun j hj => ?_)
  rw [upd_other _ _ (by have := List.mem_range.1 hj; omega)]

/-- n logs; k of them lie in the slice v. -/
structure Mk (w X : World) (n k : Nat) (v : Value) (P : Nat → Pl) (T : Nat → St) : Prop where
  ex : ∃ O, Fam w X n P T O ∧ ∀ q, rowBlk v = some q → w.heap.size ≤ q ∧ ∀ i, i < n → ¬ O i q
  row : RowV X 29 1 v k (ptrs P k)
theorem Mk.below {w X Y : World} {n k : Nat} {v : Value} {P : Nat → Pl} {T : Nat → St} (h : Mk w X n k v P T) (hb : Below X.heap.size X Y) : Mk w Y n k v P T := by
  obtain ⟨⟨O, h1, h2⟩, h3⟩ := h
  exact ⟨⟨O, h1.below hb, h2⟩, h3.carry (fun q hq => hb.block q (h3.lt hq))⟩
theorem Mk.fresh {w X Y : World} {n k : Nat} {v : Value} {P : Nat → Pl} {T : Nat → St} (h : Mk w X n k v P T) (hk : k < n) {p : Pl} {s : St} {own : Nat → Prop} (hf : Fresh X Y p s own) : Mk w Y (n + 1) k v (upd P n p) (upd T n s) := by
  have hb := h.below hf.old
  obtain ⟨⟨O, h1, h2⟩, h3⟩ := h
  refine ⟨⟨_, h1.snoc hf, fun q hq => ⟨(h2 q hq).1, fun i hi e => ?_⟩⟩, by rw [ptrs_upd P hk]; exact hb.row⟩
  by_cases q1 : i = n
  · subst q1
    rw [upd_same] at e
    have := hf.mine q e
    have := h3.lt hq
    omega
  · rw [upd_other _ _ q1] at e
    exact (h2 q hq).2 i (by omega) e
theorem Mk.push {w X Y : World} {n k : Nat} {v v' : Value} {P : Nat → Pl} {T : Nat → St} (h : Mk w X n k v P T) (hr : RowV Y 29 1 v' (k + 1) (ptrs P k ++ [.pointer (some ⟨(P (k + 1)).L, 0, none⟩)])) (hg : X.grownBy Y (rowBlk v)) (hl : ∀ q, rowBlk v' = some q → rowBlk v = some q ∨ X.heap.size ≤ q) : Mk w Y n (k + 1) v' P T := by
  obtain ⟨⟨O, h1, h2⟩, h3⟩ := h
  refine ⟨⟨O, h1.grown hg h2, fun q hq => ?_⟩, by rw [ptrs_succ]; exact hr⟩
  rcases hl q hq with e | e
  · exact h2 q e
  · exact ⟨Nat.le_trans h1.old.size e, fun i hi o => by have := (h1.lg i hi).here q o; omega⟩

theorem infoPtr : (Try.prog.info? 29).map (fun i => (i.zero, i.size, i.bytes)) = some (some (.pointer none), 1, 8) := by kernel_rfl

/-- Logs that hold nothing. -/
def Zs (n : Nat) (P : Nat → Pl) (T : Nat → St) : Prop := ∀ i, i < n → (T i).gs = (fun _ => W.new) ∧ tot (T i).A = 0 ∧ (T i).n = 0 ∧ (P i).room = 4194304
theorem Zs.snoc {X Y : World} {n : Nat} {P : Nat → Pl} {T : Nat → St} (h : Zs n P T) {p : Pl} {s : St} {own : Nat → Prop} (hf : Fresh X Y p s own) : Zs (n + 1) (upd P n p) (upd T n s) := by
  intro i hi
  by_cases q : i = n
  · subst q
    rw [upd_same, upd_same]
    exact ⟨hf.gs, tot_nil hf.A, hf.n, hf.room⟩
  · rw [upd_other _ _ q, upd_other _ _ q]
    exact h i (by omega)

/-- After i calls: each group has in its own log what it has in the first. -/
structure Alike (i : Nat) (P : Nat → Pl) (T : Nat → St) : Prop where
  room : ∀ j, j < 10 → (P j).room = 4194304
  tots : ∀ j, j < 10 → tot (T j).A ≤ 264 * i
  ns : ∀ j, j < 10 → (T j).n ≤ i
  turns : ∀ j, j < 10 → (T j).turn ≤ 1
  same : ∀ g, g < 9 → (T (g + 1)).gs g = (T 0).gs g
theorem Alike.more {i : Nat} {P : Nat → Pl} {T : Nat → St} (h : Alike i P T) : Alike (i + 1) P T :=
  ⟨h.room, fun j hj => by have := h.tots j hj; omega, fun j hj => by have := h.ns j hj; omega, h.turns, h.same⟩
theorem chk_local {gs gs' : Nat → W.Sv} {r : W.Rec} (h : gs r.group.toNat = gs' r.group.toNat) : W.chk gs r = W.chk gs' r := by unfold W.chk; rw [h]
theorem Alike.step {i : Nat} {P : Nat → Pl} {T : Nat → St} (h : Alike i P T) (hi : i < 60) {g : Nat} (hg : g < 9) {r : W.Rec} (hr : r.group.toNat = g) (hd : r.data.size ≤ 200) :
    Alike (i + 1) P (upd (upd T 0 (app1 (P 0).limit (T 0) r)) (g + 1) (app1 (P (g + 1)).limit (T (g + 1)) r)) := by
  have hs := h.same g hg
  have hc : W.chk (T (g + 1)).gs r = W.chk (T 0).gs r := chk_local (by rw [hr]; exact hs)
  have a0 := app1_small (P 0).limit (T 0) r (h.turns 0 (by omega)) hd (by have := h.ns 0 (by omega); omega)
  have a1 := app1_small (P (g + 1)).limit (T (g + 1)) r (h.turns (g + 1) (by omega)) hd (by have := h.ns (g + 1) (by omega); omega)
  have t0 := h.tots 0 (by omega)
  have t1 := h.tots (g + 1) (by omega)
  have n0 := h.ns 0 (by omega)
  have n1 := h.ns (g + 1) (by omega)
  have u0 := h.turns 0 (by omega)
  have u1 := h.turns (g + 1) (by omega)
  have at0 : (upd (upd T 0 (app1 (P 0).limit (T 0) r)) (g + 1) (app1 (P (g + 1)).limit (T (g + 1)) r)) 0 = app1 (P 0).limit (T 0) r := by rw [upd_other _ _ (by omega), upd_same]
  refine ⟨h.room, fun j hj => ?_, fun j hj => ?_, fun j hj => ?_, fun x hx => ?_⟩
  · by_cases q : j = g + 1
    · subst q; rw [upd_same]; omega
    · rw [upd_other _ _ q]
      by_cases q0 : j = 0
      · subst q0; rw [upd_same]; omega
      · rw [upd_other _ _ q0]; have := h.tots j hj; omega
  · by_cases q : j = g + 1
    · subst q; rw [upd_same]; omega
    · rw [upd_other _ _ q]
      by_cases q0 : j = 0
      · subst q0; rw [upd_same]; omega
      · rw [upd_other _ _ q0]; have := h.ns j hj; omega
  · by_cases q : j = g + 1
    · subst q; rw [upd_same, a1.2.2.1]; exact u1
    · rw [upd_other _ _ q]
      by_cases q0 : j = 0
      · subst q0; rw [upd_same, a0.2.2.1]; exact u0
      · rw [upd_other _ _ q0]; exact h.turns j hj
  · rw [at0, a0.2.2.2]
    by_cases q : x = g
    · subst q
      rw [upd_same, a1.2.2.2, hc]
      by_cases z : W.chk (T 0).gs r = 0
      · rw [if_pos z, if_pos z]
        unfold W.doR
        rw [hr, upd_same, upd_same, hs]
      · rw [if_neg z, if_neg z]; exact hs
    · rw [upd_other _ _ (by omega), upd_other _ _ (by omega), h.same x hx]
      by_cases z : W.chk (T 0).gs r = 0
      · rw [if_pos z]
        unfold W.doR
        rw [hr, upd_other _ _ q]
      · rw [if_neg z]

theorem Reach.held {w Z X : World} {n k : Nat} {v : Value} {P : Nat → Pl} {T T' : Nat → St} {U : Nat → Prop} (h : Reach w Z X n P T' U) (hz : Mk w Z n k v P T) (hu : ∀ q, rowBlk v = some q → ¬ U q) : Mk w X n k v P T' := by
  obtain ⟨⟨O, h1, h2⟩, h3⟩ := h
  obtain ⟨⟨O0, h4, h5⟩, h6⟩ := hz
  refine ⟨⟨O, h1, fun q hq => ⟨(h5 q hq).1, fun i hi e => ?_⟩⟩, h6.carry (fun q hq => h3.block q (h6.lt hq) (hu q hq))⟩
  have := h6.lt hq
  rcases h2 i hi q e with e | e
  · exact hu q hq e
  · omega

end Go.Proofs.Ytedcnnmkbenehaa
