/-
  put and take: fields behind a mark; a panic is an error.
-/
import Derived.Defers
import Derived.Recover
import Derived.Test.YtnfjfhjhofaodaaCmListW
namespace Go.Proofs.Ytnfjfhjhofaodaa
open Go.RowKit

set_option maxHeartbeats 1000000 in
set_option maxRecDepth 100000 in
theorem putCatch_panic (a b : Nat) (x y : Value) (u : TypeId) (pv : Value) (older : List PanicEntry) (w : World) (ha : w.cell? ⟨a, 0, none⟩ = some x) (hza : w.frozen? ⟨a, 0, none⟩ = false) (hb : w.cell? ⟨b, 0, none⟩ = some y) (hzb : w.frozen? ⟨b, 0, none⟩ = false) (hab : a ≠ b) :
    CallsD Try.prog 41 #[.pointer (some ⟨a, 0, none⟩), .pointer (some ⟨b, 0, none⟩)] (.panicking ({ v := .iface u pv, recovered := false } :: older)) w fun e u' w' =>
      e = .returned (.tuple #[]) ∧ u' = .panicking ({ v := .iface u pv, recovered := true } :: older) ∧ w' = (w.setCell ⟨a, 0, none⟩ (.string ⟨#[]⟩)).setCell ⟨b, 0, none⟩ (.int .i64 1) := by
  have hb2 : (w.setCell ⟨a, 0, none⟩ (.string ⟨#[]⟩)).cell? ⟨b, 0, none⟩ = some y := by rw [World.cell?_setCell_other _ _ _ _ (by intro e; injection e with e1 e2; exact hab e1)]; exact hb
  refine callsD_of_wpS Try.func41 rfl fun c₀ cs hu => ?_
  apply wpS_seq
  apply wpS_region
  simp [wpOpsS, go_sem, recoverD, hu, Try.ntmps41, Exit.thenS]
  refine wpS_cond (t := true) (by simp [Act.eval, Array.replicate]) ?_
  simp only [if_true]
  apply wpS_region
  simp [wpOpsS, go_sem, ha, hza, hb2, hzb, bodyPostS, results, Try.results41]

set_option maxHeartbeats 1000000 in
set_option maxRecDepth 100000 in
theorem putCatch_idle (p q : Value) (w : World) :
    CallsD Try.prog 41 #[p, q] .returning w fun e u' w' => e = .returned (.tuple #[]) ∧ u' = .returning ∧ w' = w := by
  refine callsD_of_wpS Try.func41 rfl fun c₀ cs hu => ?_
  apply wpS_seq
  apply wpS_region
  simp [wpOpsS, go_sem, recoverD, hu, Try.ntmps41, Exit.thenS]
  refine wpS_cond (t := false) (by simp [Act.eval, Array.replicate]) ?_
  simp only [Bool.false_eq_true, if_false]
  refine wpS_of_wp (wp_skip ?_)
  cases c₀
  simp_all [bodyPostS, results, Try.results41]

set_option maxHeartbeats 1000000 in
set_option maxRecDepth 100000 in
theorem takeCatch_panic (a : Nat) (x : Value) (u : TypeId) (pv : Value) (older : List PanicEntry) (w : World) (ha : w.cell? ⟨a, 0, none⟩ = some x) (hza : w.frozen? ⟨a, 0, none⟩ = false) :
    CallsD Try.prog 45 #[.pointer (some ⟨a, 0, none⟩)] (.panicking ({ v := .iface u pv, recovered := false } :: older)) w fun e u' w' =>
      e = .returned (.tuple #[]) ∧ u' = .panicking ({ v := .iface u pv, recovered := true } :: older) ∧ w' = w.setCell ⟨a, 0, none⟩ (.int .i64 140) := by
  refine callsD_of_wpS Try.func45 rfl fun c₀ cs hu => ?_
  apply wpS_seq
  apply wpS_region
  simp [wpOpsS, go_sem, recoverD, hu, Try.ntmps45, Exit.thenS]
  refine wpS_cond (t := true) (by simp [Act.eval, Array.replicate]) ?_
  simp only [if_true]
  apply wpS_region
  simp [wpOpsS, go_sem, ha, hza, bodyPostS, results, Try.results45]

set_option maxHeartbeats 1000000 in
set_option maxRecDepth 100000 in
theorem takeCatch_idle (p : Value) (w : World) :
    CallsD Try.prog 45 #[p] .returning w fun e u' w' => e = .returned (.tuple #[]) ∧ u' = .returning ∧ w' = w := by
  refine callsD_of_wpS Try.func45 rfl fun c₀ cs hu => ?_
  apply wpS_seq
  apply wpS_region
  simp [wpOpsS, go_sem, recoverD, hu, Try.ntmps45, Exit.thenS]
  refine wpS_cond (t := false) (by simp [Act.eval, Array.replicate]) ?_
  simp only [Bool.false_eq_true, if_false]
  refine wpS_of_wp (wp_skip ?_)
  cases c₀
  simp_all [bodyPostS, results, Try.results45]

theorem far2 (w : World) {a b : Nat} (o : Nat) (v : Value) (h : a ≠ b) : (w.setCell ⟨a, o, none⟩ v).cell? ⟨b, 0, none⟩ = w.cell? ⟨b, 0, none⟩ := by
  rw [World.cell?_setCell_other]
  intro e
  injection e with e1 e2
  first | exact h e1 | exact h e1.symm

/-- What put answers. -/
def putO (mark : ByteArray) (x : Option (List UInt8)) : Ending :=
  match x with
  | some bs => .returned (.tuple #[.string ⟨(mark.data.toList ++ bs).toArray⟩, .int .i64 0])
  | none => .returned (.tuple #[.string ⟨#[]⟩, .int .i64 1])

set_option maxHeartbeats 2000000 in
set_option maxRecDepth 100000 in
theorem put_c {w : World} {fs : List Fd} {ps : List (Cm.K × Cm.V)} {eb : Nat} (mark : ByteArray) (hm : mark.size = 1) (hW : WalkC w fs ps) (hE : Elems w eb fs) (hl : ps.length * 300000 ≤ 140737400000000) :
    Calls Try.prog 34 #[.string mark, .slice (some ⟨eb, 0, none⟩) fs.length fs.length] w fun e w' => e = putO mark (Cm.enc ps) ∧ Below w.heap.size w w' := by
  have hmf : ∀ (fn : Fn) (first cap : Array Value) (w : World), (Instr.makeFunc fn first cap).run Try.prog w = .ok (.func fn first cap) w := fun _ _ _ _ => rfl
  obtain ⟨u, hu⟩ : ∃ u, u = (w.alloc (.cells #[.string ⟨#[]⟩] 9)).alloc (.cells #[.int .i64 0] 28) := ⟨_, rfl⟩
  have hus : u.heap.size = w.heap.size + 2 := by rw [hu]; simp
  have hbu : Below w.heap.size w u := by rw [hu]; exact (alloc_below w _).alloc (by simp) _
  have hw0 : Wr (u.alloc (.cells #[.pointer none, .slice none 0 0] 96)) u.heap.size none [] := wr_new u
  have hbw : Below w.heap.size w (u.alloc (.cells #[.pointer none, .slice none 0 0] 96)) := hbu.alloc hbu.size _
  have hca : u.cell? ⟨w.heap.size, 0, none⟩ = some (.string ⟨#[]⟩) := by rw [hu]; simp [go_sem]
  have hcb : u.cell? ⟨w.heap.size + 1, 0, none⟩ = some (.int .i64 0) := by rw [hu]; simp [go_sem]
  have hza : u.frozen? ⟨w.heap.size, 0, none⟩ = false := by rw [hu]; simp [go_sem]
  have hzb : u.frozen? ⟨w.heap.size + 1, 0, none⟩ = false := by rw [hu]; simp [go_sem]
  have hlist : mark.data.toList.length = 1 := by rw [Array.length_toList]; exact hm
  have hel := hE.lt
  have HWr := hidden (wr_write hw0 mark (by simp; omega))
  have HF : Hid (∀ (g : Option Nat) (w1 : World), KeptO (WrO u.heap.size g) (u.alloc (.cells #[.pointer none, .slice none 0 0] 96)) w1 → (∀ k, g = some k → u.heap.size < k) → w1.cell? ⟨w.heap.size, 0, none⟩ = some (.string ⟨#[]⟩) ∧ w1.cell? ⟨w.heap.size + 1, 0, none⟩ = some (.int .i64 0) ∧ w1.frozen? ⟨w.heap.size, 0, none⟩ = false ∧ w1.frozen? ⟨w.heap.size + 1, 0, none⟩ = false ∧ Below w.heap.size w w1) := by
    intro g w1 hk hg
    have hn : ∀ j, j < u.heap.size → ¬ WrO u.heap.size g j := by
      rintro j hj (x | x)
      · omega
      · have := hg j x; omega
    have hA := alloc_below u (.cells #[.pointer none, .slice none 0 0] 96)
    refine ⟨?_, ?_, ?_, ?_, ?_⟩
    · rw [hk.cell (p := ⟨w.heap.size, 0, none⟩) (by simp; omega) (hn _ (by show w.heap.size < _; omega)), hA.cell (p := ⟨w.heap.size, 0, none⟩) (by show w.heap.size < _; omega)]; exact hca
    · rw [hk.cell (p := ⟨w.heap.size + 1, 0, none⟩) (by simp; omega) (hn _ (by show w.heap.size + 1 < _; omega)), hA.cell (p := ⟨w.heap.size + 1, 0, none⟩) (by show w.heap.size + 1 < _; omega)]; exact hcb
    · rw [hk.frozen (p := ⟨w.heap.size, 0, none⟩) (by simp; omega) (hn _ (by show w.heap.size < _; omega)), hA.frozen (p := ⟨w.heap.size, 0, none⟩) (by show w.heap.size < _; omega)]; exact hza
    · rw [hk.frozen (p := ⟨w.heap.size + 1, 0, none⟩) (by simp; omega) (hn _ (by show w.heap.size + 1 < _; omega)), hA.frozen (p := ⟨w.heap.size + 1, 0, none⟩) (by show w.heap.size + 1 < _; omega)]; exact hzb
    · exact hbw.trans ⟨hk.os, hk.tape, hk.output, hk.size, fun i hi => hk.block i (by simp; omega) (hn i (by omega))⟩
  obtain ⟨n, hn⟩ : ∃ n, n = fs.length := ⟨_, rfl⟩
  have HC : Hid (∀ (g : Option Nat) (w1 : World), Wr w1 u.heap.size g mark.data.toList → KeptO (WrO u.heap.size none) (u.alloc (.cells #[.pointer none, .slice none 0 0] 96)) w1 → Below w.heap.size w w1 → (∀ k, g = some k → u.heap.size < k) → Calls Try.prog 43 #[.iface 91 (.pointer (some ⟨u.heap.size, 0, none⟩)), .slice (some ⟨eb, 0, none⟩) n n] w1 (WOut w1 u.heap.size g mark.data.toList (Cm.enc ps))) := by
    intro g w1 h1 hk hb hg
    rw [hn]
    refine hW w1 u.heap.size g mark.data.toList eb hb h1 (by omega) (fun k hk => by have := hg k hk; omega) ?_ (by omega) (fun e => by have := hg _ e; omega) (by omega)
    unfold Elems
    rw [hb.block eb hel]
    exact hE
  have HU := hidden hus
  have HLM := hidden hlist
  rw [← hn]
  rw [hu] at HWr HF HC HU
  have hsz : ((w.alloc (.cells #[.string ⟨#[]⟩] 9)).alloc (.cells #[.int .i64 0] 28)).heap.size = w.heap.size + 2 := by rw [← hu]; exact hus
  rw [hsz] at HWr HF HC
  clear hw0 hbw hca hcb hza hzb hlist hel hbu hE hW hl hm hn hus hu hsz
  cases hq : Cm.enc ps with
  | none =>
    rw [hq] at HC
    unfold putO
    clear hq
    go_enter_defers Try.func34, Try.ntmps34
    go_wp2_with (first
      | (go_at_call 42; refine (HWr.out).mono ?_; rintro e w1 ⟨rfl, g1, hw1, hk1, hg1⟩; rw [List.nil_append] at hw1; have hg2 : ∀ k, g1 = some k → w.heap.size + 2 < k := (fun k hk => by rcases hg1 k hk with x | x; (· cases x); (· simp at x; omega)); have hbb := (HF.out none w1 hk1 (fun k x => by cases x)).2.2.2.2; have HN := hidden (HC.out g1 w1 hw1 hk1 hbb hg2); have HK1 := hidden hk1; have HG2 := hidden hg2; have HG1 := hidden hg1; clear hg1 hw1 hk1 hg2 hbb)
      | (go_at_call 43; refine (HN.out).mono ?_; rintro e w2 ⟨⟨t, v, rfl⟩, hk2⟩))
    have hkk : KeptO (WrO (w.heap.size + 2) g1) _ w2 := (HK1.out.mono (own' := WrO (w.heap.size + 2) g1) (fun k _ x => by rcases x with x | x; exact .inl x; cases x)).trans hk2 (fun _ _ x => x)
    obtain ⟨ca, cb, za, zb, hb⟩ := HF.out g1 w2 hkk HG2.out
    refine leaves_cons (f := 41) (args := #[.pointer (some ⟨w.heap.size, 0, none⟩), .pointer (some ⟨w.heap.size + 1, 0, none⟩)]) (by simp) (by simp [go_sem]) ?_
    refine (putCatch_panic w.heap.size (w.heap.size + 1) _ _ t v [] w2 ca za cb zb (by omega)).mono ?_
    rintro e u' w'' ⟨rfl, rfl, rfl⟩
    have cb2 : (w2.setCell ⟨w.heap.size, 0, none⟩ (.string ⟨#[]⟩)).cell? ⟨w.heap.size + 1, 0, none⟩ = some (.int .i64 0) := by rw [far2 _ _ _ (show w.heap.size ≠ w.heap.size + 1 by omega)]; exact cb
    have ca3 : ((w2.setCell ⟨w.heap.size, 0, none⟩ (.string ⟨#[]⟩)).setCell ⟨w.heap.size + 1, 0, none⟩ (.int .i64 1)).cell? ⟨w.heap.size, 0, none⟩ = some (.string ⟨#[]⟩) := by
      rw [far2 _ _ _ (show w.heap.size + 1 ≠ w.heap.size by omega)]
      exact World.cell?_setCell_same _ _ _ ca
    have cb3 : ((w2.setCell ⟨w.heap.size, 0, none⟩ (.string ⟨#[]⟩)).setCell ⟨w.heap.size + 1, 0, none⟩ (.int .i64 1)).cell? ⟨w.heap.size + 1, 0, none⟩ = some (.int .i64 1) := World.cell?_setCell_same _ _ _ cb2
    refine ⟨.tuple #[.string ⟨#[]⟩, .int .i64 1], ?_, rfl, (hb.setCell (Nat.le_refl _) _).setCell (by show w.heap.size ≤ w.heap.size + 1; omega) _⟩
    simp only [results, Try.results34]
    simp [go_sem, ca3, cb3]
  | some bs =>
    rw [hq] at HC
    unfold putO
    clear hq
    have HS : Hid (∀ (g2 : Option Nat) (w2 : World), Wr w2 (w.heap.size + 2) g2 (mark.data.toList ++ bs) → Calls Try.prog 44 #[.pointer (some ⟨w.heap.size + 2, 0, none⟩)] w2 fun e w' => e = .returned (.string ⟨(mark.data.toList ++ bs).toArray⟩) ∧ KeptO (WrO (w.heap.size + 2) g2) w2 w') := fun g2 w2 h => wr_string h (by
      intro e
      have := congrArg List.length e
      rw [List.length_append, HLM.out] at this
      simp at this)
    go_enter_defers Try.func34, Try.ntmps34
    go_wp2_with (first
      | (go_at_call 42; refine (HWr.out).mono ?_; rintro e w1 ⟨rfl, g1, hw1, hk1, hg1⟩; rw [List.nil_append] at hw1; have hg2 : ∀ k, g1 = some k → w.heap.size + 2 < k := (fun k hk => by rcases hg1 k hk with x | x; (· cases x); (· simp at x; omega)); have hbb := (HF.out none w1 hk1 (fun k x => by cases x)).2.2.2.2; have HN := hidden (HC.out g1 w1 hw1 hk1 hbb hg2); have HK1 := hidden hk1; have HG2 := hidden hg2; clear hg1 hw1 hk1 hg2)
      | (go_at_call 43; refine (HN.out).mono ?_; rintro e w2 ⟨rfl, g2, hw2, hk2, hg2⟩; have HST := hidden (HS.out g2 w2 hw2); have HK2 := hidden hk2; have HG3 : Hid (∀ k, g2 = some k → w.heap.size + 2 < k) := (fun k hk => by rcases hg2 k hk with x | x; (· exact HG2.out k x); (· have a1 := HK1.out.size; simp at a1; omega)); clear hw2 hk2 hg2)
      | (go_at_call 44; refine (HST.out).mono ?_; rintro e w3 ⟨rfl, hk3⟩; have hkk : KeptO (WrO (w.heap.size + 2) g2) _ w3 := ((HK1.out.mono (own' := fun j => WrO (w.heap.size + 2) g2 j ∨ WrO (w.heap.size + 2) g1 j) (fun k _ x => by rcases x with x | x; (· exact .inl (.inl x)); (· cases x))).trans HK2.out (fun _ _ x => .inr x) |>.trans hk3 (fun _ _ x => .inl x)).mono (fun k hk x => by rcases x with x | x | x; (· exact x); (· exact .inl x); (· have a1 := HG2.out k x; simp at hk; omega)); obtain ⟨ca, cb, za, zb, hb⟩ := HF.out g2 w3 hkk HG3.out; clear hkk hk3))
    refine leaves_cons (f := 41) (args := #[.pointer (some ⟨w.heap.size, 0, none⟩), .pointer (some ⟨w.heap.size + 1, 0, none⟩)]) (by simp) (by simp [go_sem]) ?_
    refine (putCatch_idle _ _ _).mono ?_
    rintro e u' w'' ⟨rfl, rfl, rfl⟩
    obtain ⟨sv, hsv⟩ : ∃ sv, sv = Value.string ⟨(mark.data.toList ++ bs).toArray⟩ := ⟨_, rfl⟩
    rw [← hsv]
    have cb2 : (w3.setCell ⟨w.heap.size, 0, none⟩ sv).cell? ⟨w.heap.size + 1, 0, none⟩ = some (.int .i64 0) := by rw [far2 _ _ _ (show w.heap.size ≠ w.heap.size + 1 by omega)]; exact cb
    have ca3 : ((w3.setCell ⟨w.heap.size, 0, none⟩ sv).setCell ⟨w.heap.size + 1, 0, none⟩ (.int .i64 0)).cell? ⟨w.heap.size, 0, none⟩ = some sv := by
      rw [far2 _ _ _ (show w.heap.size + 1 ≠ w.heap.size by omega)]
      exact World.cell?_setCell_same _ _ _ ca
    have cb3 : ((w3.setCell ⟨w.heap.size, 0, none⟩ sv).setCell ⟨w.heap.size + 1, 0, none⟩ (.int .i64 0)).cell? ⟨w.heap.size + 1, 0, none⟩ = some (.int .i64 0) := World.cell?_setCell_same _ _ _ cb2
    refine ⟨.tuple #[sv, .int .i64 0], ?_, rfl, (hb.setCell (Nat.le_refl _) _).setCell (by show w.heap.size ≤ w.heap.size + 1; omega) _⟩
    simp only [results, Try.results34]
    simp [go_sem, ca3, cb3]

end Go.Proofs.Ytnfjfhjhofaodaa
