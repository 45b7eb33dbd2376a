/-
  The meta group's machine: New, Owner, Waiting, Plan, what is made.
-/
import Derived.Test.YtepbmfjimppgcaaMeMem
import Derived.Test.YtepbmfjimppgcaaSlNew
namespace Go.Proofs.Ytepbmfjimppgcaa
open Go.RowKit

section
variable {w : World} {B n : Nat} {q : Me.St} {who : Nat → Nat}
theorem isMadeQ_c (h : Mt w B q who n) : Calls Try.prog 18 #[.pointer (some ⟨B, 0, none⟩)] w fun e w' => e = .returned (.bool true) ∧ w' = w := by
  obtain ⟨_, ob, tb, tm, wv, vb, eb, h⟩ := h
  have c1 := h.b.c1
  clear h
  go_enter Try.func18, Try.ntmps18
  go_wp2
  go_ret
  exact ⟨rfl, rfl⟩
theorem answerQ_c (a : Int) (w : World) : Calls Try.prog 20 #[.int .i64 a] w fun e w' => e = .returned (.agg #[.int .i64 a, .int .i64 0, .slice none 0 0]) ∧ Below w.heap.size w w' := by
  go_enter Try.func20, Try.ntmps20
  go_wp2
  refine bodyPost_ret (v := .agg #[.int .i64 a, .int .i64 0, .slice none 0 0]) ?qres rfl ?qpost
  case qres => simp [results, Try.results20, go_sem]
  case qpost => exact ⟨rfl, below_alloc _ _⟩
theorem WaitingQ_c (h : Mt w B q who n) : Calls Try.prog 13 #[.pointer (some ⟨B, 0, none⟩)] w fun e w' => e = .returned (.int .i64 (q.wait.length : Int)) ∧ w' = w := by
  have HM : Hid _ := isMadeQ_c h
  obtain ⟨_, ob, tb, tm, wv, vb, eb, h⟩ := h
  have c4 := h.b.c4
  obtain ⟨p, c, rfl, _⟩ := h.r.row.form
  clear h
  go_enter Try.func13, Try.ntmps13
  go_wp2_with fail
  refine Calls.mono HM.out ?_
  rintro e w1 ⟨rfl, hw1⟩
  have hw1 := hw1.symm
  subst hw1
  go_wp2
  go_ret
  exact ⟨rfl, rfl⟩
theorem firstQ_c (h : Mt w B q who n) (hn : n ≤ 1000000) : Calls Try.prog 27 #[.pointer (some ⟨B, 0, none⟩)] w fun e w' => e = .returned (.int .i64 ((q.ans : Int) + 1)) ∧ w' = w := by
  obtain ⟨h0, ob, tb, tm, wv, vb, eb, h⟩ := h
  have c3 := h.b.c3
  have ha := h0.ans
  clear h h0
  go_enter Try.func27, Try.ntmps27
  go_wp2
  go_ret
  exact ⟨by go_num, rfl⟩
theorem OwnerQ_out (h : Mt w B q who n) (a : Int) (ha : isSlot a = false) : Calls Try.prog 7 #[.pointer (some ⟨B, 0, none⟩), .int .i64 a] w fun e w' => e = .returned (.tuple #[.int .i64 0, .int .i64 0, .int .i64 1]) ∧ Below w.heap.size w w' := by
  have HM : Hid _ := isMadeQ_c h
  obtain ⟨_, ob, tb, tm, wv, vb, eb, h⟩ := h
  have c1 := h.b.c1
  have HO : Hid _ := OwnerS_out h.r.sm a ha
  clear h ha
  go_enter Try.func7, Try.ntmps7
  go_wp2_with fail
  refine Calls.mono HM.out ?_
  rintro e w1 ⟨rfl, hw1⟩
  have hw1 := hw1.symm
  subst hw1
  go_wp2_with fail
  refine Calls.mono HO.out ?_
  rintro e w2 ⟨rfl, hw2⟩
  have hw2 := hw2.symm
  subst hw2
  go_wp2
  go_ret3
  exact ⟨rfl, Below.refl _ _⟩
theorem OwnerQ_yes (h : Mt w B q who n) (i : Nat) (hi : i < 16) : Calls Try.prog 7 #[.pointer (some ⟨B, 0, none⟩), .int .i64 (i : Int)] w fun e w' => e = .returned (.tuple #[.int .i64 (q.own.O i : Int), .int .i64 (q.own.E i : Int), .int .i64 0]) ∧ Below w.heap.size w w' := by
  have HM : Hid _ := isMadeQ_c h
  obtain ⟨_, ob, tb, tm, wv, vb, eb, h⟩ := h
  have c1 := h.b.c1
  have HO : Hid _ := OwnerS_yes h.r.sm i hi
  clear h hi
  go_enter Try.func7, Try.ntmps7
  go_wp2_with fail
  refine Calls.mono HM.out ?_
  rintro e w1 ⟨rfl, hw1⟩
  have hw1 := hw1.symm
  subst hw1
  go_wp2_with fail
  refine Calls.mono HO.out ?_
  rintro e w2 ⟨rfl, hb⟩
  have HB : Hid _ := hb
  clear hb
  go_wp2
  go_ret3
  exact ⟨rfl, HB.out⟩
end
/-- The plan as a value. -/
def plV (p : Me.Pl) : Value := .agg #[.int .i64 p.plan, .int .i64 p.slot, .int .i64 p.frm, .int .i64 p.to, .int .i64 p.epoch, .bool p.frozen, .string p.data]
theorem PlanQ_c {w : World} {B n : Nat} {q : Me.St} {who : Nat → Nat} (h : Mt w B q who n) : Calls Try.prog 9 #[.pointer (some ⟨B, 0, none⟩)] w fun e w' => e = .returned (.tuple #[plV q.pl, .bool (q.pl.plan != 0)]) ∧ Below w.heap.size w w' := by
  obtain ⟨u, hu⟩ : ∃ u, u = w.alloc (.cells #[.int .i64 0, .int .i64 0, .int .i64 0, .int .i64 0, .int .i64 0, .bool false, .string ⟨#[]⟩] 41) := ⟨_, rfl⟩
  obtain ⟨b, hb⟩ : ∃ b, b = w.heap.size := ⟨_, rfl⟩
  have hbu : Below w.heap.size w u := by rw [hu]; exact below_alloc _ _
  have hcu : ∀ j, u.cell? ⟨b, j, none⟩ = (#[.int .i64 0, .int .i64 0, .int .i64 0, .int .i64 0, .int .i64 0, .bool false, .string ⟨#[]⟩] : Array Value)[j]? := fun j => by rw [hu, hb]; exact World.cell?_alloc_mark w _ _ _ j
  have hfu : ∀ j, u.frozen? ⟨b, j, none⟩ = false := fun j => by rw [hu, hb, World.frozen?_alloc_mark]; simp
  have HM : Hid _ := isMadeQ_c (h.below hbu)
  have HB : Hid (Below w.heap.size w u ∧ w.heap.size ≤ b) := ⟨hbu, by omega⟩
  have HE : Hid (∀ vs : List Value, vs.length = 7 → Below w.heap.size w (putS u b vs).drew ∧ ∀ j v, vs[j]? = some v → (putS u b vs).cell? ⟨b, j, none⟩ = some v) := fun vs hl => ⟨(putS_below hbu (by omega) vs).drew, fun j v hv => putS_at (fun j hj => ⟨by
    rw [hcu j]
    rw [Array.getElem?_eq_getElem (by show j < 7; omega)]
    rfl, hfu j⟩) hv⟩
  have hBb : b ≠ B := by have := h.lt; omega
  have hBb' : B ≠ b := by have := h.lt; omega
  obtain ⟨_, ob, tb, tm, wv, vb, eb, h⟩ := h.below hbu
  have c5 := h.b.c5
  have c6 := h.b.c6
  have c7 := h.b.c7
  have c8 := h.b.c8
  have c9 := h.b.c9
  have c10 := h.b.c10
  have c11 := h.b.c11
  have d0 := hcu 0
  have d1 := hcu 1
  have d2 := hcu 2
  have d3 := hcu 3
  have d4 := hcu 4
  have d5 := hcu 5
  have d6 := hcu 6
  have f0 := hfu 0
  have f1 := hfu 1
  have f2 := hfu 2
  have f3 := hfu 3
  have f4 := hfu 4
  have f5 := hfu 5
  have f6 := hfu 6
  simp at d0 d1 d2 d3 d4 d5 d6
  clear h hcu hfu hbu
  unfold plV
  generalize q.pl.plan = p0 at *
  generalize q.pl.slot = p1 at *
  generalize q.pl.frm = p2 at *
  generalize q.pl.to = p3 at *
  generalize q.pl.epoch = p4 at *
  generalize q.pl.frozen = p5 at *
  generalize q.pl.data = p6 at *
  go_enter Try.func9, Try.ntmps9
  go_wp2_with fail
  rw [← hu]
  try rw [← hb]
  clear hu hb
  refine Calls.mono HM.out ?_
  rintro e w1 ⟨rfl, hw1⟩
  have hw1 := hw1.symm
  subst hw1
  go_wp2
  go_region
  clear c5 c6 c7 c8 c9 c10 c11 d0 d1 d2 d3 d4 d5 d6
  obtain ⟨F, hF⟩ : ∃ F, F = putS u b [.int .i64 p0, .int .i64 p1, .int .i64 p2, .int .i64 p3, .int .i64 p4, .bool p5, .string p6] := ⟨_, rfl⟩
  obtain ⟨hb1, hc⟩ := HE.out [.int .i64 p0, .int .i64 p1, .int .i64 p2, .int .i64 p3, .int .i64 p4, .bool p5, .string p6] rfl
  rw [← hF] at hb1 hc
  have x0 := hc 0 _ rfl
  have x1 := hc 1 _ rfl
  have x2 := hc 2 _ rfl
  have x3 := hc 3 _ rfl
  have x4 := hc 4 _ rfl
  have x5 := hc 5 _ rfl
  have x6 := hc 6 _ rfl
  have HR : Hid (Below w.heap.size w F.drew) := hb1
  have hFe : F = ((((((u.setCell ⟨b, 0, none⟩ (.int .i64 p0)).setCell ⟨b, 1, none⟩ (.int .i64 p1)).setCell ⟨b, 2, none⟩ (.int .i64 p2)).setCell ⟨b, 3, none⟩ (.int .i64 p3)).setCell ⟨b, 4, none⟩ (.int .i64 p4)).setCell ⟨b, 5, none⟩ (.bool p5)).setCell ⟨b, 6, none⟩ (.string p6) := hF
  clear hc hb1 hF
  go_wp2
  rw [← hFe]
  refine bodyPost_ret (v := .tuple #[.agg #[.int .i64 p0, .int .i64 p1, .int .i64 p2, .int .i64 p3, .int .i64 p4, .bool p5, .string p6], .bool (p0 != 0)]) ?qres rfl ?qpost
  case qres => simp [results, Try.results9, go_sem, x0, x1, x2, x3, x4, x5, x6]
  case qpost => exact ⟨rfl, HR.out⟩

def newC (k ob tb : Nat) : Array Value := #[.int .i64 (k : Int), .pointer (some ⟨ob, 0, none⟩), .pointer (some ⟨tb, 0, none⟩), .int .i64 0, .slice none 0 0, .int .i64 0, .int .i64 0, .int .i64 0, .int .i64 0, .int .i64 0, .bool false, .string ⟨#[]⟩]
def newWho (B ob tb tm : Nat) : Nat → Nat := fun k => if k = B then 1 else if k = ob then 2 else if k = tb then 3 else if k = tm then 4 else 0
/-- A machine that New gives. -/
theorem NewQ_c (w : World) (k : Nat) (hk : 1 ≤ k ∧ k ≤ 8) : Calls Try.prog 6 #[.int .i64 (k : Int)] w fun e w' => ∃ B who, e = .returned (.tuple #[.pointer (some ⟨B, 0, none⟩), .int .i64 0]) ∧ Mt w' B (Me.new k) who 0 ∧ (∀ i, who i ≠ 0 → w.heap.size ≤ i) ∧ Below w.heap.size w w' := by
  have HN : Hid _ := NewS_yes w k hk
  have HK : Hid (1 ≤ k ∧ k ≤ 8) := hk
  clear hk
  go_enter Try.func6, Try.ntmps6
  go_wp2_with fail
  refine Calls.mono HN.out ?_
  rintro e w1 ⟨rfl, hsm, hb1⟩
  have HS : Hid _ := hsm
  have HB1 : Hid _ := hb1
  clear hsm hb1
  go_wp2_with fail
  refine Calls.mono (NewT_c w1) ?_
  rintro e w2 ⟨rfl, ht⟩
  have HT : Hid _ := ht
  clear ht
  obtain ⟨w3, h3⟩ : ∃ w3, w3 = w2.alloc (.cells (newC k w.heap.size (w1.heap.size + 1)) 65) := ⟨_, rfl⟩
  have hR : Mt w3 w2.heap.size (Me.new k) (newWho w2.heap.size w.heap.size (w1.heap.size + 1) w1.heap.size) 0 ∧ Below w.heap.size w w3 := by
    obtain ⟨ht, hb2⟩ := HT.out
    have hs := HS.out
    have hb1 := HB1.out
    have z1 := hb1.size
    have z2 := hb2.size
    have hlt := ht.lt
    have hls := hs.lt
    have hb3 : Below w2.heap.size w2 w3 := by rw [h3]; exact below_alloc _ _
    have z3 : w3.heap.size = w2.heap.size + 1 := by rw [h3]; simp
    have hc : ∀ j, w3.cell? ⟨w2.heap.size, j, none⟩ = (newC k w.heap.size (w1.heap.size + 1))[j]? := fun j => by rw [h3]; exact World.cell?_alloc_mark w2 _ _ _ j
    refine ⟨⟨Me.Ok.new HK.out, w.heap.size, w1.heap.size + 1, w1.heap.size, .slice none 0 0, fun _ => 0, fun _ => 0, ⟨hc 0, hc 1, hc 2, hc 3, hc 4, hc 5, hc 6, hc 7, hc 8, hc 9, hc 10, hc 11, fun j => ?_⟩, ⟨(hs.below hb2).below hb3, ht.below hb3, RowC.nil _ _ _, fun i t h => by simp [Me.new] at h, ?_, ?_, ?_, fun k h => by simp [cBlk] at h, fun i hi => ?_⟩, ?_⟩, (hb1.trans (hb2.mono hb1.size)).trans (hb3.mono (by omega))⟩
    · rw [h3, World.frozen?_alloc_mark]; simp
    · unfold newWho; rw [if_neg (by omega), if_pos rfl]
    · unfold newWho; rw [if_neg (by omega), if_neg (by omega), if_pos rfl]
    · unfold newWho; rw [if_neg (by omega), if_neg (by omega), if_neg (by omega), if_pos rfl]
    · unfold newWho at hi
      rw [z3]
      split at hi
      · omega
      · split at hi
        · omega
        · split at hi
          · omega
          · split at hi
            · omega
            · exact absurd rfl hi
    · unfold newWho; rw [if_pos rfl]
  have HR : Hid _ := hR
  have HW : Hid (∀ i, newWho w2.heap.size w.heap.size (w1.heap.size + 1) w1.heap.size i ≠ 0 → w.heap.size ≤ i) := fun i hi => by
    have z1 := HB1.out.size
    have z2 := HT.out.2.size
    unfold newWho at hi
    split at hi
    · omega
    · split at hi
      · omega
      · split at hi
        · omega
        · split at hi
          · omega
          · exact absurd rfl hi
  have h3e : w3 = w2.alloc (.cells #[.int .i64 (k : Int), .pointer (some ⟨w.heap.size, 0, none⟩), .pointer (some ⟨w1.heap.size + 1, 0, none⟩), .int .i64 0, .slice none 0 0, .int .i64 0, .int .i64 0, .int .i64 0, .int .i64 0, .int .i64 0, .bool false, .string ⟨#[]⟩] 65) := h3
  clear hR h3
  go_wp2
  rw [← h3e]
  go_ret2
  exact ⟨_, _, rfl, HR.out.1, HW.out, HR.out.2⟩
end Go.Proofs.Ytepbmfjimppgcaa
