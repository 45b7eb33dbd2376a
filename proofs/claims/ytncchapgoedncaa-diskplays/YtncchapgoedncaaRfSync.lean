/-
  The document's disk while a loop lays it anew; what its Sync gives.
-/
import Derived.Test.YtncchapgoedncaaRfSwap
import Derived.StillTailTactics
namespace Go.Proofs.Ytncchapgoedncaa
open Go.RowKit

/-- A region that reads, then goes on in the order of the text. -/
theorem wp_tail {P : Program} {id : Nat} {Q : Exit → Act → World → Prop} {a : Act} {w : World} {l : List Oper} (n : Nat) (hm : P.follows .mixedOrders = true) (hB : Region.lexTailB .any l.toArray n = true)
    (h : wpStill P l.toArray w.drew (fun a' => wpList P l.toArray Q (l.drop n) a' w.drew) (l.take n) a) : (Code.region id l.toArray true).wp P Q a w := wp_region_still_tail n hm hB h

/-- While a loop of the document's lays the disk anew: it lies in block a, its result's block behind it. -/
structure GS (w W : World) (a room g1 g2 c1 c2 : Nat) (T : Nat → ByteArray) (S : Nat → Nat) : Prop where
  ga : GA w W a room g1 g2 c1 c2 T S
  fa : ∀ o, o < 3 → W.frozen? ⟨a, o, none⟩ = false
  n1 : g1 ≠ a ∧ g1 ≠ a + 1
  n2 : g2 ≠ a ∧ g2 ≠ a + 1
  at_ : w.heap.size ≤ a

theorem gs_begin {w : World} {v : Value} {room g1 g2 c1 c2 : Nat} {T : Nat → ByteArray} {S : Nat → Nat} (h : Rf w v room T S g1 g2 c1 c2) :
    ∃ a w2, a = w.heap.size ∧ w2 = (w.alloc (.cells #[.int .i64 (room : Int), .slice (some ⟨g1, 0, none⟩) 256 c1, .slice (some ⟨g2, 0, none⟩) 256 c2] 30)).alloc (.cells #[.int .i64 0, .slice none 0 0, .slice none 0 0] 30) ∧ GS w w2 a room g1 g2 c1 c2 T S := by
  obtain ⟨a, w2, ha, hw2, hg, h1, h2⟩ := ga_begin h
  refine ⟨a, w2, ha, hw2, hg, fun o ho => ?_, by omega, by omega, by omega⟩
  rw [hw2, ha]
  have : o = 0 ∨ o = 1 ∨ o = 2 := by omega
  rcases this with rfl | rfl | rfl <;> simp [go_sem]

theorem GS.below {w W W' : World} {a room g1 g2 c1 c2 : Nat} {T : Nat → ByteArray} {S : Nat → Nat} (h : GS w W a room g1 g2 c1 c2 T S) (hb : Below W.heap.size W W') : GS w W' a room g1 g2 c1 c2 T S :=
  ⟨h.ga.below hb, fun o ho => by rw [hb.frozen (p := ⟨a, o, none⟩) (by have := h.ga.lt; show a < _; omega)]; exact h.fa o ho, h.n1, h.n2, h.at_⟩

theorem set3_at {W : World} {b : Nat} {u0 u1 u2 : Value} (x y z : Value) (h0 : W.cell? ⟨b, 0, none⟩ = some u0) (h1 : W.cell? ⟨b, 1, none⟩ = some u1) (h2 : W.cell? ⟨b, 2, none⟩ = some u2) :
    (set3 W b x y z).cell? ⟨b, 0, none⟩ = some x ∧ (set3 W b x y z).cell? ⟨b, 1, none⟩ = some y ∧ (set3 W b x y z).cell? ⟨b, 2, none⟩ = some z := by
  have n01 : (⟨b, 0, none⟩ : Addr) ≠ ⟨b, 1, none⟩ := by intro e; injection e; omega
  have n02 : (⟨b, 0, none⟩ : Addr) ≠ ⟨b, 2, none⟩ := by intro e; injection e; omega
  have n12 : (⟨b, 1, none⟩ : Addr) ≠ ⟨b, 2, none⟩ := by intro e; injection e; omega
  unfold set3
  refine ⟨?_, ?_, ?_⟩
  · rw [World.cell?_setCell_other _ _ _ _ n02.symm, World.cell?_setCell_other _ _ _ _ n01.symm, World.cell?_setCell_same _ _ _ h0]
  · rw [World.cell?_setCell_other _ _ _ _ n12.symm, World.cell?_setCell_same _ _ _ (by rw [World.cell?_setCell_other _ _ _ _ n01]; exact h1)]
  · rw [World.cell?_setCell_same _ _ _ (by rw [World.cell?_setCell_other _ _ _ _ n12, World.cell?_setCell_other _ _ _ _ n02]; exact h2)]

theorem set3_frozen (W : World) (b : Nat) (x y z : Value) (p : Addr) : (set3 W b x y z).frozen? p = W.frozen? p := by simp [set3]

/-- The disk is laid anew. -/
theorem GS.put {w W : World} {a room g1 g2 c1 c2 r1 r2 q1 q2 : Nat} {T T' : Nat → ByteArray} {S S' : Nat → Nat} (h : GS w W a room g1 g2 c1 c2 T S)
    (hr : Rf W (.agg #[.int .i64 (room : Int), .slice (some ⟨r1, 0, none⟩) 256 q1, .slice (some ⟨r2, 0, none⟩) 256 q2]) room T' S' r1 r2 q1 q2) (h1 : a + 1 < r1 ∧ a + 1 < r2) :
    GS w (set3 W a (.int .i64 (room : Int)) (.slice (some ⟨r1, 0, none⟩) 256 q1) (.slice (some ⟨r2, 0, none⟩) 256 q2)) a room r1 r2 q1 q2 T' S' := by
  obtain ⟨y0, y1, y2⟩ := set3_at (.int .i64 (room : Int)) (.slice (some ⟨r1, 0, none⟩) 256 q1) (.slice (some ⟨r2, 0, none⟩) 256 q2) h.ga.x0 h.ga.x1 h.ga.x2
  have hat := h.at_
  refine ⟨⟨set3_below h.ga.bel hat _ _ _, by rw [set3_size]; exact h.ga.lt, y0, y1, y2, ?_, ?_, ?_, fun o ho => by rw [set3_frozen]; exact h.ga.f o ho, hr.set3 _ _ _ (by omega) (by omega)⟩, fun o ho => by rw [set3_frozen]; exact h.fa o ho, by omega, by omega, hat⟩
  · rw [set3_cell _ _ _ _ (by omega)]; exact h.ga.z0
  · rw [set3_cell _ _ _ _ (by omega)]; exact h.ga.z1
  · rw [set3_cell _ _ _ _ (by omega)]; exact h.ga.z2

/-- 'with' while such a loop runs. -/
theorem GS.with_ {w W : World} {a room g1 g2 c1 c2 : Nat} {T : Nat → ByteArray} {S : Nat → Nat} (h : GS w W a room g1 g2 c1 c2 T S) (i : Nat) (hi : i < 256) (s : ByteArray) (n : Nat) :
    Calls Try.prog 29 #[.agg #[.int .i64 (room : Int), .slice (some ⟨g1, 0, none⟩) 256 c1, .slice (some ⟨g2, 0, none⟩) 256 c2], .int .i64 (i : Int), .string s, .int .i64 (n : Int)] W fun e w' =>
      ∃ r1 r2 q1 q2, e = .returned (.agg #[.int .i64 (room : Int), .slice (some ⟨r1, 0, none⟩) 256 q1, .slice (some ⟨r2, 0, none⟩) 256 q2]) ∧
        GS w (set3 w' a (.int .i64 (room : Int)) (.slice (some ⟨r1, 0, none⟩) 256 q1) (.slice (some ⟨r2, 0, none⟩) 256 q2)) a room r1 r2 q1 q2 (upd T i s) (upd S i n) ∧
        w'.cell? ⟨a, 0, none⟩ = some (.int .i64 (room : Int)) ∧ w'.cell? ⟨a, 1, none⟩ = some (.slice (some ⟨g1, 0, none⟩) 256 c1) ∧ w'.cell? ⟨a, 2, none⟩ = some (.slice (some ⟨g2, 0, none⟩) 256 c2) ∧ (∀ o, o < 3 → w'.frozen? ⟨a, o, none⟩ = false) ∧ a < r1 ∧ a < r2 := by
  refine (ref_with h.ga.rf i hi s n).mono ?_
  rintro e w' ⟨v', r1, r2, q1, q2, rfl, h1, h2, h3, hb⟩
  have hf := h1.form
  have hl := h.ga.lt
  subst hf
  have hg := h.below hb
  exact ⟨r1, r2, q1, q2, rfl, hg.put h1 ⟨by omega, by omega⟩, hg.ga.x0, hg.ga.x1, hg.ga.x2, hg.fa, by omega, by omega⟩

/-- Of the first k files all bytes are sure. -/
def syncS (T : Nat → ByteArray) (S : Nat → Nat) (k : Nat) : Nat → Nat := fun j => if j < k then (T j).size else S j
theorem syncS_zero (T : Nat → ByteArray) (S : Nat → Nat) : syncS T S 0 = S := by funext j; simp [syncS]
theorem syncS_next (T : Nat → ByteArray) (S : Nat → Nat) (k : Nat) : upd (syncS T S k) k (T k).size = syncS T S (k + 1) := by
  funext j
  unfold upd syncS
  by_cases e : j = k
  · subst e; simp
  · rw [if_neg e]
    by_cases h : j < k
    · rw [if_pos h, if_pos (by omega)]
    · rw [if_neg h, if_neg (by omega)]
theorem syncS_at (T : Nat → ByteArray) (S : Nat → Nat) (k : Nat) : syncS T S k k = S k := by simp [syncS]

set_option maxHeartbeats 1000000 in
set_option maxRecDepth 20000 in
theorem ref_Sync {w : World} {v : Value} {room g1 g2 c1 c2 : Nat} {T : Nat → ByteArray} {S : Nat → Nat} (h : Rf w v room T S g1 g2 c1 c2) (hle : ∀ i, i < 256 → S i ≤ (T i).size) :
    Calls Try.prog 20 #[v] w fun e w' => ∃ v' g1' g2' c1' c2', e = .returned v' ∧ Rf w' v' room T (syncS T S 256) g1' g2' c1' c2' ∧ (g1' = g1 ∨ w.heap.size ≤ g1') ∧ (g2' = g2 ∨ w.heap.size ≤ g2') ∧ Below w.heap.size w w' := by
  obtain ⟨a, w2, ha, hw2, hg⟩ := gs_begin h
  have hform := h.form
  subst hform
  have HL : Hid (∀ i, i < 256 → S i ≤ (T i).size) := hle
  have HG : Hid (GS w w2 a room g1 g2 c1 c2 T (syncS T S 0)) := by unfold Hid; rw [syncS_zero]; exact hg
  have Ha : Hid (a = w.heap.size) := ha
  clear h hg hle
  go_enter Try.func20, Try.ntmps20
  go_wp2
  rw [← hw2, ← ha]
  clear hw2 ha
  go_loopw [3] (fun i wr => ∃ k p1 p2 k1 k2 : Nat, k ≤ 256 ∧ i = .int .i64 (k : Int) ∧ Hid (GS w wr a room p1 p2 k1 k2 T (syncS T S k)) ∧ Hid ((p1 = g1 ∨ w.heap.size ≤ p1) ∧ (p2 = g2 ∨ w.heap.size ≤ p2))) (fun i _ => 256 - (intOf i).toNat)
  case atStart => exact ⟨0, g1, g2, c1, c2, by omega, rfl, HG, ⟨.inl rfl, .inl rfl⟩⟩
  case round =>
    obtain ⟨k, p1, p2, k1, k2, hk, rfl, hgs, hpp⟩ := hrel
    clear HG
    by_cases hlt : k < 256
    · have x1 := hgs.out.ga.x1
      have x2 := hgs.out.ga.x2
      have ct := hgs.out.ga.rf.t k hlt
      have cs := hgs.out.ga.rf.s k hlt
      rw [syncS_at] at cs
      obtain ⟨st, hst⟩ : ∃ st, st = T k := ⟨_, rfl⟩
      obtain ⟨su, hsu⟩ : ∃ su, su = S k := ⟨_, rfl⟩
      rw [← hst] at ct
      rw [← hsu] at cs
      have HST : Hid (st = T k) := hst
      have HSU : Hid (su = S k) := hsu
      clear hst hsu
      have hi1 : (0 : Int) ≤ (k : Int) := by omega
      have hi2 : (k : Int) < 256 := by omega
      by_cases hs : su < st.size
      · have t1 : decide ((su : Int) < (st.size : Int)) = true := decide_eq_true (by omega)
        go_wp2
        go_quiet (fail)
        have hb3 : Below wr.heap.size wr (wr.drewN nq) := ⟨rfl, rfl, rfl, Nat.le_refl _, fun _ _ => rfl⟩
        have hg3 := hgs.out.below hb3
        obtain ⟨W3, hW3⟩ : ∃ W3, W3 = wr.drewN nq := ⟨_, rfl⟩
        rw [← hW3] at hg3 ⊢
        clear hW3 hb3 x1 x2 ct cs
        have x0 := hg3.ga.x0
        have x1 := hg3.ga.x1
        have x2 := hg3.ga.x2
        have ct := hg3.ga.rf.t k hlt
        rw [← HST.out] at ct
        have HN : Hid (upd T k st = T ∧ upd (syncS T S k) k st.size = syncS T S (k + 1)) := by
          refine ⟨by rw [HST.out]; exact upd_self T k, by rw [HST.out]; exact syncS_next T S k⟩
        have HG3 : Hid _ := hg3.below (Below.refl _ _).drew
        clear hg3
        go_wp2
        refine wp_tail 13 (by kernel_rfl) (by kernel_rfl) ?_
        simp only [List.take_succ_cons, List.take_zero, List.drop_succ_cons, List.drop_zero]
        repeat still_step
        try refine wpStill_nil ?_
        go_wp2_with fail
        refine (HG3.out.with_ k hlt st st.size).mono ?_
        rintro e w6 ⟨r1, r2, q1, q2, rfl, hg6, z0, z1, z2, ff, hr1, hr2⟩
        have f0 := ff 0 (by omega)
        have f1 := ff 1 (by omega)
        have f2 := ff 2 (by omega)
        rw [HN.out.1, HN.out.2] at hg6
        have HG6 : Hid _ := hg6
        have HR : Hid ((r1 = g1 ∨ w.heap.size ≤ r1) ∧ (r2 = g2 ∨ w.heap.size ≤ r2)) := by
          have q' := hg6.at_
          exact ⟨.inr (by omega), .inr (by omega)⟩
        clear hg6 ff hr1 hr2
        go_wp2
        go_roundw
        case rel => exact ⟨k + 1, r1, r2, q1, q2, by omega, by go_num, HG6, HR⟩
        case measure => simp [intOf]; omega
      · have t1 : decide ((su : Int) < (st.size : Int)) = false := decide_eq_false (by omega)
        have HN : Hid (syncS T S k = syncS T S (k + 1)) := by
          unfold Hid
          have e : st.size = su := by have := HL.out k hlt; rw [← HST.out, ← HSU.out] at this; omega
          rw [← syncS_next T S k, ← HST.out, e, HSU.out, ← syncS_at T S k, upd_self]
        go_wp2
        go_quiet (fail)
        have hb3 : Below wr.heap.size wr (wr.drewN nq) := ⟨rfl, rfl, rfl, Nat.le_refl _, fun _ _ => rfl⟩
        have hg3 := hgs.out.below hb3
        rw [HN.out] at hg3
        have HG3 : Hid _ := hg3
        clear hg3 hb3
        go_wp2
        go_roundw
        case rel => exact ⟨k + 1, p1, p2, k1, k2, by omega, by go_num, HG3, hpp⟩
        case measure => simp [intOf]; omega
    · obtain rfl : k = 256 := by omega
      have x0 := hgs.out.ga.x0
      have x1 := hgs.out.ga.x1
      have x2 := hgs.out.ga.x2
      have z0 := hgs.out.ga.z0
      have z1 := hgs.out.ga.z1
      have z2 := hgs.out.ga.z2
      have f0 := hgs.out.ga.f 0 (by omega)
      have f1 := hgs.out.ga.f 1 (by omega)
      have f2 := hgs.out.ga.f 2 (by omega)
      go_wp2
      refine bodyPost_ret (v := .agg #[.int .i64 (room : Int), .slice (some ⟨p1, 0, none⟩) 256 k1, .slice (some ⟨p2, 0, none⟩) 256 k2]) ?qres rfl ?qpost
      case qres => simp [results, Try.results20, go_sem, z0, z1, z2]
      case qpost =>
        have e := Ha.out
        have h1 := hgs.out.n1
        have h2 := hgs.out.n2
        exact ⟨_, p1, p2, k1, k2, rfl, hgs.out.ga.rf.set3 _ _ _ h1.2 h2.2, hpp.out.1, hpp.out.2, set3_below hgs.out.ga.bel (by omega) _ _ _⟩

end Go.Proofs.Ytncchapgoedncaa
