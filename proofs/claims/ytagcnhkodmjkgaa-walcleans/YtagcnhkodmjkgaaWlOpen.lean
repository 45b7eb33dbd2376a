/-
  Open. Open, of a disk.
-/
import Derived.Test.YtagcnhkodmjkgaaWlLoad
import Derived.Test.YtagcnhkodmjkgaaDkNew
namespace Go.Proofs.Ytagcnhkodmjkgaa
open Go.RowKit

/-- The cells of a new log. -/
def logCells (b K : Nat) (lim : Int) : Array Value := #[.pointer (some ⟨b, 0, none⟩), .int .i64 lim, .map (some K)] ++ ((List.range 9).flatMap fun _ => [Value.int .i64 0, .int .i64 0, .int .i64 0, .int .i64 0, .string ⟨#[]⟩, .slice none 0 0]).toArray ++ #[.int .i64 0, .int .i64 0]

theorem run_build_log (b K : Nat) (lim : Int) (w : World) : (Instr.build 74 #[(0, .pointer (some ⟨b, 0, none⟩)), (1, .int .i64 lim), (2, .map (some K))]).run Try.prog w = .ok (.agg (logCells b K lim)) w := by kernel_rfl

theorem wpList_build_log {w : World} {ops : Array Oper} {rest : List Oper} {o : Oper} {a : Act} {Q : Exit → Act → World → Prop} (b K : Nat) (lim : Int) (hgd : o.guard = none) (x y z : Operand)
    (ho : o.op = .build 74 #[(0, x), (1, y), (2, z)]) (hx : a.eval x = .pointer (some ⟨b, 0, none⟩)) (hy : a.eval y = .int .i64 lim) (hz : a.eval z = .map (some K)) (h : wpList Try.prog ops Q rest (a.put o.dst (.agg (logCells b K lim))) w) : wpList Try.prog ops Q (o :: rest) a w := by
  refine wpList_plain hgd fun _ hK => ?_
  unfold Oper.wp execOp
  simp only [ho, List.map_toArray, List.map_cons, List.map_nil, hx, hy, hz, Sem.run_bind, Sem.run_pure, Result.andThen_ok, run_build_log]
  exact hK _ _ h

theorem logCells_at (b K : Nat) (lim : Int) : (logCells b K lim)[0]? = some (.pointer (some ⟨b, 0, none⟩)) ∧ (logCells b K lim)[1]? = some (.int .i64 lim) ∧ (logCells b K lim)[2]? = some (.map (some K)) ∧ (logCells b K lim)[57]? = some (.int .i64 0) ∧ (logCells b K lim)[58]? = some (.int .i64 0) := ⟨by kernel_rfl, by kernel_rfl, by kernel_rfl, by kernel_rfl, by kernel_rfl⟩
theorem logCells_sv (b K : Nat) (lim : Int) : ∀ i, i < 9 → (logCells b K lim)[3 + i * 6]? = some (.int .i64 0) ∧ (logCells b K lim)[3 + i * 6 + 1]? = some (.int .i64 0) ∧ (logCells b K lim)[3 + i * 6 + 2]? = some (.int .i64 0) ∧ (logCells b K lim)[3 + i * 6 + 3]? = some (.int .i64 0) ∧ (logCells b K lim)[3 + i * 6 + 4]? = some (.string ⟨#[]⟩) ∧ (logCells b K lim)[3 + i * 6 + 5]? = some (.slice none 0 0) := by
  intro i hi
  match i, hi with
  | 0, _ => exact ⟨by kernel_rfl, by kernel_rfl, by kernel_rfl, by kernel_rfl, by kernel_rfl, by kernel_rfl⟩
  | 1, _ => exact ⟨by kernel_rfl, by kernel_rfl, by kernel_rfl, by kernel_rfl, by kernel_rfl, by kernel_rfl⟩
  | 2, _ => exact ⟨by kernel_rfl, by kernel_rfl, by kernel_rfl, by kernel_rfl, by kernel_rfl, by kernel_rfl⟩
  | 3, _ => exact ⟨by kernel_rfl, by kernel_rfl, by kernel_rfl, by kernel_rfl, by kernel_rfl, by kernel_rfl⟩
  | 4, _ => exact ⟨by kernel_rfl, by kernel_rfl, by kernel_rfl, by kernel_rfl, by kernel_rfl, by kernel_rfl⟩
  | 5, _ => exact ⟨by kernel_rfl, by kernel_rfl, by kernel_rfl, by kernel_rfl, by kernel_rfl, by kernel_rfl⟩
  | 6, _ => exact ⟨by kernel_rfl, by kernel_rfl, by kernel_rfl, by kernel_rfl, by kernel_rfl, by kernel_rfl⟩
  | 7, _ => exact ⟨by kernel_rfl, by kernel_rfl, by kernel_rfl, by kernel_rfl, by kernel_rfl, by kernel_rfl⟩
  | 8, _ => exact ⟨by kernel_rfl, by kernel_rfl, by kernel_rfl, by kernel_rfl, by kernel_rfl, by kernel_rfl⟩

/-- The groups while their votes are set: the first k have none. -/
def gsTo (k : Nat) : Nat → W.Sv := fun i => if k ≤ i ∧ i < 9 then { W.new with vote := 0 } else W.new
theorem gsTo_ok (k : Nat) : ∀ i, W.Ok (gsTo k i) := by
  intro i
  unfold gsTo
  split
  · exact ⟨by decide, by decide, by decide, by decide, by decide, by decide, trivial⟩
  · exact W.ok_new
theorem gsTo_all : gsTo 9 = fun _ => W.new := by
  funext i
  unfold gsTo
  rw [if_neg (by omega)]
theorem gsTo_ents (k i : Nat) : (gsTo k i).ents = [] := by unfold gsTo; split <;> rfl

/-- A log that Open has just laid. -/
theorem begun_log {w : World} {b room : Nat} {A : Nat → List UInt8} {S : Nat → Nat} {dk : Nat → Prop} (h : Dk w b room A S dk) (hdk : ∀ k, dk k → k < w.heap.size) (lim : Nat) (hl : 1 ≤ lim ∧ lim ≤ 16777216) :
    Aft (fun k => k = b ∨ dk k) w ((w.alloc kindMap).alloc (.cells (logCells b w.heap.size lim) 74)) ⟨w.heap.size + 1, b, w.heap.size, lim, room⟩ ⟨A, S, gsTo 0, 0, 0⟩ := by
  obtain ⟨u, hu⟩ : ∃ u, u = (w.alloc kindMap).alloc (.cells (logCells b w.heap.size lim) 74) := ⟨_, rfl⟩
  have hus : u.heap.size = w.heap.size + 2 := by rw [hu]; simp
  have hB : Below w.heap.size w u := by rw [hu]; exact (below_alloc _ _).trans ((below_alloc _ _).mono (by simp))
  have hc : ∀ j, u.cell? ⟨w.heap.size + 1, j, none⟩ = (logCells b w.heap.size lim)[j]? := by
    intro j
    have e := World.cell?_alloc_mark (w.alloc kindMap) (logCells b w.heap.size lim) 74 (0, 0) j
    rw [← e, hu]
    simp
  have hf : ∀ j, u.frozen? ⟨w.heap.size + 1, j, none⟩ = false := by
    intro j
    rw [hu]
    simp [go_sem]
  have hK : u.heap[w.heap.size]? = some kindMap := by
    rw [hu, Below.heap_alloc _ _ _ (by simp)]
    exact heap_alloc_new w _
  rw [← hu]
  obtain ⟨a0, a1, a2, a57, a58⟩ := logCells_at b w.heap.size lim
  refine ⟨⟨dk, fun _ => .slice none 0 0, ⟨by show _ < u.heap.size; rw [hus]; exact Nat.lt_succ_self _, by rw [hc]; exact a0, by rw [hc]; exact a1, by rw [hc]; exact a2, hK, ?_, by rw [hc]; exact a57, by rw [hc]; exact a58, hf 57, hf 58, ?_, ?_, ?_, h.below hB, ?_, .inl (.inl rfl), ?_, fun k q => .inl (.inr q), ?_, ?_, ?_, by show w.heap.size + 1 ≠ w.heap.size; omega, ?_, ?_, gsTo_ok 0, Nat.zero_le _, Nat.zero_le _, hl⟩⟩, KeptS.ofBelow hB⟩
  · intro i hi
    obtain ⟨b0, b1, b2, b3, b4, b5⟩ := logCells_sv b w.heap.size lim i hi
    have e : gsTo 0 i = { W.new with vote := 0 } := by unfold gsTo; rw [if_pos ⟨by omega, hi⟩]
    show SvC u (w.heap.size + 1) (3 + i * 6) (gsTo 0 i) (.slice none 0 0)
    rw [e]
    exact ⟨by rw [hc]; exact b0, by rw [hc]; exact b1, by rw [hc]; exact b2, by rw [hc]; exact b3, by rw [hc]; exact b4, by rw [hc]; exact b5, fun j _ => hf _⟩
  · intro i _
    show EntV u (.slice none 0 0) (gsTo 0 i).ents
    rw [gsTo_ents]
    exact RowV.nil _ _ _ _
  · intro i _ k q
    simp [rowBlk] at q
  · intro i j _ _ _ k q
    simp [rowBlk] at q
  · exact .inr ⟨by show w.heap.size ≤ w.heap.size + 1; omega, by rw [hus]; show w.heap.size + 1 < w.heap.size + 2; omega⟩
  · exact .inr ⟨Nat.le_refl _, by rw [hus]; show w.heap.size < w.heap.size + 2; omega⟩
  · intro q
    have : w.heap.size + 1 < w.heap.size := hdk _ q
    omega
  · intro q
    have : w.heap.size < w.heap.size := hdk _ q
    omega
  · have := h.lt
    show w.heap.size + 1 ≠ b
    omega
  · have := h.lt
    show w.heap.size ≠ b
    omega
  · intro k q
    rcases q with (e | e) | e
    · have := h.lt; rw [hus, e]; omega
    · have := hdk k e; rw [hus]; omega
    · exact e.2

/-- A group's vote is none. -/
theorem Lg.vote {w : World} {p : Pl} {A : Nat → List UInt8} {S : Nat → Nat} {own : Nat → Prop} {k : Nat} (h : Lg w p ⟨A, S, gsTo k, 0, 0⟩ own) (hk : k < 9) :
    Aft own w (w.setCell ⟨p.L, 3 + k * 6 + 1, none⟩ (.int .i64 (-1))) p ⟨A, S, gsTo (k + 1), 0, 0⟩ ∧ w.cell? ⟨p.L, 3 + k * 6 + 1, none⟩ = some (.int .i64 0) ∧ w.frozen? ⟨p.L, 3 + k * 6 + 1, none⟩ = false := by
  obtain ⟨dk, E, h⟩ := h
  have q := h.sv k hk
  have e0 : gsTo k k = { W.new with vote := 0 } := by unfold gsTo; rw [if_pos ⟨Nat.le_refl _, hk⟩]
  have q1 : w.cell? ⟨p.L, 3 + k * 6 + 1, none⟩ = some (.int .i64 0) := by have := q.c1; rw [show ({ A := A, S := S, gs := gsTo k, n := 0, turn := 0 } : St).gs k = gsTo k k from rfl, e0] at this; exact this
  refine ⟨?_, q1, q.fz 1 (by omega)⟩
  have hg := grown_set w p.L (3 + k * 6 + 1) (.int .i64 (-1))
  have hc : ∀ j, j ≠ 3 + k * 6 + 1 → (w.setCell ⟨p.L, 3 + k * 6 + 1, none⟩ (.int .i64 (-1))).cell? ⟨p.L, j, none⟩ = w.cell? ⟨p.L, j, none⟩ := fun j hj => by rw [cell_set _ q1, if_neg hj]
  have hb : ∀ j, j < w.heap.size → j ≠ p.L → (w.setCell ⟨p.L, 3 + k * 6 + 1, none⟩ (.int .i64 (-1))).heap[j]? = w.heap[j]? := fun j hj hn => hg.block j hj (by intro e; injection e with e; exact hn e)
  have hent : ∀ i, (gsTo (k + 1) i).ents = (gsTo k i).ents := fun i => by rw [gsTo_ents, gsTo_ents]
  refine ⟨Lg.wider ⟨dk, E, ⟨by rw [size_set]; exact h.lt, by rw [hc _ (by omega)]; exact h.c0, by rw [hc _ (by omega)]; exact h.c1, by rw [hc _ (by omega)]; exact h.c2, by rw [hb _ (h.here _ h.oK) (fun e => h.LK e.symm)]; exact h.kmap, ?_, by rw [hc _ (by omega)]; exact h.cn, by rw [hc _ (by omega)]; exact h.ct, by rw [World.frozen?_setCell]; exact h.fn, by rw [World.frozen?_setCell]; exact h.ft,
    fun i hi => by show EntV _ _ (gsTo (k + 1) i).ents; rw [hent]; exact RowV.carry (h.ent i hi) (fun j hj => hb j (RowV.lt (h.ent i hi) hj) (h.blk i hi j hj).2.1), h.blk, h.apart, h.disk.setCell _ _ h.Lb h.dL, h.oL, h.ob, h.oK, h.od, h.dL, h.dK, h.Lb, h.LK, h.Kb, fun j hj => by rw [size_set]; exact h.here j hj, gsTo_ok _, Nat.zero_le _, Nat.zero_le _, h.lim⟩⟩ (fun _ q => .inl q) (fun j q => ?_), (KeptS.refl _ _).setCell _ h.oL _⟩
  · intro i hi
    have r := h.sv i hi
    show SvC _ _ _ (gsTo (k + 1) i) _
    by_cases e : i = k
    · subst e
      have e1 : gsTo (i + 1) i = W.new := by unfold gsTo; rw [if_neg (by omega)]
      rw [e1]
      have r0 := r.c0
      have r2 := r.c2
      have r3 := r.c3
      have r4 := r.c4
      rw [show ({ A := A, S := S, gs := gsTo i, n := 0, turn := 0 } : St).gs i = gsTo i i from rfl, e0] at r0 r2 r3 r4
      exact ⟨by rw [hc _ (by omega)]; exact r0, by rw [cell_set _ q1, if_pos rfl]; rfl, by rw [hc _ (by omega)]; exact r2, by rw [hc _ (by omega)]; exact r3, by rw [hc _ (by omega)]; exact r4, by rw [hc _ (by omega)]; exact r.c5, fun j hj => by rw [World.frozen?_setCell]; exact r.fz j hj⟩
    · have e1 : gsTo (k + 1) i = gsTo k i := by
        unfold gsTo
        by_cases q : k ≤ i ∧ i < 9
        · rw [if_pos q, if_pos (by omega)]
        · rw [if_neg q, if_neg (by omega)]
      rw [e1]
      exact ⟨by rw [hc _ (by omega)]; exact r.c0, by rw [hc _ (by omega)]; exact r.c1, by rw [hc _ (by omega)]; exact r.c2, by rw [hc _ (by omega)]; exact r.c3, by rw [hc _ (by omega)]; exact r.c4, by rw [hc _ (by omega)]; exact r.c5, fun j hj => by rw [World.frozen?_setCell]; exact r.fz j hj⟩
  · rcases q with e | e
    · rw [size_set]; exact h.here j e
    · exact e.2

end Go.Proofs.Ytagcnhkodmjkgaa

namespace Go.Proofs.Ytagcnhkodmjkgaa
open Go.RowKit

/-- What Open makes of a disk. -/
structure Opened (own : Nat → Prop) (w w' : World) (p : Pl) (t : Nat) (fs : List (List W.Rec)) (s : St) : Prop where
  aft : Aft own w w' p s
  t1 : s.turn ≤ 1
  tt : fs ≠ [] → s.turn = t
  files : ∀ i, i < 256 → s.A i = imgA t fs i
  sure : ∀ i, i < 256 → s.S i = (s.A i).length
  gs : s.gs = W.folds (fun _ => W.new) fs.flatten
  n : s.n = fs.length

theorem Open_bad (d : Value) (w : World) (lim : Int) (h : NotMade w d) :
    Calls Try.prog 10 #[d, .int .i64 lim] w fun e w' => e = .returned (.tuple #[.pointer none, .int .i64 1]) ∧ w' = w := by
  have HB : Hid _ := Bytes_no w d 0 0 0 h
  clear h
  go_enter Try.func10, Try.ntmps10
  go_wp2_with fail
  refine Calls.mono HB.out ?_
  rintro e w1 ⟨rfl, hw⟩
  subst hw
  go_wp2
  go_ret2
  exact ⟨rfl, rfl⟩

theorem Open_lim {w : World} {b room : Nat} {A : Nat → List UInt8} {S : Nat → Nat} {dk : Nat → Prop} (h : Dk w b room A S dk) (lim : Int) (hl : lim < 1 ∨ 16777216 < lim) :
    Calls Try.prog 10 #[.pointer (some ⟨b, 0, none⟩), .int .i64 lim] w fun e w' => e = .returned (.tuple #[.pointer none, .int .i64 1]) ∧ w' = w := by
  have HB : Hid _ := Bytes_yes h 0 (by omega) 0 0 (Nat.zero_le _)
  rw [List.drop_zero, List.take_zero] at HB
  clear h
  by_cases e : lim < 1
  · have t1 : decide (lim < 1) = true := decide_eq_true e
    clear hl e
    go_enter Try.func10, Try.ntmps10
    go_wp2_with fail
    refine Calls.mono HB.out ?_
    rintro e w1 ⟨rfl, hw⟩
    subst hw
    go_wp2
    go_ret2
    exact ⟨rfl, rfl⟩
  · have t1 : decide (lim < 1) = false := decide_eq_false e
    have t2 : decide (16777216 < lim) = true := decide_eq_true (by omega)
    clear hl e
    go_enter Try.func10, Try.ntmps10
    go_wp2_with fail
    refine Calls.mono HB.out ?_
    rintro e w1 ⟨rfl, hw⟩
    subst hw
    go_wp2
    go_ret2
    exact ⟨rfl, rfl⟩

set_option maxHeartbeats 1600000 in
set_option maxRecDepth 20000 in
theorem Open_c {w : World} {b room : Nat} {A : Nat → List UInt8} {S : Nat → Nat} {dk : Nat → Prop} (h : Dk w b room A S dk) (hdk : ∀ k, dk k → k < w.heap.size) (lim : Nat) (hl : 1 ≤ lim ∧ lim ≤ 16777216) {t : Nat} {segs : List (List W.Rec)} {last : List W.Rec} (D : Disky A (fun _ => W.new) t segs last) :
    Calls Try.prog 10 #[.pointer (some ⟨b, 0, none⟩), .int .i64 (lim : Int)] w fun e w' => e = .returned (.tuple #[.pointer (some ⟨w.heap.size + 1, 0, none⟩), .int .i64 0]) ∧ ∃ s, Opened (fun k => k = b ∨ dk k) w w' ⟨w.heap.size + 1, b, w.heap.size, lim, room⟩ t (found segs last) s := by
  have HB : Hid _ := Bytes_yes h 0 (by omega) 0 0 (Nat.zero_le _)
  rw [List.drop_zero, List.take_zero] at HB
  have HK : Hid _ := kinds_c w
  have HA0 : Hid _ := begun_log h hdk lim hl
  have t1 : decide ((lim : Int) < 1) = false := decide_eq_false (by omega)
  have t2 : decide (16777216 < (lim : Int)) = false := decide_eq_false (by omega)
  obtain ⟨own, hown⟩ : ∃ own : Nat → Prop, own = fun k => k = b ∨ dk k := ⟨_, rfl⟩
  rw [← hown] at HA0 ⊢
  obtain ⟨p, hp⟩ : ∃ p : Pl, p = ⟨w.heap.size + 1, b, w.heap.size, lim, room⟩ := ⟨_, rfl⟩
  rw [← hp] at HA0 ⊢
  have HPL : Hid (p.L = w.heap.size + 1 ∧ p.b = b) := by rw [hp]; exact ⟨rfl, rfl⟩
  obtain ⟨L, hL⟩ : ∃ L, L = w.heap.size + 1 := ⟨_, rfl⟩
  have HLd : Hid (∀ wr S', Aft own w wr p ⟨A, S', gsTo 9, 0, 0⟩ → Calls Try.prog 26 #[.pointer (some ⟨L, 0, none⟩)] wr fun e w' => e = .returned (.tuple #[]) ∧ ∃ A' S' T, T ≤ 1 ∧ (found segs last ≠ [] → T = t) ∧ (∀ i, i < 256 → A' i = imgA t (found segs last) i) ∧ Aft own w w' p ⟨A', S', W.folds (fun _ => W.new) (segs.flatten ++ last), (found segs last).length, T⟩) := by
    intro wr S' hA
    rw [gsTo_all] at hA
    have := load_c D hA.1
    rw [HPL.out.1, ← hL] at this
    refine this.mono ?_
    rintro e w' ⟨rfl, A', S'', T, q1, q2, q3, q4⟩
    exact ⟨rfl, A', S'', T, q1, q2, q3, hA.trans q4⟩
  have HSy : Hid (∀ wr A' S' T, T ≤ 1 → (found segs last ≠ [] → T = t) → (∀ i, i < 256 → A' i = imgA t (found segs last) i) → Aft own w wr p ⟨A', S', W.folds (fun _ => W.new) (segs.flatten ++ last), (found segs last).length, T⟩ → Calls Try.prog 27 #[.pointer (some ⟨b, 0, none⟩)] wr fun e w' => e = .returned (.int .i64 0) ∧ ∃ s, Opened own w w' p t (found segs last) s) := by
    intro wr A' S' T q1 q2 q3 q4
    have := q4.1.sync
    rw [HPL.out.2] at this
    refine this.mono ?_
    rintro e w' ⟨rfl, q5⟩
    exact ⟨rfl, _, ⟨q4.trans q5, q1, q2, q3, fun i hi => if_pos hi, by show W.folds _ _ = _; rw [found_flat], rfl⟩⟩
  have HV : Hid (∀ wr k, k < 9 → Aft own w wr p ⟨A, S, gsTo k, 0, 0⟩ → Aft own w (wr.setCell ⟨L, 3 + k * 6 + 1, none⟩ (.int .i64 (-1))) p ⟨A, S, gsTo (k + 1), 0, 0⟩ ∧ wr.cell? ⟨L, 3 + k * 6 + 1, none⟩ = some (.int .i64 0) ∧ wr.frozen? ⟨L, 3 + k * 6 + 1, none⟩ = false) := by
    intro wr k hk hA
    have := hA.1.vote hk
    rw [HPL.out.1, ← hL] at this
    exact ⟨hA.trans this.1, this.2⟩
  have HLL : Hid (L = w.heap.size + 1) := hL
  clear h hdk hl D hown hp
  go_enter Try.func10, Try.ntmps10
  go_wp2_with fail
  refine Calls.mono HB.out ?_
  rintro e w1 ⟨rfl, hw⟩
  subst hw
  go_wp2_with fail
  refine Calls.mono HK.out ?_
  rintro e w1' ⟨rfl, hw⟩
  subst hw
  go_wp2_with (refine wpList_build_log b w1.heap.size (lim : Int) rfl (.tmp 25) (.tmp 26) (.tmp 27) rfl rfl rfl rfl ?_)
  obtain ⟨u, hu⟩ : ∃ u, u = (w1.alloc kindMap).alloc (.cells (logCells b w1.heap.size lim) 74) := ⟨_, rfl⟩
  rw [← hu] at HA0
  rw [← hL, ← hu]
  have HA : Hid (Aft own w1 u p ⟨A, S, gsTo 0, 0, 0⟩) := HA0.out
  clear hL hu HA0
  go_loopw [30] (fun x wr => ∃ k : Nat, x = .int .i64 (k : Int) ∧ k ≤ 9 ∧ Hid (Aft own w1 wr p ⟨A, S, gsTo k, 0, 0⟩)) (fun x _ => 9 - (intOf x).toNat)
  case atStart => exact ⟨0, rfl, by omega, HA⟩
  case round =>
    clear HA
    obtain ⟨k, rfl, hk, HA⟩ := hrel
    by_cases hlt : k < 9
    · obtain ⟨h1, c1, f1⟩ := HV.out wr k hlt HA.out
      have H1 : Hid _ := h1
      clear h1
      go_wp2
      go_roundw
      case rel => exact ⟨k + 1, by go_num, by omega, H1⟩
      case measure => simp [intOf]; omega
    · obtain rfl : k = 9 := by omega
      have HL' : Hid _ := HLd.out wr S HA.out
      go_wp2_with fail
      refine Calls.mono HL'.out ?_
      rintro e w2 ⟨rfl, A', S', T, q1, q2, q3, q4⟩
      have HS' : Hid _ := HSy.out w2 A' S' T q1 q2 q3 q4
      clear q1 q2 q3 q4
      go_wp2_with fail
      refine Calls.mono HS'.out ?_
      rintro e w3 ⟨rfl, hs⟩
      have HS3 : Hid _ := hs
      clear hs
      go_wp2
      go_ret2
      rw [← HLL.out]
      exact ⟨rfl, HS3.out⟩

end Go.Proofs.Ytagcnhkodmjkgaa
