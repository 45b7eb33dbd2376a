/-
  Open. Open, of a disk. Saved. begun and awake.
-/
import Derived.Test.YtpfnkjfbhcffiaaWlLoad
import Derived.Test.YtpfnkjfbhcffiaaDkNew
import Derived.Test.YtpfnkjfbhcffiaaWlApp
import Derived.Laws.ResultCell
namespace Go.Proofs.Ytpfnkjfbhcffiaa
open Go.RowKit

/-- The cells of a new log. -/
def logCells (b K : Nat) (lim : Int) : Array Value := #[.pointer (some ⟨b, 0, none⟩), .int .i64 lim, .map (some K)] ++ ((List.range 9).flatMap fun _ => [Value.int .i64 0, .int .i64 0, .int .i64 0, .int .i64 0, .string ⟨#[]⟩, .slice none 0 0]).toArray ++ #[.int .i64 0, .int .i64 0]

theorem run_build_log (b K : Nat) (lim : Int) (w : World) : (Instr.build 72 #[(0, .pointer (some ⟨b, 0, none⟩)), (1, .int .i64 lim), (2, .map (some K))]).run Try.prog w = .ok (.agg (logCells b K lim)) w := by kernel_rfl

theorem wpList_build_log {w : World} {ops : Array Oper} {rest : List Oper} {o : Oper} {a : Act} {Q : Exit → Act → World → Prop} (b K : Nat) (lim : Int) (hgd : o.guard = none) (x y z : Operand)
    (ho : o.op = .build 72 #[(0, x), (1, y), (2, z)]) (hx : a.eval x = .pointer (some ⟨b, 0, none⟩)) (hy : a.eval y = .int .i64 lim) (hz : a.eval z = .map (some K)) (h : wpList Try.prog ops Q rest (a.put o.dst (.agg (logCells b K lim))) w) : wpList Try.prog ops Q (o :: rest) a w := by
  refine wpList_plain hgd fun _ hK => ?_
  unfold Oper.wp execOp
  simp only [ho, List.map_toArray, List.map_cons, List.map_nil, hx, hy, hz, Sem.run_bind, Sem.run_pure, Result.andThen_ok, run_build_log]
  exact hK _ _ h

theorem logCells_at (b K : Nat) (lim : Int) : (logCells b K lim)[0]? = some (.pointer (some ⟨b, 0, none⟩)) ∧ (logCells b K lim)[1]? = some (.int .i64 lim) ∧ (logCells b K lim)[2]? = some (.map (some K)) ∧ (logCells b K lim)[57]? = some (.int .i64 0) ∧ (logCells b K lim)[58]? = some (.int .i64 0) := ⟨by kernel_rfl, by kernel_rfl, by kernel_rfl, by kernel_rfl, by kernel_rfl⟩
theorem logCells_sv (b K : Nat) (lim : Int) : ∀ i, i < 9 → (logCells b K lim)[3 + i * 6]? = some (.int .i64 0) ∧ (logCells b K lim)[3 + i * 6 + 1]? = some (.int .i64 0) ∧ (logCells b K lim)[3 + i * 6 + 2]? = some (.int .i64 0) ∧ (logCells b K lim)[3 + i * 6 + 3]? = some (.int .i64 0) ∧ (logCells b K lim)[3 + i * 6 + 4]? = some (.string ⟨#[]⟩) ∧ (logCells b K lim)[3 + i * 6 + 5]? = some (.slice none 0 0) := by
  intro i hi
  match i, hi with
  | 0, _ => exact ⟨by kernel_rfl, by kernel_rfl, by kernel_rfl, by kernel_rfl, by kernel_rfl, by kernel_rfl⟩
  | 1, _ => exact ⟨by kernel_rfl, by kernel_rfl, by kernel_rfl, by kernel_rfl, by kernel_rfl, by kernel_rfl⟩
  | 2, _ => exact ⟨by kernel_rfl, by kernel_rfl, by kernel_rfl, by kernel_rfl, by kernel_rfl, by kernel_rfl⟩
  | 3, _ => exact ⟨by kernel_rfl, by kernel_rfl, by kernel_rfl, by kernel_rfl, by kernel_rfl, by kernel_rfl⟩
  | 4, _ => exact ⟨by kernel_rfl, by kernel_rfl, by kernel_rfl, by kernel_rfl, by kernel_rfl, by kernel_rfl⟩
  | 5, _ => exact ⟨by kernel_rfl, by kernel_rfl, by kernel_rfl, by kernel_rfl, by kernel_rfl, by kernel_rfl⟩
  | 6, _ => exact ⟨by kernel_rfl, by kernel_rfl, by kernel_rfl, by kernel_rfl, by kernel_rfl, by kernel_rfl⟩
  | 7, _ => exact ⟨by kernel_rfl, by kernel_rfl, by kernel_rfl, by kernel_rfl, by kernel_rfl, by kernel_rfl⟩
  | 8, _ => exact ⟨by kernel_rfl, by kernel_rfl, by kernel_rfl, by kernel_rfl, by kernel_rfl, by kernel_rfl⟩

/-- The groups while their votes are set: the first k have none. -/
def gsTo (k : Nat) : Nat → W.Sv := fun i => if k ≤ i ∧ i < 9 then { W.new with vote := 0 } else W.new
theorem gsTo_ok (k : Nat) : ∀ i, W.Ok (gsTo k i) := by
  intro i
  unfold gsTo
  split
  · exact ⟨by decide, by decide, by decide, by decide, by decide, by decide, trivial⟩
  · exact W.ok_new
theorem gsTo_all : gsTo 9 = fun _ => W.new := by
  funext i
  unfold gsTo
  rw [if_neg (by omega)]
theorem gsTo_ents (k i : Nat) : (gsTo k i).ents = [] := by unfold gsTo; split <;> rfl

/-- A log that Open has just laid. -/
theorem begun_log {w : World} {b room : Nat} {A : Nat → List UInt8} {S : Nat → Nat} {dk : Nat → Prop} (h : Dk w b room A S dk) (hdk : ∀ k, dk k → k < w.heap.size) (lim : Nat) (hl : 1 ≤ lim ∧ lim ≤ 16777216) :
    Aft (fun k => k = b ∨ dk k) w ((w.alloc kindMap).alloc (.cells (logCells b w.heap.size lim) 72)) ⟨w.heap.size + 1, b, w.heap.size, lim, room⟩ ⟨A, S, gsTo 0, 0, 0⟩ := by
  obtain ⟨u, hu⟩ : ∃ u, u = (w.alloc kindMap).alloc (.cells (logCells b w.heap.size lim) 72) := ⟨_, rfl⟩
  have hus : u.heap.size = w.heap.size + 2 := by rw [hu]; simp
  have hB : Below w.heap.size w u := by rw [hu]; exact (below_alloc _ _).trans ((below_alloc _ _).mono (by simp))
  have hc : ∀ j, u.cell? ⟨w.heap.size + 1, j, none⟩ = (logCells b w.heap.size lim)[j]? := by
    intro j
    have e := World.cell?_alloc_mark (w.alloc kindMap) (logCells b w.heap.size lim) 72 (0, 0) j
    rw [← e, hu]
    simp
  have hf : ∀ j, u.frozen? ⟨w.heap.size + 1, j, none⟩ = false := by
    intro j
    rw [hu]
    simp [go_sem]
  have hK : u.heap[w.heap.size]? = some kindMap := by
    rw [hu, Below.heap_alloc _ _ _ (by simp)]
    exact heap_alloc_new w _
  rw [← hu]
  obtain ⟨a0, a1, a2, a57, a58⟩ := logCells_at b w.heap.size lim
  refine ⟨⟨dk, fun _ => .slice none 0 0, ⟨by show _ < u.heap.size; rw [hus]; exact Nat.lt_succ_self _, by rw [hc]; exact a0, by rw [hc]; exact a1, by rw [hc]; exact a2, hK, ?_, by rw [hc]; exact a57, by rw [hc]; exact a58, hf 57, hf 58, ?_, ?_, ?_, h.below hB, ?_, .inl (.inl rfl), ?_, fun k q => .inl (.inr q), ?_, ?_, ?_, by show w.heap.size + 1 ≠ w.heap.size; omega, ?_, ?_, gsTo_ok 0, Nat.zero_le _, Nat.zero_le _, hl⟩⟩, KeptS.ofBelow hB⟩
  · intro i hi
    obtain ⟨b0, b1, b2, b3, b4, b5⟩ := logCells_sv b w.heap.size lim i hi
    have e : gsTo 0 i = { W.new with vote := 0 } := by unfold gsTo; rw [if_pos ⟨by omega, hi⟩]
    show SvC u (w.heap.size + 1) (3 + i * 6) (gsTo 0 i) (.slice none 0 0)
    rw [e]
    exact ⟨by rw [hc]; exact b0, by rw [hc]; exact b1, by rw [hc]; exact b2, by rw [hc]; exact b3, by rw [hc]; exact b4, by rw [hc]; exact b5, fun j _ => hf _⟩
  · intro i _
    show EntV u (.slice none 0 0) (gsTo 0 i).ents
    rw [gsTo_ents]
    exact RowV.nil _ _ _ _
  · intro i _ k q
    simp [rowBlk] at q
  · intro i j _ _ _ k q
    simp [rowBlk] at q
  · exact .inr ⟨by show w.heap.size ≤ w.heap.size + 1; omega, by rw [hus]; show w.heap.size + 1 < w.heap.size + 2; omega⟩
  · exact .inr ⟨Nat.le_refl _, by rw [hus]; show w.heap.size < w.heap.size + 2; omega⟩
  · intro q
    have : w.heap.size + 1 < w.heap.size := hdk _ q
    omega
  · intro q
    have : w.heap.size < w.heap.size := hdk _ q
    omega
  · have := h.lt
    show w.heap.size + 1 ≠ b
    omega
  · have := h.lt
    show w.heap.size ≠ b
    omega
  · intro k q
    rcases q with (e | e) | e
    · have := h.lt; rw [hus, e]; omega
    · have := hdk k e; rw [hus]; omega
    · exact e.2

/-- A group's vote is none. -/
theorem Lg.vote {w : World} {p : Pl} {A : Nat → List UInt8} {S : Nat → Nat} {own : Nat → Prop} {k : Nat} (h : Lg w p ⟨A, S, gsTo k, 0, 0⟩ own) (hk : k < 9) :
    Aft own w (w.setCell ⟨p.L, 3 + k * 6 + 1, none⟩ (.int .i64 (-1))) p ⟨A, S, gsTo (k + 1), 0, 0⟩ ∧ w.cell? ⟨p.L, 3 + k * 6 + 1, none⟩ = some (.int .i64 0) ∧ w.frozen? ⟨p.L, 3 + k * 6 + 1, none⟩ = false := by
  obtain ⟨dk, E, h⟩ := h
  have q := h.sv k hk
  have e0 : gsTo k k = { W.new with vote := 0 } := by unfold gsTo; rw [if_pos ⟨Nat.le_refl _, hk⟩]
  have q1 : w.cell? ⟨p.L, 3 + k * 6 + 1, none⟩ = some (.int .i64 0) := by have := q.c1; rw [show ({ A := A, S := S, gs := gsTo k, n := 0, turn := 0 } : St).gs k = gsTo k k from rfl, e0] at this; exact this
  refine ⟨?_, q1, q.fz 1 (by omega)⟩
  have hg := grown_set w p.L (3 + k * 6 + 1) (.int .i64 (-1))
  have hc : ∀ j, j ≠ 3 + k * 6 + 1 → (w.setCell ⟨p.L, 3 + k * 6 + 1, none⟩ (.int .i64 (-1))).cell? ⟨p.L, j, none⟩ = w.cell? ⟨p.L, j, none⟩ := fun j hj => by rw [cell_set _ q1, if_neg hj]
  have hb : ∀ j, j < w.heap.size → j ≠ p.L → (w.setCell ⟨p.L, 3 + k * 6 + 1, none⟩ (.int .i64 (-1))).heap[j]? = w.heap[j]? := fun j hj hn => hg.block j hj (by intro e; injection e with e; exact hn e)
  have hent : ∀ i, (gsTo (k + 1) i).ents = (gsTo k i).ents := fun i => by rw [gsTo_ents, gsTo_ents]
  refine ⟨Lg.wider ⟨dk, E, ⟨by rw [size_set]; exact h.lt, by rw [hc _ (by omega)]; exact h.c0, by rw [hc _ (by omega)]; exact h.c1, by rw [hc _ (by omega)]; exact h.c2, by rw [hb _ (h.here _ h.oK) (fun e => h.LK e.symm)]; exact h.kmap, ?_, by rw [hc _ (by omega)]; exact h.cn, by rw [hc _ (by omega)]; exact h.ct, by rw [World.frozen?_setCell]; exact h.fn, by rw [World.frozen?_setCell]; exact h.ft,
    fun i hi => by show EntV _ _ (gsTo (k + 1) i).ents; rw [hent]; exact RowV.carry (h.ent i hi) (fun j hj => hb j (RowV.lt (h.ent i hi) hj) (h.blk i hi j hj).2.1), h.blk, h.apart, h.disk.setCell _ _ h.Lb h.dL, h.oL, h.ob, h.oK, h.od, h.dL, h.dK, h.Lb, h.LK, h.Kb, fun j hj => by rw [size_set]; exact h.here j hj, gsTo_ok _, Nat.zero_le _, Nat.zero_le _, h.lim⟩⟩ (fun _ q => .inl q) (fun j q => ?_), (KeptS.refl _ _).setCell _ h.oL _⟩
  · intro i hi
    have r := h.sv i hi
    show SvC _ _ _ (gsTo (k + 1) i) _
    by_cases e : i = k
    · subst e
      have e1 : gsTo (i + 1) i = W.new := by unfold gsTo; rw [if_neg (by omega)]
      rw [e1]
      have r0 := r.c0
      have r2 := r.c2
      have r3 := r.c3
      have r4 := r.c4
      rw [show ({ A := A, S := S, gs := gsTo i, n := 0, turn := 0 } : St).gs i = gsTo i i from rfl, e0] at r0 r2 r3 r4
      exact ⟨by rw [hc _ (by omega)]; exact r0, by rw [cell_set _ q1, if_pos rfl]; rfl, by rw [hc _ (by omega)]; exact r2, by rw [hc _ (by omega)]; exact r3, by rw [hc _ (by omega)]; exact r4, by rw [hc _ (by omega)]; exact r.c5, fun j hj => by rw [World.frozen?_setCell]; exact r.fz j hj⟩
    · have e1 : gsTo (k + 1) i = gsTo k i := by
        unfold gsTo
        by_cases q : k ≤ i ∧ i < 9
        · rw [if_pos q, if_pos (by omega)]
        · rw [if_neg q, if_neg (by omega)]
      rw [e1]
      exact ⟨by rw [hc _ (by omega)]; exact r.c0, by rw [hc _ (by omega)]; exact r.c1, by rw [hc _ (by omega)]; exact r.c2, by rw [hc _ (by omega)]; exact r.c3, by rw [hc _ (by omega)]; exact r.c4, by rw [hc _ (by omega)]; exact r.c5, fun j hj => by rw [World.frozen?_setCell]; exact r.fz j hj⟩
  · rcases q with e | e
    · rw [size_set]; exact h.here j e
    · exact e.2

end Go.Proofs.Ytpfnkjfbhcffiaa

namespace Go.Proofs.Ytpfnkjfbhcffiaa
open Go.RowKit

/-- What Open makes of a disk. -/
structure Opened (own : Nat → Prop) (w w' : World) (p : Pl) (t : Nat) (fs : List (List W.Rec)) (s : St) : Prop where
  aft : Aft own w w' p s
  t1 : s.turn ≤ 1
  tt : fs ≠ [] → s.turn = t
  files : ∀ i, i < 256 → s.A i = imgA t fs i
  sure : ∀ i, i < 256 → s.S i = (s.A i).length
  gs : s.gs = W.folds (fun _ => W.new) fs.flatten
  n : s.n = fs.length

theorem Open_bad (d : Value) (w : World) (lim : Int) (h : NotMade w d) :
    Calls Try.prog 8 #[d, .int .i64 lim] w fun e w' => e = .returned (.tuple #[.pointer none, .int .i64 1]) ∧ w' = w := by
  have HB : Hid _ := Bytes_no w d 0 0 0 h
  clear h
  go_enter Try.func8, Try.ntmps8
  go_wp2_with fail
  refine Calls.mono HB.out ?_
  rintro e w1 ⟨rfl, hw⟩
  subst hw
  go_wp2
  go_ret2
  exact ⟨rfl, rfl⟩

theorem Open_lim {w : World} {b room : Nat} {A : Nat → List UInt8} {S : Nat → Nat} {dk : Nat → Prop} (h : Dk w b room A S dk) (lim : Int) (hl : lim < 1 ∨ 16777216 < lim) :
    Calls Try.prog 8 #[.pointer (some ⟨b, 0, none⟩), .int .i64 lim] w fun e w' => e = .returned (.tuple #[.pointer none, .int .i64 1]) ∧ w' = w := by
  have HB : Hid _ := Bytes_yes h 0 (by omega) 0 0 (Nat.zero_le _)
  rw [List.drop_zero, List.take_zero] at HB
  clear h
  by_cases e : lim < 1
  · have t1 : decide (lim < 1) = true := decide_eq_true e
    clear hl e
    go_enter Try.func8, Try.ntmps8
    go_wp2_with fail
    refine Calls.mono HB.out ?_
    rintro e w1 ⟨rfl, hw⟩
    subst hw
    go_wp2
    go_ret2
    exact ⟨rfl, rfl⟩
  · have t1 : decide (lim < 1) = false := decide_eq_false e
    have t2 : decide (16777216 < lim) = true := decide_eq_true (by omega)
    clear hl e
    go_enter Try.func8, Try.ntmps8
    go_wp2_with fail
    refine Calls.mono HB.out ?_
    rintro e w1 ⟨rfl, hw⟩
    subst hw
    go_wp2
    go_ret2
    exact ⟨rfl, rfl⟩

set_option maxHeartbeats 1600000 in
set_option maxRecDepth 20000 in
theorem Open_c {w : World} {b room : Nat} {A : Nat → List UInt8} {S : Nat → Nat} {dk : Nat → Prop} (h : Dk w b room A S dk) (hdk : ∀ k, dk k → k < w.heap.size) (lim : Nat) (hl : 1 ≤ lim ∧ lim ≤ 16777216) {t : Nat} {segs : List (List W.Rec)} {last : List W.Rec} (D : Disky A (fun _ => W.new) t segs last) :
    Calls Try.prog 8 #[.pointer (some ⟨b, 0, none⟩), .int .i64 (lim : Int)] w fun e w' => e = .returned (.tuple #[.pointer (some ⟨w.heap.size + 1, 0, none⟩), .int .i64 0]) ∧ ∃ s, Opened (fun k => k = b ∨ dk k) w w' ⟨w.heap.size + 1, b, w.heap.size, lim, room⟩ t (found segs last) s := by
  have HB : Hid _ := Bytes_yes h 0 (by omega) 0 0 (Nat.zero_le _)
  rw [List.drop_zero, List.take_zero] at HB
  have HK : Hid _ := kinds_c w
  have HA0 : Hid _ := begun_log h hdk lim hl
  have t1 : decide ((lim : Int) < 1) = false := decide_eq_false (by omega)
  have t2 : decide (16777216 < (lim : Int)) = false := decide_eq_false (by omega)
  obtain ⟨own, hown⟩ : ∃ own : Nat → Prop, own = fun k => k = b ∨ dk k := ⟨_, rfl⟩
  rw [← hown] at HA0 ⊢
  obtain ⟨p, hp⟩ : ∃ p : Pl, p = ⟨w.heap.size + 1, b, w.heap.size, lim, room⟩ := ⟨_, rfl⟩
  rw [← hp] at HA0 ⊢
  have HPL : Hid (p.L = w.heap.size + 1 ∧ p.b = b) := by rw [hp]; exact ⟨rfl, rfl⟩
  obtain ⟨L, hL⟩ : ∃ L, L = w.heap.size + 1 := ⟨_, rfl⟩
  have HLd : Hid (∀ wr S', Aft own w wr p ⟨A, S', gsTo 9, 0, 0⟩ → Calls Try.prog 24 #[.pointer (some ⟨L, 0, none⟩)] wr fun e w' => e = .returned (.tuple #[]) ∧ ∃ A' S' T, T ≤ 1 ∧ (found segs last ≠ [] → T = t) ∧ (∀ i, i < 256 → A' i = imgA t (found segs last) i) ∧ Aft own w w' p ⟨A', S', W.folds (fun _ => W.new) (segs.flatten ++ last), (found segs last).length, T⟩) := by
    intro wr S' hA
    rw [gsTo_all] at hA
    have := load_c D hA.1
    rw [HPL.out.1, ← hL] at this
    refine this.mono ?_
    rintro e w' ⟨rfl, A', S'', T, q1, q2, q3, q4⟩
    exact ⟨rfl, A', S'', T, q1, q2, q3, hA.trans q4⟩
  have HSy : Hid (∀ wr A' S' T, T ≤ 1 → (found segs last ≠ [] → T = t) → (∀ i, i < 256 → A' i = imgA t (found segs last) i) → Aft own w wr p ⟨A', S', W.folds (fun _ => W.new) (segs.flatten ++ last), (found segs last).length, T⟩ → Calls Try.prog 25 #[.pointer (some ⟨b, 0, none⟩)] wr fun e w' => e = .returned (.int .i64 0) ∧ ∃ s, Opened own w w' p t (found segs last) s) := by
    intro wr A' S' T q1 q2 q3 q4
    have := q4.1.sync
    rw [HPL.out.2] at this
    refine this.mono ?_
    rintro e w' ⟨rfl, q5⟩
    exact ⟨rfl, _, ⟨q4.trans q5, q1, q2, q3, fun i hi => if_pos hi, by show W.folds _ _ = _; rw [found_flat], rfl⟩⟩
  have HV : Hid (∀ wr k, k < 9 → Aft own w wr p ⟨A, S, gsTo k, 0, 0⟩ → Aft own w (wr.setCell ⟨L, 3 + k * 6 + 1, none⟩ (.int .i64 (-1))) p ⟨A, S, gsTo (k + 1), 0, 0⟩ ∧ wr.cell? ⟨L, 3 + k * 6 + 1, none⟩ = some (.int .i64 0) ∧ wr.frozen? ⟨L, 3 + k * 6 + 1, none⟩ = false) := by
    intro wr k hk hA
    have := hA.1.vote hk
    rw [HPL.out.1, ← hL] at this
    exact ⟨hA.trans this.1, this.2⟩
  have HLL : Hid (L = w.heap.size + 1) := hL
  clear h hdk hl D hown hp
  go_enter Try.func8, Try.ntmps8
  go_wp2_with fail
  refine Calls.mono HB.out ?_
  rintro e w1 ⟨rfl, hw⟩
  subst hw
  go_wp2_with fail
  refine Calls.mono HK.out ?_
  rintro e w1' ⟨rfl, hw⟩
  subst hw
  go_wp2_with (refine wpList_build_log b w1.heap.size (lim : Int) rfl (.tmp 25) (.tmp 26) (.tmp 27) rfl rfl rfl rfl ?_)
  obtain ⟨u, hu⟩ : ∃ u, u = (w1.alloc kindMap).alloc (.cells (logCells b w1.heap.size lim) 72) := ⟨_, rfl⟩
  rw [← hu] at HA0
  rw [← hL, ← hu]
  have HA : Hid (Aft own w1 u p ⟨A, S, gsTo 0, 0, 0⟩) := HA0.out
  clear hL hu HA0
  go_loopw [30] (fun x wr => ∃ k : Nat, x = .int .i64 (k : Int) ∧ k ≤ 9 ∧ Hid (Aft own w1 wr p ⟨A, S, gsTo k, 0, 0⟩)) (fun x _ => 9 - (intOf x).toNat)
  case atStart => exact ⟨0, rfl, by omega, HA⟩
  case round =>
    clear HA
    obtain ⟨k, rfl, hk, HA⟩ := hrel
    by_cases hlt : k < 9
    · obtain ⟨h1, c1, f1⟩ := HV.out wr k hlt HA.out
      have H1 : Hid _ := h1
      clear h1
      go_wp2
      go_roundw
      case rel => exact ⟨k + 1, by go_num, by omega, H1⟩
      case measure => simp [intOf]; omega
    · obtain rfl : k = 9 := by omega
      have HL' : Hid _ := HLd.out wr S HA.out
      go_wp2_with fail
      refine Calls.mono HL'.out ?_
      rintro e w2 ⟨rfl, A', S', T, q1, q2, q3, q4⟩
      have HS' : Hid _ := HSy.out w2 A' S' T q1 q2 q3 q4
      clear q1 q2 q3 q4
      go_wp2_with fail
      refine Calls.mono HS'.out ?_
      rintro e w3 ⟨rfl, hs⟩
      have HS3 : Hid _ := hs
      clear hs
      go_wp2
      go_ret2
      rw [← HLL.out]
      exact ⟨rfl, HS3.out⟩

end Go.Proofs.Ytpfnkjfbhcffiaa

namespace Go.Proofs.Ytpfnkjfbhcffiaa
open Go.RowKit

/-- What is saved, by value. -/
def savV (s : W.Sv) (v : Value) : Value := .agg #[.int .i64 s.term, .int .i64 s.vote, .int .i64 s.base, .int .i64 s.bterm, .string s.data, v]

theorem clone_all {w : World} {v : Value} {l : List (Int × ByteArray)} (he : EntV w v l) (hlen : l.length ≤ 1099511627776) :
    ∀ u, Old w u → Calls Try.prog 45 #[v] u fun e w' =>
      ∃ v', e = .returned v' ∧ EntV w' v' l ∧ Below u.heap.size u w' ∧ ∀ q, rowBlk v' = some q → u.heap.size ≤ q := by
  intro u hu
  obtain ⟨p, c, hv, _⟩ := he.form
  have := clone_rest he hlen 0 (Nat.zero_le _) p l.length c hv u hu p (by
    split
    · rfl
    · cases p
      · rfl
      · rename_i a
        show some a = some (a.add (0 * 2))
        rw [Nat.zero_mul]
        unfold Addr.add
        rw [if_pos rfl])
  rw [Nat.sub_zero, Nat.sub_zero, List.drop_zero, ← hv] at this
  exact this

set_option maxHeartbeats 400000 in
theorem Saved_no {w : World} {p : Pl} {s : St} {own : Nat → Prop} (h : Lg w p s own) (g : Int) (hg : W.isGroup g = false) :
    Calls Try.prog 21 #[.pointer (some ⟨p.L, 0, none⟩), .int .i64 g] w fun e w' => e = .returned (.tuple #[.agg #[.int .i64 0, .int .i64 0, .int .i64 0, .int .i64 0, .string ⟨#[]⟩, .slice none 0 0], .int .i64 1]) ∧ Below w.heap.size w w' := by
  have HM : Hid (∀ u, Below w.heap.size w u → Calls Try.prog 28 #[.pointer (some ⟨p.L, 0, none⟩)] u fun e w' => e = .returned (.bool true) ∧ w' = u) := fun u hu => made_c (h.below hu)
  have HG : Hid _ := isGroup_c g
  rw [hg] at HG
  clear h hg
  go_enter Try.func21, Try.ntmps21
  go_wp2_with fail
  refine Calls.mono (HM.out _ (below_alloc _ _)) ?_
  rintro e w1 ⟨rfl, hw⟩
  subst hw
  go_wp2_with fail
  refine Calls.mono (HG.out _) ?_
  rintro e w1 ⟨rfl, hw⟩
  subst hw
  go_wp2
  refine bodyPost_ret (v := .tuple #[.agg #[.int .i64 0, .int .i64 0, .int .i64 0, .int .i64 0, .string ⟨#[]⟩, .slice none 0 0], .int .i64 1]) ?qres rfl ?qpost
  case qres => simp [results, Try.results21, go_sem]
  case qpost => exact ⟨rfl, below_alloc _ _⟩

set_option maxHeartbeats 800000 in
set_option maxRecDepth 20000 in
theorem Saved_c {w : World} {p : Pl} {s : St} {own : Nat → Prop} (h : Lg w p s own) (g : Nat) (g9 : g < 9) :
    Calls Try.prog 21 #[.pointer (some ⟨p.L, 0, none⟩), .int .i64 (g : Int)] w fun e w' => ∃ v', e = .returned (.tuple #[savV (s.gs g) v', .int .i64 0]) ∧ EntV w' v' (s.gs g).ents ∧ Below w.heap.size w w' ∧ ∀ q, rowBlk v' = some q → w.heap.size ≤ q := by
  have HM : Hid (∀ u, Below w.heap.size w u → Calls Try.prog 28 #[.pointer (some ⟨p.L, 0, none⟩)] u fun e w' => e = .returned (.bool true) ∧ w' = u) := fun u hu => made_c (h.below hu)
  have HG : Hid _ := isGroup_c (g : Int)
  rw [W.isGroup_iff.2 ⟨by omega, by omega⟩] at HG
  obtain ⟨dk, E, h⟩ := h
  have hlt := h.lt
  have q := h.sv g g9
  have HC : Hid _ := clone_all (h.ent g g9) (by
    have := (h.ok g).last
    have := (h.ok g).base
    unfold W.last at *
    omega)
  obtain ⟨pp, c, hv, _⟩ := (h.ent g g9).form
  have x0 := q.c0
  have x1 := q.c1
  have x2 := q.c2
  have x3 := q.c3
  have x4 := q.c4
  have x5 := q.c5
  rw [hv] at x5 HC
  unfold savV
  obtain ⟨sv, hsv⟩ : ∃ sv, sv = s.gs g := ⟨_, rfl⟩
  rw [← hsv] at x0 x1 x2 x3 x4 x5 HC ⊢
  clear q hv hsv
  obtain ⟨t, v, bs, bt, dt, es⟩ := sv
  dsimp only at x0 x1 x2 x3 x4 x5 HC ⊢
  obtain ⟨n, hn⟩ : ∃ n, n = es.length := ⟨_, rfl⟩
  rw [← hn] at x5 HC
  obtain ⟨L, hL⟩ : ∃ L, L = p.L := ⟨_, rfl⟩
  rw [← hL] at x0 x1 x2 x3 x4 x5 hlt HM ⊢
  have hg0 : (0 : Int) ≤ (g : Int) := by omega
  have hg9' : (g : Int) < 9 := by omega
  clear h hn hL
  go_enter Try.func21, Try.ntmps21
  go_wp2_with fail
  refine Calls.mono (HM.out _ (below_alloc _ _)) ?_
  rintro e w1 ⟨rfl, hw⟩
  subst hw
  go_wp2_with fail
  refine Calls.mono (HG.out _) ?_
  rintro e w1 ⟨rfl, hw⟩
  subst hw
  go_wp2_with fail
  obtain ⟨u, hu⟩ : ∃ u, u = (w.alloc (.cells #[.int .i64 0, .int .i64 0, .int .i64 0, .int .i64 0, .string ⟨#[]⟩, .slice none 0 0] 45)).alloc (.cells #[.int .i64 t, .int .i64 v, .int .i64 bs, .int .i64 bt, .string dt, .slice pp n c] 45) := ⟨_, rfl⟩
  obtain ⟨a, ha⟩ : ∃ a, a = w.heap.size := ⟨_, rfl⟩
  have hus : u.heap.size = a + 2 := by rw [hu, ha]; simp
  have hBu : Below w.heap.size w u := by rw [hu]; exact (below_alloc _ _).trans ((below_alloc _ _).mono (by simp))
  have ua : ∀ j, u.cell? ⟨a, j, none⟩ = (#[.int .i64 0, .int .i64 0, .int .i64 0, .int .i64 0, .string ⟨#[]⟩, .slice none 0 0] : Array Value)[j]? := by
    intro j
    rw [hu, ha, World.cell?_alloc_lt _ _ _ (by simp)]
    exact World.cell?_alloc_mark w _ _ _ j
  have ub : ∀ j, u.cell? ⟨a + 1, j, none⟩ = (#[.int .i64 t, .int .i64 v, .int .i64 bs, .int .i64 bt, .string dt, .slice pp n c] : Array Value)[j]? := by
    intro j
    have e := World.cell?_alloc_mark (w.alloc (.cells #[.int .i64 0, .int .i64 0, .int .i64 0, .int .i64 0, .string ⟨#[]⟩, .slice none 0 0] 45)) #[.int .i64 t, .int .i64 v, .int .i64 bs, .int .i64 bt, .string dt, .slice pp n c] 45 (0, 0) j
    rw [← e, hu, ha]
    simp
  have fa : ∀ j, u.frozen? ⟨a, j, none⟩ = false := by
    intro j
    rw [hu, ha, World.frozen?_alloc_old _ _ _ (by simp), World.frozen?_alloc_mark]
    simp
  have fb : ∀ j, u.frozen? ⟨a + 1, j, none⟩ = false := by
    intro j
    rw [hu, ha]
    simp [go_sem]
  have HBu : Hid _ := hBu
  have Ha : Hid (a = w.heap.size) := ha
  rw [← hu, ← ha]
  clear hu ha hBu x0 x1 x2 x3 x4 x5
  refine Calls.mono (HC.out _ (fun k hk => HBu.out.block k hk)) ?_
  rintro e w3 ⟨v', rfl, hen, hb, hrb⟩
  have la : a < u.heap.size := by omega
  have lb : a + 1 < u.heap.size := by omega
  have ca : ∀ j, w3.cell? ⟨a, j, none⟩ = (#[.int .i64 0, .int .i64 0, .int .i64 0, .int .i64 0, .string ⟨#[]⟩, .slice none 0 0] : Array Value)[j]? := fun j => (hb.cell (p := ⟨a, j, none⟩) la).trans (ua j)
  have cb : ∀ j, w3.cell? ⟨a + 1, j, none⟩ = (#[.int .i64 t, .int .i64 v, .int .i64 bs, .int .i64 bt, .string dt, .slice pp n c] : Array Value)[j]? := fun j => (hb.cell (p := ⟨a + 1, j, none⟩) lb).trans (ub j)
  have ga : ∀ j, w3.frozen? ⟨a, j, none⟩ = false := fun j => (hb.frozen (p := ⟨a, j, none⟩) la).trans (fa j)
  have gb : ∀ j, w3.frozen? ⟨a + 1, j, none⟩ = false := fun j => (hb.frozen (p := ⟨a + 1, j, none⟩) lb).trans (fb j)
  have a0 : w3.cell? ⟨a, 0, none⟩ = some (.int .i64 0) := ca 0
  have a1 : w3.cell? ⟨a, 1, none⟩ = some (.int .i64 0) := ca 1
  have a2 : w3.cell? ⟨a, 2, none⟩ = some (.int .i64 0) := ca 2
  have a3 : w3.cell? ⟨a, 3, none⟩ = some (.int .i64 0) := ca 3
  have a4 : w3.cell? ⟨a, 4, none⟩ = some (.string ⟨#[]⟩) := ca 4
  have a5 : w3.cell? ⟨a, 5, none⟩ = some (.slice none 0 0) := ca 5
  have b0 : w3.cell? ⟨a + 1, 0, none⟩ = some (.int .i64 t) := cb 0
  have b1 : w3.cell? ⟨a + 1, 1, none⟩ = some (.int .i64 v) := cb 1
  have b2 : w3.cell? ⟨a + 1, 2, none⟩ = some (.int .i64 bs) := cb 2
  have b3 : w3.cell? ⟨a + 1, 3, none⟩ = some (.int .i64 bt) := cb 3
  have b4 : w3.cell? ⟨a + 1, 4, none⟩ = some (.string dt) := cb 4
  have b5 : w3.cell? ⟨a + 1, 5, none⟩ = some (.slice pp n c) := cb 5
  have HX : Hid (EntV w3 v' es ∧ (∀ q, rowBlk v' = some q → a + 2 ≤ q) ∧ Below w.heap.size w w3) := ⟨hen, by rw [← hus]; exact hrb, HBu.out.trans (hb.mono HBu.out.size)⟩
  obtain ⟨p', c', hv', _⟩ := hen.form
  obtain ⟨n', hn'⟩ : ∃ n', n' = es.length := ⟨_, rfl⟩
  rw [← hn'] at hv'
  subst hv'
  clear hen hb hrb ca cb ua ub fa fb la lb hus hn'
  go_wp2
  refine bodyPost_ret (v := .tuple #[.agg #[.int .i64 t, .int .i64 v, .int .i64 bs, .int .i64 bt, .string dt, .slice p' n' c'], .int .i64 0]) ?qres rfl ?qpost
  case qres => simp [results, Try.results21, go_sem, a0, a1, a2, a3, a4, a5]
  case qpost =>
    obtain ⟨h1, h2, h3⟩ := HX.out
    have e := Ha.out
    refine ⟨_, rfl, RowV.carry h1 (fun q hq => ?_), ?_, fun q hq => by have := h2 q hq; omega⟩
    · have := h2 q hq
      rw [Below.heap_setCell _ _ _ _ (by show q ≠ a; omega), Below.heap_setCell _ _ _ _ (by show q ≠ a; omega), Below.heap_setCell _ _ _ _ (by show q ≠ a; omega), Below.heap_setCell _ _ _ _ (by show q ≠ a; omega), Below.heap_setCell _ _ _ _ (by show q ≠ a; omega), Below.heap_setCell _ _ _ _ (by show q ≠ a; omega), Below.heap_setCell _ _ _ _ (by show q ≠ a + 1; omega)]
    · exact ((((((h3.setCell (by show _ ≤ a + 1; omega) _).setCell (by show _ ≤ a; omega) _).setCell (by show _ ≤ a; omega) _).setCell (by show _ ≤ a; omega) _).setCell (by show _ ≤ a; omega) _).setCell (by show _ ≤ a; omega) _).setCell (by show _ ≤ a; omega) _

end Go.Proofs.Ytpfnkjfbhcffiaa

namespace Go.Proofs.Ytpfnkjfbhcffiaa
open Go.RowKit

/-- A disk with nothing on it. -/
theorem disky_empty : Disky (fun _ => []) (fun _ => W.new) 0 [] [] :=
  ⟨by omega, by show 0 < 200; omega, fun i l h => by simp at h, trivial, .inl ⟨take_empty, rfl⟩⟩

/-- A log on an empty disk. -/
structure Fresh (w w' : World) (p : Pl) (s : St) (own : Nat → Prop) : Prop where
  lg : Lg w' p s own
  mine : ∀ k, own k → w.heap.size ≤ k
  old : Below w.heap.size w w'
  A : ∀ i, i < 256 → s.A i = []
  S : ∀ i, i < 256 → s.S i = 0
  gs : s.gs = fun _ => W.new
  n : s.n = 0
  room : p.room = 4194304

set_option maxHeartbeats 400000 in
theorem begun_c (lim : Nat) (hl : 1 ≤ lim ∧ lim ≤ 16777216) (w : World) :
    Calls Try.prog 9 #[.int .i64 (lim : Int)] w fun e w' => ∃ p s own, e = .returned (.tuple #[.pointer (some ⟨p.b, 0, none⟩), .pointer (some ⟨p.L, 0, none⟩), .bool true]) ∧ p.limit = lim ∧ Fresh w w' p s own := by
  have HN : Hid _ := New_yes 4194304 w (by omega)
  have HO : Hid (∀ u, u = w.alloc (.cells (newCells ((4194304 : Nat) : Int)) 65) → Calls Try.prog 8 #[.pointer (some ⟨w.heap.size, 0, none⟩), .int .i64 (lim : Int)] u fun e w' => ∃ p s own, e = .returned (.tuple #[.pointer (some ⟨p.L, 0, none⟩), .int .i64 0]) ∧ p.b = w.heap.size ∧ p.limit = lim ∧ Fresh w w' p s own) := by
    intro u hu
    have hd := dk_new w 4194304 (by omega)
    rw [← hu] at hd
    have hus : u.heap.size = w.heap.size + 1 := by rw [hu]; simp
    have hB : Below w.heap.size w u := by rw [hu]; exact below_alloc _ _
    refine (Open_c hd (fun k hk => False.elim hk) lim hl disky_empty).mono ?_
    rintro e w' ⟨rfl, s, ho⟩
    have hf : found [] [] = ([] : List (List W.Rec)) := rfl
    rw [hf] at ho
    have hA : ∀ i, i < 256 → s.A i = [] := fun i hi => by rw [ho.files i hi]; unfold imgA; simp
    refine ⟨_, s, _, rfl, rfl, rfl, ⟨ho.aft.1, ?_, ?_, hA, fun i hi => by rw [ho.sure i hi, hA i hi]; rfl, ho.gs, ho.n, rfl⟩⟩
    · intro k q
      rcases q with (e | e) | e
      · omega
      · exact False.elim e
      · omega
    · refine hB.trans (ho.aft.2.below (fun k q => ?_) (by omega))
      rcases q with e | e
      · omega
      · exact False.elim e
  clear hl
  go_enter Try.func9, Try.ntmps9
  go_wp2_with fail
  refine Calls.mono HN.out ?_
  rintro e w1 ⟨rfl, hw⟩
  have HO' : Hid _ := HO.out w1 hw
  clear HO hw
  go_wp2_with fail
  refine Calls.mono HO'.out ?_
  rintro e w2 ⟨p, s, own, rfl, hb, hlim, hf⟩
  have HF : Hid _ := hf
  have HL : Hid _ := hlim
  have HB : Hid _ := hb
  clear hf hlim hb
  go_wp2
  go_ret3
  exact ⟨p, s, own, by rw [HB.out]; rfl, HL.out, HF.out⟩

theorem tot_nil {A : Nat → List UInt8} (h : ∀ i, i < 256 → A i = []) : tot A = 0 := by
  have : ∀ n, n ≤ 256 → totTo A n = 0 := by
    intro n
    induction n with
    | zero => intro _; rfl
    | succ n ih => intro hn; rw [totTo, ih (by omega), h n (by omega)]; rfl
  exact this 256 (by omega)

theorem wx_size (lim : Nat) (s : St) (ht : s.turn ≤ 1) (r : W.Rec) (hm : W.may r = true) : (wx lim s (W.recB r)).size ≤ 131136 := by
  have h1 := recB_size hm
  unfold wx
  split
  · rw [size_app, head_size10 _ ht]; omega
  · omega

theorem wr_tot (lim : Nat) (s : St) (x : ByteArray) (hc : cl lim s < 256) : tot (wr lim s x).A = tot s.A + (wx lim s x).size := by
  have e : (wr lim s x).A = upd s.A (cl lim s) (s.A (cl lim s) ++ (wx lim s x).data.toList) := by unfold wr; split <;> rfl
  rw [e]
  have := tot_upd s.A hc (s.A (cl lim s) ++ (wx lim s x).data.toList)
  rw [List.length_append, F.toL_length] at this
  omega

theorem wr_n (lim : Nat) (s : St) (x : ByteArray) : (wr lim s x).n = cl lim s + 1 := by unfold wr; split <;> rfl
theorem wr_turn (lim : Nat) (s : St) (x : ByteArray) : (wr lim s x).turn = s.turn := by unfold wr; split <;> rfl

/-- One append more, that is not refused. -/
theorem app_next {w : World} {p : Pl} {s : St} {own : Nat → Prop} (h : Lg w p s own) (r : W.Rec) (hc : W.chk s.gs r = 0) (hroom : tot s.A + 131136 ≤ p.room) (hn : s.n < 200) :
    Calls Try.prog 13 #[.pointer (some ⟨p.L, 0, none⟩), recV r] w fun e w' => e = .returned (.int .i64 0) ∧ Aft own w w' p (appd p.limit s r) := by
  have hcl := cl_le p.limit s
  exact Append_yes h r hc (by have := wx_size p.limit s h.tt r (chk_may hc); omega) (by omega)

theorem appd_tot (lim : Nat) (s : St) (r : W.Rec) (ht : s.turn ≤ 1) (hm : W.may r = true) (hn : s.n < 200) : tot (appd lim s r).A ≤ tot s.A + 131136 ∧ (appd lim s r).n ≤ s.n + 1 := by
  have hcl := cl_le lim s
  have h1 := wr_tot lim s (W.recB r) (by omega)
  have h2 := wx_size lim s ht r hm
  have h3 := wr_n lim s (W.recB r)
  refine ⟨?_, ?_⟩
  · show tot (wr lim s (W.recB r)).A ≤ _; omega
  · show (wr lim s (W.recB r)).n ≤ _; omega

def aw1 : W.Rec := ⟨0, 2, 2, 1, 0, ⟨#[]⟩⟩
def aw2 : W.Rec := ⟨0, 2, 1, 1, 0, ⟨#[120]⟩⟩
def aw3 : W.Rec := ⟨3, 1, 0, 4, 2, ⟨#[]⟩⟩

theorem aw_c1 : W.chk (fun _ => W.new) aw1 = 50 := by decide
theorem aw_c2 : W.chk (fun _ => W.new) aw2 = 0 := by decide
theorem aw_c3 : W.chk (W.doR (fun _ => W.new) aw2) aw3 = 0 := by simp [W.chk, W.may, W.mayK, W.mayHard, aw3, W.isGroup, W.ix, W.fits, ByteArray.toList_eq]
theorem aw_g0 : W.doR (W.doR (fun _ => W.new) aw2) aw3 0 = { W.new with ents := [(1, ⟨#[120]⟩)] } := by rfl
theorem aw_g3 : W.doR (W.doR (fun _ => W.new) aw2) aw3 3 = { W.new with term := 4, vote := 2 } := by rfl

set_option maxHeartbeats 1600000 in
set_option maxRecDepth 20000 in
theorem awake_c (w : World) : Calls Try.prog 6 #[] w fun e w' => e = .returned (.bool true) ∧ Below w.heap.size w w' := by
  have HB : Hid _ := begun_c 100 (by omega) w
  go_enter Try.func6, Try.ntmps6
  go_wp2_with fail
  refine Calls.mono HB.out ?_
  rintro e w1 ⟨p, s, own, rfl, hlim, hf⟩
  have hlg := hf.lg
  have hgs := hf.gs
  have htot := tot_nil hf.A
  have hn := hf.n
  have hroom := hf.room
  have H1 : Hid (Calls Try.prog 13 #[.pointer (some ⟨p.L, 0, none⟩), .agg #[.int .i64 0, .int .i64 2, .int .i64 2, .int .i64 1, .int .i64 0, .string ⟨#[]⟩]] w1 fun e w' => e = .returned (.int .i64 50) ∧ Below w1.heap.size w1 w') := by
    have := Append_no hlg aw1 (by rw [hgs, aw_c1]; decide)
    rw [hgs, aw_c1] at this
    exact this
  have H2 : Hid (∀ u, Below w1.heap.size w1 u → Calls Try.prog 13 #[.pointer (some ⟨p.L, 0, none⟩), .agg #[.int .i64 0, .int .i64 2, .int .i64 1, .int .i64 1, .int .i64 0, .string ⟨#[120]⟩]] u fun e w' => e = .returned (.int .i64 0) ∧ Aft own w1 w' p (appd p.limit s aw2)) := by
    intro u hu
    refine (app_next (hlg.below hu) aw2 (by rw [hgs]; exact aw_c2) (by omega) (by omega)).mono ?_
    rintro e w' ⟨rfl, h⟩
    exact ⟨rfl, Aft.from hu h⟩
  have hg1 : (appd p.limit s aw2).gs = W.doR (fun _ => W.new) aw2 := by rw [← hgs]; rfl
  have htt : (appd p.limit s aw2).turn = s.turn := wr_turn _ _ _
  have hb1 := appd_tot p.limit s aw2 hlg.tt (by decide) (by omega)
  have H3 : Hid (∀ u, Aft own w1 u p (appd p.limit s aw2) → Calls Try.prog 13 #[.pointer (some ⟨p.L, 0, none⟩), .agg #[.int .i64 3, .int .i64 1, .int .i64 0, .int .i64 4, .int .i64 2, .string ⟨#[]⟩]] u fun e w' => e = .returned (.int .i64 0) ∧ Aft own w1 w' p (appd p.limit (appd p.limit s aw2) aw3)) := by
    intro u hu
    refine (app_next hu.1 aw3 (by rw [hg1]; exact aw_c3) (by omega) (by omega)).mono ?_
    rintro e w' ⟨rfl, h⟩
    exact ⟨rfl, hu.trans h⟩
  have hg2 : (appd p.limit (appd p.limit s aw2) aw3).gs = W.doR (W.doR (fun _ => W.new) aw2) aw3 := by rw [← hg1]; rfl
  have H4 : Hid (∀ u, Aft own w1 u p (appd p.limit (appd p.limit s aw2) aw3) → Calls Try.prog 21 #[.pointer (some ⟨p.L, 0, none⟩), .int .i64 0] u fun e w' => ∃ pp c, e = .returned (.tuple #[.agg #[.int .i64 0, .int .i64 (-1), .int .i64 0, .int .i64 0, .string ⟨#[]⟩, .slice pp 1 c], .int .i64 0]) ∧ Below u.heap.size u w') := by
    intro u hu
    refine (Saved_c hu.1 0 (by omega)).mono ?_
    rintro e w' ⟨v', rfl, h1, h2, _⟩
    rw [hg2, aw_g0] at h1 ⊢
    obtain ⟨pp, c, hv, _⟩ := RowV.form h1
    exact ⟨pp, c, by rw [hv]; rfl, h2⟩
  have H5 : Hid (∀ u, Aft own w1 u p (appd p.limit (appd p.limit s aw2) aw3) → Calls Try.prog 21 #[.pointer (some ⟨p.L, 0, none⟩), .int .i64 3] u fun e w' => ∃ pp c, e = .returned (.tuple #[.agg #[.int .i64 4, .int .i64 2, .int .i64 0, .int .i64 0, .string ⟨#[]⟩, .slice pp 0 c], .int .i64 0]) ∧ Below u.heap.size u w') := by
    intro u hu
    refine (Saved_c hu.1 3 (by omega)).mono ?_
    rintro e w' ⟨v', rfl, h1, h2, _⟩
    rw [hg2, aw_g3] at h1 ⊢
    obtain ⟨pp, c, hv, _⟩ := RowV.form h1
    exact ⟨pp, c, by rw [hv]; rfl, h2⟩
  have HF : Hid (∀ u s', Aft own w1 u p s' → Below w.heap.size w u) := by
    intro u s' hu
    refine hf.old.trans (hu.2.below hf.mine ?_)
    exact hf.old.size
  have HQ : Hid (∀ u u', Aft own w1 u p (appd p.limit (appd p.limit s aw2) aw3) → Below u.heap.size u u' → Aft own w1 u' p (appd p.limit (appd p.limit s aw2) aw3)) := fun u u' h1 h2 => h1.trans (Aft.same h1.1 h2)
  obtain ⟨s1, hs1⟩ : ∃ s1, s1 = appd p.limit s aw2 := ⟨_, rfl⟩
  obtain ⟨s2, hs2⟩ : ∃ s2, s2 = appd p.limit (appd p.limit s aw2) aw3 := ⟨_, rfl⟩
  rw [← hs2] at H3 H4 H5 HQ
  rw [← hs1] at H2 H3
  obtain ⟨L, hL⟩ : ∃ L, L = p.L := ⟨_, rfl⟩
  obtain ⟨b, hb⟩ : ∃ b, b = p.b := ⟨_, rfl⟩
  rw [← hL] at H1 H2 H3 H4 H5 ⊢
  rw [← hb]
  clear hlg hgs htot hn hroom hf hg1 hg2 htt hb1 hs1 hs2 hL hb hlim HB
  go_wp2_with fail
  refine Calls.mono H1.out ?_
  rintro e w2 ⟨rfl, hb2⟩
  have H2' : Hid _ := H2.out w2 hb2
  clear hb2
  go_wp2_with fail
  refine Calls.mono H2'.out ?_
  rintro e w3 ⟨rfl, h3⟩
  have H3' : Hid _ := H3.out w3 h3
  clear h3
  go_wp2_with fail
  refine Calls.mono H3'.out ?_
  rintro e w4 ⟨rfl, h4⟩
  have H4' : Hid _ := H4.out w4 h4
  have HA4 : Hid _ := h4
  clear h4
  go_wp2_with fail
  refine Calls.mono H4'.out ?_
  rintro e w5 ⟨pp, c, rfl, hb5⟩
  have HA5 : Hid (Aft own w1 w5 p s2) := HQ.out _ _ HA4.out hb5
  clear hb5
  go_wp2_with fail
  obtain ⟨u, hu⟩ : ∃ u, u = w5.alloc (.cells #[.int .i64 0, .int .i64 (-1), .int .i64 0, .int .i64 0, .string ⟨#[]⟩, .slice pp 1 c] 45) := ⟨_, rfl⟩
  obtain ⟨bx, hbx⟩ : ∃ bx, bx = w5.heap.size := ⟨_, rfl⟩
  have HAu : Hid (Aft own w1 u p s2) := HQ.out _ _ HA5.out (by rw [hu]; exact below_alloc _ _)
  have hbu : bx < u.heap.size := by rw [hu, hbx]; simp
  have ub : ∀ j, u.cell? ⟨bx, j, none⟩ = (#[.int .i64 0, .int .i64 (-1), .int .i64 0, .int .i64 0, .string ⟨#[]⟩, .slice pp 1 c] : Array Value)[j]? := by intro j; rw [hu, hbx]; exact World.cell?_alloc_mark w5 _ _ _ j
  rw [← hu, ← hbx]
  clear hu hbx
  refine Calls.mono (H5.out u HAu.out) ?_
  rintro e w6 ⟨p2, c2, rfl, hb6⟩
  have y1 : w6.cell? ⟨bx, 1, none⟩ = some (.int .i64 (-1)) := (hb6.cell (p := ⟨bx, 1, none⟩) hbu).trans (ub 1)
  have y5 : w6.cell? ⟨bx, 5, none⟩ = some (.slice pp 1 c) := (hb6.cell (p := ⟨bx, 5, none⟩) hbu).trans (ub 5)
  have hb6' : bx < w6.heap.size := Nat.lt_of_lt_of_le hbu hb6.size
  have HA6 : Hid (Aft own w1 w6 p s2) := HQ.out _ _ HAu.out hb6
  clear hb6 ub hbu
  go_wp2
  go_ret
  exact ⟨rfl, (HF.out _ _ HA6.out).trans ((below_alloc _ _).mono (HF.out _ _ HA6.out).size)⟩

end Go.Proofs.Ytpfnkjfbhcffiaa
