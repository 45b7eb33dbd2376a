/-
  A raft node is made, as it was saved.
-/
import Derived.Test.YteaopnhjndnpnaaNdLog
import Derived.Laws.EntriesVeiled
namespace Go.Proofs.Yteaopnhjndnpnaa
open Go.RowKit

/-- Entries that can be read there. -/
def EntRd (w : World) (v : Value) (l : List (Int × ByteArray)) : Prop :=
  ∃ p c, v = .slice p l.length c ∧ l.length ≤ c ∧ c ≤ maxLen ∧ ∀ k x, l[k]? = some x → ∃ g off, p = some ⟨g, off, none⟩ ∧ g < w.heap.size ∧ w.cell? ⟨g, off + k * 2, none⟩ = some (.int .i64 x.1) ∧ w.cell? ⟨g, off + k * 2 + 1, none⟩ = some (.string x.2)

theorem EntRd.ofRow {w : World} {v : Value} {l : List (Int × ByteArray)} (h : RowC w 2 v l.length (entCells l)) : EntRd w v l := by
  obtain ⟨p, c, hv, h1, h2⟩ := h.form
  refine ⟨p, c, hv, h1, h2, fun k x hx => ?_⟩
  have hk := (List.getElem?_eq_some_iff.1 hx).1
  obtain ⟨g, off, c', hv', _, _, _, h3⟩ := h.cells (by omega)
  obtain ⟨e1, e2⟩ := entCells_at l k x hx
  rw [hv] at hv'
  injection hv' with hp
  have y := h3 _ _ e1
  exact ⟨g, off, hp, World.block_lt_of_cell? _ _ y, y, by have := h3 _ _ e2; rw [← Nat.add_assoc] at this; exact this⟩
theorem EntRd.below {w w' : World} {v : Value} {l : List (Int × ByteArray)} (h : EntRd w v l) (hb : Below w.heap.size w w') : EntRd w' v l := by
  obtain ⟨p, c, hv, h1, h2, h3⟩ := h
  refine ⟨p, c, hv, h1, h2, fun k x hx => ?_⟩
  obtain ⟨g, off, hp, hg, y1, y2⟩ := h3 k x hx
  exact ⟨g, off, hp, Nat.lt_of_lt_of_le hg hb.size, (hb.cell (p := ⟨g, off + k * 2, none⟩) hg).trans y1, (hb.cell (p := ⟨g, off + k * 2 + 1, none⟩) hg).trans y2⟩

/-- What was saved, as a value. -/
def svV (s : N.Sv) (v : Value) : Value := .agg #[.int .i64 s.term, .int .i64 s.vote, .int .i64 s.base, .int .i64 s.baseTerm, .string s.data, v]

/-- What was saved may be. -/
structure SvOk (s : N.Sv) : Prop where
  t : 0 ≤ s.term ∧ s.term ≤ 1099511627776
  b : 0 ≤ s.base ∧ s.base ≤ 1099511627776
  bt : 0 ≤ s.baseTerm ∧ s.baseTerm ≤ 1099511627776
  d : s.data.size ≤ 262144
  app : ∀ k x, s.ents[k]? = some x → G.appE ⟨s.base, s.baseTerm, s.ents.take k⟩ x = 0
  top : G.termA ⟨s.base, s.baseTerm, s.ents⟩ (G.last ⟨s.base, s.baseTerm, s.ents⟩) ≤ s.term

theorem isIndex_c (w : World) (n : Int) (hn : 0 ≤ n ∧ n ≤ 1099511627776) : Calls Try.prog 61 #[.int .i64 n] w fun e w' => e = .returned (.bool true) ∧ w' = w := by
  have d1 : decide ((0 : Int) ≤ n) = true := decide_eq_true hn.1
  have d2 : decide (n ≤ 1099511627776) = true := decide_eq_true hn.2
  clear hn
  go_enter Try.func61, Try.ntmps61
  go_wp2
  go_ret
  exact ⟨rfl, rfl⟩

theorem isPlace_c (w : World) (g : Int) (id nodes : Nat) (hg : 0 ≤ g ∧ g < 9) (hi : id < nodes) (hn : nodes ≤ 7) : Calls Try.prog 43 #[.int .i64 g, .int .i64 (id : Int), .int .i64 (nodes : Int)] w fun e w' => e = .returned (.bool true) ∧ w' = w := by
  have d1 : decide ((0 : Int) ≤ g) = true := decide_eq_true hg.1
  have d2 : decide (g < 9) = true := decide_eq_true hg.2
  have d3 : (1 : Int) ≤ (nodes : Int) := by omega
  have d4 : (nodes : Int) ≤ 7 := by omega
  have d5 : (0 : Int) ≤ (id : Int) := by omega
  have d6 : (id : Int) < (nodes : Int) := by omega
  clear hg hi hn
  go_enter Try.func43, Try.ntmps43
  go_wp2
  go_ret
  exact ⟨rfl, rfl⟩

theorem mayBeSaved_c (w : World) (s : N.Sv) (v : Value) (nodes : Nat) (ht : 0 ≤ s.term ∧ s.term ≤ 1099511627776) (hv : -1 ≤ s.vote ∧ s.vote < (nodes : Int)) (hd : s.data.size ≤ 262144) :
    Calls Try.prog 44 #[svV s v, .int .i64 (nodes : Int)] w fun e w' => e = .returned (.bool true) ∧ Below w.heap.size w w' := by
  have HI : Hid (∀ u, Calls Try.prog 61 #[.int .i64 s.term] u fun e w' => e = .returned (.bool true) ∧ w' = u) := fun u => isIndex_c u _ ht
  have d1 : decide ((-1 : Int) ≤ s.vote) = true := decide_eq_true hv.1
  have d2 : decide (s.vote < (nodes : Int)) = true := decide_eq_true hv.2
  have d3 : decide ((s.data.size : Int) ≤ 262144) = true := decide_eq_true (by omega)
  obtain ⟨t, vo, b, bt, d, en⟩ := s
  unfold svV
  dsimp only at *
  clear ht hv hd
  go_enter Try.func44, Try.ntmps44
  go_wp2_with fail
  refine Calls.mono (HI.out _) ?_
  rintro e w1 ⟨rfl, hw⟩
  subst hw
  go_wp2
  go_ret
  exact ⟨rfl, below_alloc _ _⟩

/-- What a call of a log of one's own leaves. -/
theorem Aft.up {u w' : World} {LB : Nat} {s' : G.L} (h : Aft (fun k => LB < k ∧ k < u.heap.size) u w' LB s') (hl : LB < u.heap.size) : Lg w' LB s' (fun k => LB < k ∧ k < w'.heap.size) ∧ Below LB u w' := by
  obtain ⟨h1, h2⟩ := h
  have := h2.size
  refine ⟨h1.wider (fun k hk => ?_) (fun k hk => ⟨hk.2, by omega⟩), h2.below (Nat.le_refl _) (fun k hk => by omega) (by omega)⟩
  rcases hk with e | e <;> omega

/-- While a log is filled with what was saved. -/
structure Fill (w : World) (s : N.Sv) (v : Value) (k : Nat) (wr : World) : Prop where
  old : Below w.heap.size w wr
  lt : w.heap.size + 1 < wr.heap.size
  box : ∀ j, wr.cell? ⟨w.heap.size, j, none⟩ = (#[.int .i64 s.term, .int .i64 s.vote, .int .i64 s.base, .int .i64 s.baseTerm, .string s.data, v] : Array Value)[j]?
  rd : EntRd w v s.ents
  log : Lg wr (w.heap.size + 1) ⟨s.base, s.baseTerm, s.ents.take k⟩ (fun j => w.heap.size + 1 < j ∧ j < wr.heap.size)

theorem Fill.below {w wr X : World} {s : N.Sv} {v : Value} {k : Nat} (h : Fill w s v k wr) (hb : Below wr.heap.size wr X) : Fill w s v k X :=
  ⟨h.old.trans (hb.mono h.old.size), Nat.lt_of_lt_of_le h.lt hb.size, fun j => (hb.cell (p := ⟨w.heap.size, j, none⟩) (by have := h.lt; show w.heap.size < _; omega)).trans (h.box j), h.rd,
    (h.log.below hb).wider (fun j hj => ⟨hj.1, Nat.lt_of_lt_of_le hj.2 hb.size⟩) (fun j hj => ⟨hj.2, by omega⟩)⟩

theorem Fill.step {w wr X : World} {s : N.Sv} {v : Value} {k : Nat} {x : Int × ByteArray} (h : Fill w s v k wr) (hx : s.ents[k]? = some x) (h0 : G.appE ⟨s.base, s.baseTerm, s.ents.take k⟩ x = 0)
    (ha : Aft (fun j => w.heap.size + 1 < j ∧ j < wr.heap.size) wr X (w.heap.size + 1) (G.app ⟨s.base, s.baseTerm, s.ents.take k⟩ x)) : Fill w s v (k + 1) X := by
  obtain ⟨h1, h2⟩ := ha.up h.lt
  have e : G.app ⟨s.base, s.baseTerm, s.ents.take k⟩ x = ⟨s.base, s.baseTerm, s.ents.take (k + 1)⟩ := by
    unfold G.app
    rw [if_pos h0]
    have : s.ents.take (k + 1) = s.ents.take k ++ [x] := by
      rw [List.take_add_one, hx]
      rfl
    rw [this]
  rw [e] at h1
  have := h.lt
  exact ⟨h.old.trans (h2.mono (by omega)), Nat.lt_of_lt_of_le h.lt h2.size, fun j => (h2.cell (p := ⟨w.heap.size, j, none⟩) (by show w.heap.size < _; omega)).trans (h.box j), h.rd, h1⟩

set_option maxHeartbeats 800000 in
set_option maxRecDepth 20000 in
theorem logOf_c (w : World) (s : N.Sv) (v : Value) (hs : SvOk s) (hv : EntRd w v s.ents) :
    Calls Try.prog 45 #[svV s v] w fun e w' => e = .returned (.tuple #[.pointer (some ⟨w.heap.size + 1, 0, none⟩), .bool true]) ∧ Below w.heap.size w w' ∧ w.heap.size + 1 < w'.heap.size ∧ Lg w' (w.heap.size + 1) ⟨s.base, s.baseTerm, s.ents⟩ (fun j => w.heap.size + 1 < j ∧ j < w'.heap.size) := by
  obtain ⟨p, c, hp, hc1, hc2, hrest⟩ := id hv
  clear hrest
  have HS : Hid (SvOk s) := hs
  have HV : Hid (EntRd w v s.ents) := hv
  obtain ⟨n, hn⟩ : ∃ n, n = s.ents.length := ⟨_, rfl⟩
  have HN : Hid (n = s.ents.length) := hn
  have HF : Hid (∀ X u : World, u = w.alloc (.cells #[.int .i64 s.term, .int .i64 s.vote, .int .i64 s.base, .int .i64 s.baseTerm, .string s.data, v] 44) → Lg X u.heap.size ⟨s.base, s.baseTerm, []⟩ (fun k => u.heap.size < k ∧ k < X.heap.size) → Below u.heap.size u X → Fill w s v 0 X) := by
    rintro X u rfl hl hb
    have e1 : (w.alloc (.cells #[.int .i64 s.term, .int .i64 s.vote, .int .i64 s.base, .int .i64 s.baseTerm, .string s.data, v] 44)).heap.size = w.heap.size + 1 := by simp
    rw [e1] at hl hb
    refine ⟨(below_alloc w _).trans (hb.mono (by omega)), hl.lt, fun j => ?_, hv, hl⟩
    rw [hb.cell (p := ⟨w.heap.size, j, none⟩) (by show w.heap.size < _; omega)]
    exact World.cell?_alloc_mark w _ _ _ j
  have HL : Hid (∀ u : World, Calls Try.prog 52 #[.int .i64 s.base, .int .i64 s.baseTerm] u fun e w' => e = .returned (.tuple #[.pointer (some ⟨u.heap.size, 0, none⟩), .int .i64 0]) ∧ Lg w' u.heap.size ⟨s.base, s.baseTerm, []⟩ (fun k => u.heap.size < k ∧ k < w'.heap.size) ∧ Below u.heap.size u w') :=
    fun u => New_yes u s.base s.baseTerm ⟨hs.b.1, hs.b.2, hs.bt.1, hs.bt.2⟩
  subst hp
  rw [← hn] at HF
  unfold svV
  rw [← hn]
  clear hs hv hn
  go_enter Try.func45, Try.ntmps45
  go_wp2_with fail
  refine Calls.mono (HL.out _) ?_
  rintro e w1 ⟨rfl, hl1, hb1⟩
  have HF1 : Hid (Fill w s (Value.slice p n c) 0 w1) := HF.out w1 _ rfl hl1 hb1
  have k5 : w1.cell? ⟨w.heap.size, 5, none⟩ = some (.slice p n c) := HF1.out.box 5
  obtain ⟨b0, hb0⟩ : ∃ b0, b0 = w.heap.size := ⟨_, rfl⟩
  have HB0 : Hid (b0 = w.heap.size) := hb0
  have e1 : (w.alloc (.cells #[.int .i64 s.term, .int .i64 s.vote, .int .i64 s.base, .int .i64 s.baseTerm, .string s.data, .slice p n c] 44)).heap.size = b0 + 1 := by rw [hb0]; simp
  rw [e1]
  rw [← hb0] at k5 ⊢
  have HI : Hid (∀ k x, s.ents[k]? = some x → ∃ g off, p = some ⟨g, off, none⟩ ∧ k < n ∧ n ≤ c ∧ c ≤ maxLen ∧ ∀ X, Fill w s (.slice p n c) k X → X.cell? ⟨g, off + k * 2, none⟩ = some (.int .i64 x.1) ∧ X.cell? ⟨g, off + k * 2 + 1, none⟩ = some (.string x.2) ∧
      Calls Try.prog 57 #[.pointer (some ⟨b0 + 1, 0, none⟩), .agg #[.int .i64 x.1, .string x.2]] (X.alloc (.cells #[.int .i64 x.1, .string x.2] 79)) fun e w' => (∃ i, e = .returned (.tuple #[.int .i64 i, .int .i64 0])) ∧ Fill w s (.slice p n c) (k + 1) w') := by
    intro k x hx
    have hk := (List.getElem?_eq_some_iff.1 hx).1
    obtain ⟨p', c', hp', _, _, h3⟩ := HV.out
    injection hp' with q1 q2 q3
    subst q1 q3
    obtain ⟨g, off, hp, hg, y1, y2⟩ := h3 k x hx
    have hn := HN.out
    refine ⟨g, off, hp, by omega, by omega, hc2, fun X hX => ⟨(hX.old.cell (p := ⟨g, off + k * 2, none⟩) hg).trans y1, (hX.old.cell (p := ⟨g, off + k * 2 + 1, none⟩) hg).trans y2, ?_⟩⟩
    have hX' := hX.below (below_alloc X (.cells #[.int .i64 x.1, .string x.2] 79))
    have h0 := HS.out.app k x hx
    have hA := Append_c hX'.log x
    rw [← HB0.out] at hA
    refine hA.mono ?_
    rintro e w' ⟨rfl, ha⟩
    refine ⟨⟨_, by rw [h0]⟩, ?_⟩
    exact hX'.step hx h0 (by rw [← HB0.out]; exact ha)
  have HT : Hid (∀ X, Fill w s (.slice p n c) n X → Lg X (b0 + 1) ⟨s.base, s.baseTerm, s.ents⟩ (fun j => b0 + 1 < j ∧ j < X.heap.size) ∧ X.cell? ⟨b0, 0, none⟩ = some (.int .i64 s.term) ∧ b0 + 1 < X.heap.size ∧ Below w.heap.size w X) := by
    intro X hX
    have h1 := hX.log
    have h2 := hX.lt
    rw [List.take_of_length_le (by have := HN.out; omega), ← HB0.out] at h1
    rw [← HB0.out] at h2
    refine ⟨h1, ?_, h2, hX.old⟩
    rw [HB0.out]
    exact hX.box 0
  have HTop : Hid (decide (G.termA ⟨s.base, s.baseTerm, s.ents⟩ (G.last ⟨s.base, s.baseTerm, s.ents⟩) ≤ s.term) = true) := decide_eq_true HS.out.top
  have hnl := HN.out
  have HQ : Hid (∀ k, k < n → ∃ x, s.ents[k]? = some x) := fun k hk => ⟨_, List.getElem?_eq_getElem (by have := HN.out; omega)⟩
  clear hl1 hb1 HF HL e1 hb0 HV hc1 hc2 hnl
  go_wp2
  go_loopw [25] (fun x wr => ∃ k : Nat, x = .int .i64 (k : Int) ∧ k ≤ n ∧ Hid (Fill w s (.slice p n c) k wr)) (fun x _ => n - (intOf x).toNat)
  case atStart => exact ⟨0, rfl, by omega, HF1⟩
  case round =>
    clear HF1
    obtain ⟨k, rfl, hkn, HFk⟩ := hrel
    by_cases hlt : k < n
    · obtain ⟨x, hx⟩ := HQ.out k hlt
      obtain ⟨g, off, hp, _, hnc, hcm, HX⟩ := HI.out k x hx
      subst hp
      obtain ⟨y1, y2, hcall⟩ := HX wr HFk.out
      have HC : Hid _ := hcall
      have hk0 : (0 : Int) ≤ (k : Int) := by omega
      have hk1 : (k : Int) < (n : Int) := by omega
      unfold maxLen at hcm
      clear HX hcall hx HFk
      go_wp2_with fail
      refine Calls.mono HC.out ?_
      rintro e w2 ⟨⟨ii, rfl⟩, hF2⟩
      have HF2 : Hid _ := hF2
      clear hF2 HC
      go_wp2
      go_roundw
      case rel => exact ⟨k + 1, by go_num, by omega, HF2⟩
      case measure => simp [intOf]; omega
    · obtain rfl : k = n := by omega
      obtain ⟨t1, t2, t3, t4⟩ := HT.out wr HFk.out
      have HL1 : Hid _ := Last_c t1
      have HL2 : Hid (∀ m, Calls Try.prog 53 #[.pointer (some ⟨b0 + 1, 0, none⟩), .int .i64 (G.last ⟨s.base, s.baseTerm, s.ents⟩)] (wr.drewN m) fun e w' => e = .returned (.tuple #[.int .i64 (G.termA ⟨s.base, s.baseTerm, s.ents⟩ (G.last ⟨s.base, s.baseTerm, s.ents⟩)), .int .i64 (G.termE ⟨s.base, s.baseTerm, s.ents⟩ (G.last ⟨s.base, s.baseTerm, s.ents⟩))]) ∧ ∃ m', w' = (wr.drewN m).drewN m') := fun m => Term_c (t1.drewN m) _
      have HT1 : Hid _ := t1
      have HT4 : Hid _ := t4
      have HT3 : Hid _ := t3
      have hd := HTop.out
      generalize G.termA ⟨s.base, s.baseTerm, s.ents⟩ (G.last ⟨s.base, s.baseTerm, s.ents⟩) = tt at hd HL2
      generalize G.termE ⟨s.base, s.baseTerm, s.ents⟩ (G.last ⟨s.base, s.baseTerm, s.ents⟩) = te at HL2
      generalize G.last ⟨s.base, s.baseTerm, s.ents⟩ = ll at HL1 HL2
      clear t1 t3 t4 HTop
      go_wp2_with fail
      refine Calls.mono HL1.out ?_
      rintro e w2 ⟨rfl, hw⟩
      subst hw
      go_wp2_with fail
      refine Calls.mono (HL2.out 1) ?_
      rintro e w3 ⟨rfl, m', hw⟩
      subst hw
      go_wp2
      go_quiet (fail)
      go_wp2
      go_ret2
      have h0 := HB0.out
      refine ⟨by rw [← h0]; rfl, HT4.out.trans (Below.mono (B := wr.heap.size) ⟨rfl, rfl, rfl, Nat.le_refl _, fun _ _ => rfl⟩ HT4.out.size), by rw [← h0]; exact HT3.out, ?_⟩
      rw [← h0]
      exact Lg.below (w := wr) HT1.out ⟨rfl, rfl, rfl, Nat.le_refl _, fun _ _ => rfl⟩

/-- The map, made. -/
theorem insT_run (w : World) (es : Array MapEntry) (clock : Nat) (k : Int) (v : Value) (hf : Instr.findNow (.int .i64) (.int .i64 k) es.toList 0 = some none) :
    (Instr.mapUpdate 49 (.map (some w.heap.size)) (.int .i64 k) v).run Try.prog (w.alloc (.map es clock)) = .ok () (w.alloc (.map (es.push ⟨.int .i64 k, v, clock⟩) (clock + 1))) := by
  have hb : (w.alloc (.map es clock)).heap[w.heap.size]? = some (.map es clock) := heap_alloc_new w _
  have hck := MapKept.run_checkKey (P := Try.prog) (w := w.alloc (.map es clock)) (kt := 3) (d := .int .i64) (k := .int .i64 k) Try.underlying3 (by simp [MapKept.IsKey]) false 9999
  have hs := MapKept.run_setObj_map (P := Try.prog) (w := w.alloc (.map es clock)) (.map (es.push ⟨.int .i64 k, v, clock⟩) (clock + 1)) hb
  simp [Instr.mapUpdate, run_underlying Try.underlying49, MapKept.run_getObj_map hb, hck, Instr.findKey, run_underlying Try.underlying3, hf, hs, Result.andThen]
  have hp : ∀ o' : Obj, (w.heap.push (.map es clock)).setIfInBounds w.heap.size o' = w.heap.push o' := by
    intro o'
    apply Array.ext'
    simp
  show ({ w with heap := (w.heap.push (.map es clock)).setIfInBounds w.heap.size _ } : World) = _
  rw [hp]
  rfl

set_option maxRecDepth 20000 in
theorem takes_c (w : World) : Calls Try.prog 46 #[] w fun e w' => e = .returned (.map (some w.heap.size)) ∧ w' = w.alloc takeMap := by
  have hmm := @run_makeMap Try.prog
  have h1 := insT_run w #[] 0 1 (.func (.func 67) #[] #[]) rfl
  have h2 := insT_run w #[⟨.int .i64 1, .func (.func 67) #[] #[], 0⟩] 1 2 (.func (.func 68) #[] #[]) rfl
  have h3 := insT_run w #[⟨.int .i64 1, .func (.func 67) #[] #[], 0⟩, ⟨.int .i64 2, .func (.func 68) #[] #[], 1⟩] 2 3 (.func (.func 69) #[] #[]) rfl
  have h4 := insT_run w #[⟨.int .i64 1, .func (.func 67) #[] #[], 0⟩, ⟨.int .i64 2, .func (.func 68) #[] #[], 1⟩, ⟨.int .i64 3, .func (.func 69) #[] #[], 2⟩] 3 4 (.func (.func 70) #[] #[]) rfl
  have h5 := insT_run w #[⟨.int .i64 1, .func (.func 67) #[] #[], 0⟩, ⟨.int .i64 2, .func (.func 68) #[] #[], 1⟩, ⟨.int .i64 3, .func (.func 69) #[] #[], 2⟩, ⟨.int .i64 4, .func (.func 70) #[] #[], 3⟩] 4 5 (.func (.func 71) #[] #[]) rfl
  simp only [List.push_toArray, List.nil_append, List.cons_append, Nat.reduceAdd] at h1 h2 h3 h4 h5
  go_enter Try.func46, Try.ntmps46
  go_wp2
  go_ret
  exact ⟨rfl, rfl⟩

/-- The node that New lays, with its term and its vote. -/
theorem raw_nd {w : World} (st : N.St) {l : G.L} {LB lo : Nat} (hl : Lg w LB l (fun j => LB < j ∧ j < w.heap.size)) (hst : st.log = l) (hr : st.recs = []) (hz : Sz st) (hlo : lo < LB) (X : World)
    (hX : X = (w.alloc takeMap).alloc (.cells (ndCells st LB w.heap.size (.slice none 0 0)).toArray 57)) :
    NdV X (w.heap.size + 1) st (fun k => lo < k ∧ k < X.heap.size ∧ k ≠ w.heap.size + 1) LB w.heap.size (fun j => LB < j ∧ j < w.heap.size) (.slice none 0 0) := by
  have hlt := hl.lt
  have hs : X.heap.size = w.heap.size + 2 := by rw [hX]; simp
  have hb : Below w.heap.size w X := by rw [hX]; exact (below_alloc _ _).trans ((below_alloc _ _).mono (by simp))
  have hm : X.heap[w.heap.size]? = some takeMap := by
    rw [hX, Below.heap_alloc (w.alloc takeMap) _ _ (by simp)]
    exact heap_alloc_new w _
  have e1 : (w.alloc takeMap).heap.size = w.heap.size + 1 := by simp
  refine ⟨by omega, fun j => ?_, fun j hj => ?_, hm, by rw [hst]; exact hl.below hb, by rw [hr]; exact RowC.nil _ _ _, ⟨hlo, by omega, by omega⟩, ⟨by omega, by omega, by omega⟩, fun k hk => ⟨by omega, by omega, by omega⟩, fun k hk => by simp [cBlk] at hk, ⟨by omega, by omega⟩, fun k hk => by simp [cBlk] at hk, fun k hk => ⟨hk.2.1, hk.2.2⟩, hz⟩
  · have := World.cell?_alloc_mark (w.alloc takeMap) (ndCells st LB w.heap.size (.slice none 0 0)).toArray 57 (0, 0) j
    rw [e1] at this
    rw [hX, this, List.getElem?_toArray]
  · have := World.frozen?_alloc_mark (w.alloc takeMap) (ndCells st LB w.heap.size (.slice none 0 0)).toArray 57 0 0 j
    rw [e1] at this
    rw [hX, this]
    simp

/-- While a node is made: the node lies there, beside what was saved. -/
structure Mk (w : World) (b0 B : Nat) (s : N.Sv) (v : Value) (LB MB : Nat) (ol : Nat → Prop) (st : N.St) (X : World) : Prop where
  old : Below w.heap.size w X
  hb : b0 = w.heap.size
  hB : b0 < B
  box : ∀ j, X.cell? ⟨b0, j, none⟩ = (#[.int .i64 s.term, .int .i64 s.vote, .int .i64 s.base, .int .i64 s.baseTerm, .string s.data, v] : Array Value)[j]?
  nd : NdV X B st (fun k => b0 < k ∧ k < X.heap.size ∧ k ≠ B) LB MB ol (.slice none 0 0)

section
variable {w X Y : World} {b0 B : Nat} {s : N.Sv} {v : Value} {LB MB : Nat} {ol : Nat → Prop} {st st' : N.St}
theorem Mk.below (h : Mk w b0 B s v LB MB ol st X) (hb : Below X.heap.size X Y) : Mk w b0 B s v LB MB ol st Y := by
  have h0 := h.nd.lt
  have h1 := h.hB
  exact ⟨h.old.trans (hb.mono h.old.size), h.hb, h.hB, fun j => (hb.cell (p := ⟨b0, j, none⟩) (by show b0 < _; omega)).trans (h.box j), (h.nd.below hb).wider (fun k hk => ⟨hk.1, Nat.lt_of_lt_of_le hk.2.1 hb.size, hk.2.2⟩) (fun k hk => hk.2)⟩

theorem Mk.set (h : Mk w b0 B s v LB MB ol st X) (st' : N.St) (o : Nat) (u : Value) (ho : o < 35) (hc : (ndCells st LB MB (.slice none 0 0)).set o u = ndCells st' LB MB (.slice none 0 0))
    (hl : st'.log = st.log) (hr : st'.recs = st.recs) (hg : st'.group = st.group) (hz : Sz st') : Mk w b0 B s v LB MB ol st' (X.setCell ⟨B, o, none⟩ u) := by
  have h1 := h.hB
  have h2 := h.hb
  have hne : ∀ j, (X.setCell ⟨B, o, none⟩ u).cell? ⟨b0, j, none⟩ = X.cell? ⟨b0, j, none⟩ := fun j => World.cell?_of_block (a := ⟨b0, j, none⟩) (Below.heap_setCell _ _ _ _ (by show b0 ≠ B; omega))
  refine ⟨h.old.setCell (p := ⟨B, o, none⟩) (by show w.heap.size ≤ B; omega) _, h.hb, h.hB, fun j => (hne j).trans (h.box j), ?_⟩
  have := h.nd.set o u ho hc hl hr hg hz
  simpa [size_set6] using this
end

/-- What New answers. -/
def NewOut (w : World) (g : Int) (id nodes : Nat) (s : N.Sv) (draw : Int) (e : Ending) (w' : World) : Prop :=
  ∃ B, e = .returned (.tuple #[.pointer (some ⟨B, 0, none⟩), .int .i64 0]) ∧ w.heap.size < B ∧ Nd w' B (N.new g id nodes s draw) (fun k => w.heap.size < k ∧ k < w'.heap.size ∧ k ≠ B) ∧ Below w.heap.size w w'

set_option maxHeartbeats 800000 in
set_option maxRecDepth 20000 in
theorem New_c (w : World) (g : Int) (id nodes : Nat) (s : N.Sv) (v : Value) (draw : Int) (hg : 0 ≤ g ∧ g < 9) (hi : id < nodes) (hn : nodes ≤ 7) (hs : SvOk s) (hvo : -1 ≤ s.vote ∧ s.vote < (nodes : Int)) (hd : 0 ≤ draw) (hv : EntRd w v s.ents) :
    Calls Try.prog 24 #[.int .i64 g, .int .i64 (id : Int), .int .i64 (nodes : Int), svV s v, .int .i64 draw] w (NewOut w g id nodes s draw) := by
  have d1 : decide (draw < 0) = false := decide_eq_false (by omega)
  have HI : Hid (∀ u, Calls Try.prog 43 #[.int .i64 g, .int .i64 (id : Int), .int .i64 (nodes : Int)] u fun e w' => e = .returned (.bool true) ∧ w' = u) := fun u => isPlace_c u g id nodes hg hi hn
  have HMs : Hid (∀ u, Calls Try.prog 44 #[svV s v, .int .i64 (nodes : Int)] u fun e w' => e = .returned (.bool true) ∧ Below u.heap.size u w') := fun u => mayBeSaved_c u s v nodes hs.t hvo hs.d
  obtain ⟨u, hu⟩ : ∃ u, u = w.alloc (.cells #[.int .i64 s.term, .int .i64 s.vote, .int .i64 s.base, .int .i64 s.baseTerm, .string s.data, v] 44) := ⟨_, rfl⟩
  have hbu : Below w.heap.size w u := by rw [hu]; exact below_alloc _ _
  have hsu : u.heap.size = w.heap.size + 1 := by rw [hu]; simp
  have hcu : ∀ j, u.cell? ⟨w.heap.size, j, none⟩ = (#[.int .i64 s.term, .int .i64 s.vote, .int .i64 s.base, .int .i64 s.baseTerm, .string s.data, v] : Array Value)[j]? := fun j => by rw [hu]; exact World.cell?_alloc_mark w _ _ _ j
  have HLo : Hid (∀ X, Below u.heap.size u X → Calls Try.prog 45 #[svV s v] X fun e w' => ∃ LB, e = .returned (.tuple #[.pointer (some ⟨LB, 0, none⟩), .bool true]) ∧ w.heap.size < LB ∧ Below X.heap.size X w' ∧ Lg w' LB ⟨s.base, s.baseTerm, s.ents⟩ (fun j => LB < j ∧ j < w'.heap.size)) := by
    intro X hX
    refine (logOf_c X s v hs ((hv.below hbu).below hX)).mono ?_
    rintro e w' ⟨rfl, a1, a2, a3⟩
    have := hX.size
    exact ⟨_, rfl, by omega, a1, a3⟩
  unfold svV at *
  generalize hQ : NewOut w g id nodes s draw = Q
  have HQ : Hid (NewOut w g id nodes s draw = Q) := hQ
  have HU : Hid (Below w.heap.size w u ∧ u.heap.size = w.heap.size + 1 ∧ ∀ j, u.cell? ⟨w.heap.size, j, none⟩ = (#[.int .i64 s.term, .int .i64 s.vote, .int .i64 s.base, .int .i64 s.baseTerm, .string s.data, v] : Array Value)[j]?) := ⟨hbu, hsu, hcu⟩
  have HZ : Hid (id < nodes ∧ nodes ≤ 7) := ⟨hi, hn⟩
  have HD : Hid (s.data.size ≤ 262144) := hs.d
  obtain ⟨b0, hb0⟩ : ∃ b0, b0 = w.heap.size := ⟨_, rfl⟩
  have HB0 : Hid (b0 = w.heap.size) := hb0
  clear hQ hi hn hs hvo hd hv hg hbu hsu
  have c0 := hcu 0
  have c1 := hcu 1
  have c2 := hcu 2
  have c3 := hcu 3
  have c4 := hcu 4
  have c5 := hcu 5
  clear hcu
  go_enter Try.func24, Try.ntmps24
  go_wp2_with fail
  rw [← hu]
  clear hu
  refine Calls.mono (HI.out _) ?_
  rintro e w1 ⟨rfl, hw⟩
  subst hw
  rw [← hb0] at c0 c1 c2 c3 c4 c5 ⊢
  clear hb0
  go_wp2_with fail
  refine Calls.mono (HMs.out _) ?_
  rintro e w2 ⟨rfl, hb2⟩
  have HB2 : Hid _ := hb2
  have hlt : b0 < w1.heap.size := by have := HU.out.2.1; have := HB0.out; omega
  have e0 := (hb2.cell (p := ⟨b0, 0, none⟩) hlt).trans c0
  have e1 := (hb2.cell (p := ⟨b0, 1, none⟩) hlt).trans c1
  have e2 := (hb2.cell (p := ⟨b0, 2, none⟩) hlt).trans c2
  have e3 := (hb2.cell (p := ⟨b0, 3, none⟩) hlt).trans c3
  have e4 := (hb2.cell (p := ⟨b0, 4, none⟩) hlt).trans c4
  have e5 := (hb2.cell (p := ⟨b0, 5, none⟩) hlt).trans c5
  clear hb2 c0 c1 c2 c3 c4 c5 hlt
  go_wp2_with fail
  refine Calls.mono (HLo.out _ HB2.out) ?_
  rintro e w3 ⟨LB, rfl, hLB, hb3, hl3⟩
  have HL3 : Hid (Lg w3 LB ⟨s.base, s.baseTerm, s.ents⟩ (fun j => LB < j ∧ j < w3.heap.size)) := hl3
  have HB3 : Hid (Below w1.heap.size w1 w3 ∧ w.heap.size < LB) := ⟨HB2.out.trans (hb3.mono HB2.out.size), hLB⟩
  have hl3 : b0 < w2.heap.size := by have := HU.out.2.1; have := HB0.out; have := HB2.out.size; omega
  have f0 := (hb3.cell (p := ⟨b0, 0, none⟩) hl3).trans e0
  have f1 := (hb3.cell (p := ⟨b0, 1, none⟩) hl3).trans e1
  have f2 := (hb3.cell (p := ⟨b0, 2, none⟩) hl3).trans e2
  have f3 := (hb3.cell (p := ⟨b0, 3, none⟩) hl3).trans e3
  have f4 := (hb3.cell (p := ⟨b0, 4, none⟩) hl3).trans e4
  have f5 := (hb3.cell (p := ⟨b0, 5, none⟩) hl3).trans e5
  have hl4 : b0 < w3.heap.size := Nat.lt_of_lt_of_le hl3 hb3.size
  clear hLB hb3 hl3 e0 e1 e2 e3 e4 e5
  go_wp2_with fail
  refine Calls.mono (takes_c _) ?_
  rintro e w4 ⟨rfl, hw4⟩
  subst hw4
  obtain ⟨st, hst⟩ : ∃ st : N.St, st = { N.new g id nodes s draw with data := ⟨#[]⟩, commit := 0, wait := 0, left := 0 } := ⟨_, rfl⟩
  have hz : Sz st := by rw [hst]; exact ⟨HZ.out.1, HZ.out.2, rfl, rfl, rfl⟩
  have HZ' : Hid _ := hz
  have HK : Hid (∀ X, X = (w3.alloc takeMap).alloc (.cells (ndCells st LB w3.heap.size (.slice none 0 0)).toArray 57) → Mk w b0 (w3.heap.size + 1) s v LB w3.heap.size (fun j => LB < j ∧ j < w3.heap.size) st X) := by
    intro X hX
    have hh := HU.out
    have h0 := HB0.out
    have hb := HB3.out.1
    have hsz := hb.size
    have hN := raw_nd st HL3.out (lo := b0) (by rw [hst]; rfl) (by rw [hst]; rfl) hz (by have := HB3.out.2; omega) X hX
    have hbX : Below w3.heap.size w3 X := by rw [hX]; exact (below_alloc _ _).trans ((below_alloc _ _).mono (by simp))
    refine ⟨hh.1.trans ((hb.mono (by omega)).trans (hbX.mono (by omega))), h0, by omega, fun j => ?_, hN⟩
    rw [hbX.cell (p := ⟨b0, j, none⟩) (by show b0 < _; omega), hb.cell (p := ⟨b0, j, none⟩) (by show b0 < _; omega), h0]
    exact hh.2.2 j
  rw [hst] at HK
  go_wp2_with fail
  have HW3 : Hid _ := HK.out _ rfl
  refine Calls.mono (Clone_any s.data _ (by have := HD.out; omega)) ?_
  rintro e w5 ⟨rfl, hb5⟩
  have HM5 : Hid _ := HW3.out.below hb5
  have g5 := HM5.out.nd.fz 5 (by decide)
  have g5' := HM5.out.nd.at 5 _ rfl
  clear hb5 HW3 f0 f1 f2 f3 f4 f5 hl4
  go_wp2_with fail
  have HM6 : Hid _ := HM5.out.set { N.new g id nodes s draw with commit := 0, wait := 0, left := 0 } 5 (.string s.data) (by decide) rfl rfl rfl rfl ⟨HZ.out.1, HZ.out.2, rfl, rfl, rfl⟩
  have HBa : Hid (Calls Try.prog 29 #[.pointer (some ⟨LB, 0, none⟩)] (w5.setCell ⟨w3.heap.size + 1, 5, none⟩ (.string s.data)) fun e w' => e = .returned (.int .i64 s.base) ∧ w' = w5.setCell ⟨w3.heap.size + 1, 5, none⟩ (.string s.data)) := Base_c HM6.out.nd.log
  refine Calls.mono HBa.out ?_
  clear HBa
  rintro e w6 ⟨rfl, hw6⟩
  obtain ⟨X6, hX6⟩ : ∃ X6, X6 = w5.setCell ⟨w3.heap.size + 1, 5, none⟩ (.string s.data) := ⟨_, rfl⟩
  rw [← hX6] at hw6 HM6
  subst hw6
  clear hX6 g5 g5' HM5
  have g5 := HM6.out.nd.fz 10 (by decide)
  have g5' := HM6.out.nd.at 10 _ rfl
  go_wp2_with fail
  have HM7 : Hid _ := HM6.out.set { N.new g id nodes s draw with wait := 0, left := 0 } 10 (.int .i64 s.base) (by decide) rfl rfl rfl rfl ⟨HZ.out.1, HZ.out.2, rfl, rfl, rfl⟩
  refine Calls.mono (waitOf_c _ _) ?_
  rintro e w7 ⟨rfl, hw7⟩
  obtain ⟨X7, hX7⟩ : ∃ X7, X7 = w6.setCell ⟨w3.heap.size + 1, 10, none⟩ (.int .i64 s.base) := ⟨_, rfl⟩
  rw [← hX7] at hw7 HM7
  subst hw7
  clear hX7 g5 g5' HM6
  have g5 := HM7.out.nd.fz 11 (by decide)
  have g5' := HM7.out.nd.at 11 _ rfl
  have g6 := HM7.out.nd.fz 12 (by decide)
  have g6' := HM7.out.nd.at 12 _ rfl
  have hwt : N.waitOf draw = N.waitOf draw := rfl
  generalize hwo : N.waitOf draw = wo
  have HWO : Hid (N.waitOf draw = wo) := hwo
  clear hwo hwt
  go_wp2
  rw [← HQ.out]
  have HM8 := (HM7.out.set { N.new g id nodes s draw with left := 0 } 11 (.int .i64 wo) (by decide) (by rw [← HWO.out]; rfl) rfl rfl rfl ⟨HZ.out.1, HZ.out.2, rfl, rfl, rfl⟩).set (N.new g id nodes s draw) 12 (.int .i64 wo) (by decide) (by rw [← HWO.out]; rfl) rfl rfl rfl ⟨HZ.out.1, HZ.out.2, rfl, rfl, rfl⟩
  refine ⟨_, rfl, by have := HM8.hB; have := HM8.hb; omega, ?_, HM8.old⟩
  rw [← HM8.hb]
  exact HM8.nd.nd

end Go.Proofs.Yteaopnhjndnpnaa
