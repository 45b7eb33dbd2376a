/-
  Cut.
-/
import Derived.Test.YtpopanfefpehnaaNnCut3
namespace Go.Proofs.Ytpopanfefpehnaa
open Go.RowKit

theorem cnt_cutI (ls : List Q.Lt) (t : Int) : (fun a b => if b = t then (0 : Int) else (Q.cnt ls a b : Int)) = fun a b => (Q.cnt (Q.cutL ls t) a b : Int) := by
  funext a b
  rw [Q.cnt_cut]
  split <;> rfl

section
variable {w : World} {B : Nat} {s : Q.St} {own : Nat → Prop} {n : Nat}

theorem Cut_none (h : Nn w B s own n) (t : Int) (h0 : s.ls = []) : Calls Try.prog 36 #[.pointer (some ⟨B, 0, none⟩), .int .i64 t] w fun e w' => e = .returned (.int .i64 0) ∧ AftQ own w w' B s (n + 1) := by
  obtain ⟨u, hu⟩ : ∃ u, u = w.alloc (.cells #[.int .i64 t] 3) := ⟨_, rfl⟩
  have hbu : Below w.heap.size w u := by rw [hu]; exact below_alloc w _
  have HL : Hid _ := Len_c (h.below hbu)
  rw [h0] at HL
  have HSame : Hid (AftQ own w u B s (n + 1)) := (AftQ.same h hbu).more (by omega)
  clear h h0 hbu
  go_enter Try.func36, Try.ntmps36
  go_wp2_with fail
  rw [← hu]
  clear hu
  refine Calls.mono HL.out ?_
  rintro e w1 ⟨rfl, hw⟩
  subst hw
  go_wp2
  go_ret
  exact ⟨rfl, HSame.out⟩

set_option maxHeartbeats 1600000 in
theorem Cut_some (h : Nn w B s own n) (hn : n < 1099511627776) (t : Int) (ht64 : In64 t) (h0 : 0 < s.ls.length) : Calls Try.prog 36 #[.pointer (some ⟨B, 0, none⟩), .int .i64 t] w fun e w' => e = .returned (.int .i64 ((s.ls.length - (Q.cutL s.ls t).length : Nat) : Int)) ∧ AftQ own w w' B { s with ls := Q.cutL s.ls t } (n + 1) := by
  obtain ⟨v, mb, em, h⟩ := h
  obtain ⟨u, hu⟩ : ∃ u, u = w.alloc (.cells #[.int .i64 t] 3) := ⟨_, rfl⟩
  have hbu : Below w.heap.size w u := by rw [hu]; exact below_alloc w _
  obtain ⟨bt, hbt⟩ : ∃ bt, bt = w.heap.size := ⟨_, rfl⟩
  have hct : u.cell? ⟨bt, 0, none⟩ = some (.int .i64 t) := by rw [hu, hbt]; exact World.cell?_alloc_mark w _ _ _ 0
  have hU := h.below hbu
  have HL : Hid _ := Len_c ⟨v, mb, em, hU⟩
  have hlen := h.len
  have hle : (Q.cutL s.ls t).length ≤ s.ls.length := List.length_filter_le _ _
  obtain ⟨m, hm⟩ : ∃ m, m = s.ls.length := ⟨_, rfl⟩
  obtain ⟨m', hm'⟩ : ∃ m', m' = (Q.cutL s.ls t).length := ⟨_, rfl⟩
  obtain ⟨p, c, hv, _, _⟩ := h.row.form
  have hrow := hU.row
  rw [hv, ← hm] at hrow
  have h1 := hU.c1
  rw [hv, ← hm] at h1
  have hcv : ∀ k, cBlk (.slice p m c) = some k → own k := fun k hk => h.mine k (by rw [hv, ← hm]; exact hk)
  have hap : cBlk (.slice p m c) ≠ some mb := fun e => h.apart (by rw [hv, ← hm]; exact e)
  have hbg : cBlk (.slice p m c) ≠ some bt := fun e => by have := (h.here bt (hcv bt e)).1; omega
  have HDel : Hid (Calls Try.prog 70 #[.slice p m c, .func (.func 71) #[] #[.pointer (some ⟨bt, 0, none⟩)]] u (DelOut u (.slice p m c) s.ls t)) := DeleteFunc_c hrow hm (by omega) hct hbg
  have hmB := (h.here mb h.mmine).2
  have hlu := hbu.size
  have hltu : bt < u.heap.size := World.block_lt_of_cell? _ _ hct
  have HX : Hid (∀ X v', RowC X 3 v' (Q.cutL s.ls t).length (ltCells (Q.cutL s.ls t)) → u.grownBy X (cBlk (.slice p m c)) → (∀ k, cBlk v' = some k → cBlk (.slice p m c) = some k) →
      X.cell? ⟨B, 1, none⟩ = some (.slice p m c) ∧ X.frozen? ⟨B, 1, none⟩ = false ∧ (∃ p' c', v' = .slice p' m' c') ∧ (X.setCell ⟨B, 1, none⟩ v').cell? ⟨B, 2, none⟩ = some (.map (some mb)) ∧ (X.setCell ⟨B, 1, none⟩ v').cell? ⟨B, 1, none⟩ = some v' ∧
        Mp (X.setCell ⟨B, 1, none⟩ v') mb n (fun a b => (Q.cnt s.ls a b : Int)) ∧ (X.setCell ⟨B, 1, none⟩ v').cell? ⟨bt, 0, none⟩ = some (.int .i64 t) ∧
        ∀ Y, (X.setCell ⟨B, 1, none⟩ v').grownBy Y (some mb) → Mp Y mb n (fun a b => if b = t then (0 : Int) else (Q.cnt s.ls a b : Int)) → Y.cell? ⟨B, 1, none⟩ = some v' ∧ NnV Y B { s with ls := Q.cutL s.ls t } (sinceB own w Y) (n + 1) v' mb em ∧ KeptB B own w Y) := by
    intro X v' a1 a2 a3
    have hBne : cBlk (.slice p m c) ≠ some B := fun e => (h.here B (hcv B e)).2 rfl
    have hBX : X.heap[B]? = u.heap[B]? := a2.block B (Nat.lt_of_lt_of_le h.lt hlu) (fun e => hBne e.symm)
    have hmX : X.heap[mb]? = u.heap[mb]? := a2.block mb (Nat.lt_of_lt_of_le (h.here mb h.mmine).1 hlu) (fun e => hap e.symm)
    have htX : X.heap[bt]? = u.heap[bt]? := a2.block bt hltu (fun e => hbg e.symm)
    have y1 : X.cell? ⟨B, 1, none⟩ = some (.slice p m c) := (World.cell?_of_block (a := ⟨B, 1, none⟩) hBX).trans h1
    have hc : ∀ q, (X.setCell ⟨B, 1, none⟩ v').cell? ⟨B, q, none⟩ = if q = 1 then some v' else u.cell? ⟨B, q, none⟩ := fun q => by
      rw [cell_set6 _ y1]
      split
      · rfl
      · exact World.cell?_of_block (a := ⟨B, q, none⟩) hBX
    obtain ⟨p', c', hv', _⟩ := a1.form
    have hk2 : KeptB B own w (X.setCell ⟨B, 1, none⟩ v') := ((KeptB.ofBelow hbu).grown a2 (fun k hk => .inr (.inl (hcv k hk)))).setCell ⟨B, 1, none⟩ (.inl rfl) v'
    have hbtB : bt ≠ B := by have := h.lt; omega
    refine ⟨y1, (World.frozen?_of_block (a := ⟨B, 1, none⟩) hBX).trans (hU.fz 1 (by omega)), ⟨p', c', by rw [hm']; exact hv'⟩, by rw [hc, if_neg (by omega)]; exact hU.c2, by rw [hc, if_pos rfl], hU.map.carry (by rw [Below.heap_setCell _ _ _ _ hmB]; exact hmX), ?_, fun Y hY hMY => ?_⟩
    · rw [World.cell?_of_block (a := ⟨bt, 0, none⟩) (Below.heap_setCell _ _ _ _ hbtB), World.cell?_of_block (a := ⟨bt, 0, none⟩) htX]
      exact hct
    · have hl2 : B < (X.setCell ⟨B, 1, none⟩ v').heap.size := Nat.lt_of_lt_of_le h.lt hk2.size
      have hBY : Y.heap[B]? = (X.setCell ⟨B, 1, none⟩ v').heap[B]? := hY.block B hl2 (fun e => hmB (by injection e with e; exact e.symm))
      have hcY : ∀ q, Y.cell? ⟨B, q, none⟩ = if q = 1 then some v' else u.cell? ⟨B, q, none⟩ := fun q => (World.cell?_of_block (a := ⟨B, q, none⟩) hBY).trans (hc q)
      refine ⟨by rw [hcY, if_pos rfl], ?_⟩
      rw [cnt_cutI] at hMY
      refine h.put (s' := { s with ls := Q.cutL s.ls t }) (n' := n + 1) (v' := v') (em' := em) (hk2.grown hY (fun k hk => .inr (.inl (by injection hk with hk; rw [← hk]; exact h.mmine))))
        (by rw [hcY, if_neg (by omega)]; exact hU.c0) (by rw [hcY, if_pos rfl]) (by rw [hcY, if_neg (by omega)]; exact hU.c2) (by rw [hcY, if_neg (by omega)]; exact hU.c3)
        (fun j hj => by rw [World.frozen?_of_block (a := ⟨B, j, none⟩) hBY, World.frozen?_setCell, World.frozen?_of_block (a := ⟨B, j, none⟩) hBX]; exact hU.fz j hj)
        (a1.carry (fun k hk => ?_)) (hMY.mono (by omega)) (fun k hk => .inl (hcv k (a3 k hk))) (by have := h.few; omega) (by show (Q.cutL s.ls t).length ≤ n + 1; omega) (Q.cut_ok h.ok t)
      have hkB : k ≠ B := fun e => hBne (by rw [← e]; exact a3 k hk)
      have hkm : k ≠ mb := fun e => hap (by rw [← e]; exact a3 k hk)
      rw [hY.block k (by rw [size_set6]; exact a1.lt (by omega) hk) (fun e => hkm (by injection e)), Below.heap_setCell _ _ _ _ hkB]
  have HMd : Hid (∀ X, Mp X mb n (fun a b => (Q.cnt s.ls a b : Int)) → X.cell? ⟨bt, 0, none⟩ = some (.int .i64 t) → Calls Try.prog 72 #[.map (some mb), .func (.func 73) #[] #[.pointer (some ⟨bt, 0, none⟩)]] X fun e w' => e = .returned (.tuple #[]) ∧ Mp w' mb n (fun a b => if b = t then (0 : Int) else (Q.cnt s.ls a b : Int)) ∧ X.grownBy w' (some mb)) := fun X h1 h2 => mapsDelete_c h1 h2 ht64
  obtain ⟨d, hd⟩ : ∃ d, d = m - m' := ⟨_, rfl⟩
  have HSet : Hid (∀ Y v', NnV Y B { s with ls := Q.cutL s.ls t } (sinceB own w Y) (n + 1) v' mb em ∧ KeptB B own w Y → Calls Try.prog 74 #[.pointer (some ⟨B, 0, none⟩), .int .i64 (d : Int)] Y fun e w' => e = .returned (.tuple #[]) ∧ AftQ own w w' B { s with ls := Q.cutL s.ls t } (n + 1)) := by
    intro Y v' hY
    refine (settle_c ⟨_, _, _, hY.1⟩ (by omega) d (by omega)).mono ?_
    rintro e w' ⟨rfl, ha⟩
    exact ⟨rfl, ha.then hY.2 h.lt h.here⟩
  have hwd : IntKind.i64.wrap ((m : Int) - (m' : Int)) = (d : Int) := by rw [IntKind.wrap_i64]; omega
  have hwd' : wrap64 ((m : Int) - (m' : Int)) = (d : Int) := by rw [IntWalk.wrap64_in _ ⟨by omega, by omega⟩]; omega
  have hm0 : ¬ (m : Int) = 0 := by omega
  rw [← hm] at HL
  rw [← hm, ← hm', ← hd]
  clear h hU hlen hle hm hm' hv hrow hcv hap hbg hmB hlu hltu hd hct ht64 hn h0 hbu
  go_enter Try.func36, Try.ntmps36
  go_wp2_with fail
  rw [← hu]
  try rw [← hbt]
  clear hu hbt
  refine Calls.mono HL.out ?_
  rintro e w1 ⟨rfl, hw⟩
  subst hw
  go_wp2_with fail
  refine Calls.mono HDel.out ?_
  rintro e X ⟨v', rfl, a1, a2, a3⟩
  obtain ⟨b1, bf, ⟨p', c', hv'⟩, b2, b1', bM, bT, hY⟩ := HX.out X v' a1 a2 a3
  subst hv'
  have HY : Hid _ := hY
  have HMM : Hid _ := HMd.out _ bM bT
  clear a1 a2 a3 hY bM bT h1
  go_wp2_with fail
  refine Calls.mono HMM.out ?_
  rintro e Y ⟨rfl, hMY, hgY⟩
  obtain ⟨c1, hN⟩ := HY.out Y hgY hMY
  have HN : Hid _ := hN
  clear hMY hgY hN b1 bf b2 b1'
  go_wp2_with fail
  refine (HSet.out Y _ HN.out).mono ?_
  rintro e Z ⟨rfl, ha⟩
  have HZ : Hid _ := ha
  clear ha
  go_wp2
  go_ret
  exact ⟨rfl, HZ.out⟩

end

theorem Nf.cut {w X : World} {B : Nat} {s : Q.St} {n : Nat} {loc : Nat → Prop} (h : Nf w X B s n loc) (hn : n < 1099511627776) (t : Int) (ht : In64 t) :
    Calls Try.prog 36 #[.pointer (some ⟨B, 0, none⟩), .int .i64 t] X fun e Y => e = .returned (.int .i64 ((s.ls.length - (Q.cutL s.ls t).length : Nat) : Int)) ∧ Nf w Y B { s with ls := Q.cutL s.ls t } (n + 1) loc ∧ (∀ k, loc k → Y.heap[k]? = X.heap[k]?) ∧ X.heap.size ≤ Y.heap.size := by
  obtain ⟨own, h1, h2⟩ := h.call
  by_cases h0 : 0 < s.ls.length
  · refine (Cut_some h1 hn t ht h0).mono ?_
    rintro e Y ⟨rfl, ha⟩
    exact ⟨rfl, h2 Y _ _ ha⟩
  · have hn : s.ls = [] := List.eq_nil_of_length_eq_zero (by omega)
    refine (Cut_none h1 t hn).mono ?_
    rintro e Y ⟨rfl, ha⟩
    have e1 : ({ s with ls := Q.cutL s.ls t } : Q.St) = s := by
      cases s
      simp at hn
      subst hn
      rfl
    rw [e1]
    refine ⟨?_, h2 Y _ _ ha⟩
    rw [hn]
    rfl

end Go.Proofs.Ytpopanfefpehnaa
