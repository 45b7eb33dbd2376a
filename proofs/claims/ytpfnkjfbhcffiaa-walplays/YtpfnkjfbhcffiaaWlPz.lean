/-
  The document's folding, its last ways: a base at the base itself; a base; an entry that does not fit; and so Fold of any record that may be. The document's Fold: a base, and records that do not fit. The law's own functions over what the document says of all groups: refused, record; and Need. record: an op's record, made one that fits where that is asked for. Need: how many bytes all data has, and so many for each entry. A log beside what the document says of its groups, through the calls of WalPlays and WalCrash.
-/
import Derived.Test.YtpfnkjfbhcffiaaWlDoc
import Derived.Deep.RegionHeld3
import Derived.Test.YtpfnkjfbhcffiaaWlFam
import Derived.Test.YtpfnkjfbhcffiaaWlLo
namespace Go.Proofs.Ytpfnkjfbhcffiaa
open Go.RowKit

/-- An operation that only reads is taken first. -/
theorem take7 {P : Program} {md : Region.Mode} {ops : Array Oper} {Q : Exit → Act → World → Prop} {S : World → Prop} {i d : Nat} {oi : Oper} {v : Value} {fuel : Nat} {listed : Array Bool} {a : Act} {w : World} (hi : ops[i]? = some oi) (hd : oi.dst = some d)
    (hs : Region.noSelect ops = true) (hf : Region.free md ops listed i = true) (hr : (Region.ready md ops listed).contains i = true)
    (hQ : ∀ c a w, Q (.panic c) (a.put (some d) v) w → Q (.panic c) a w) (hy : YieldsIf P ops S oi v a) (hS : S w)
    (h : wpAnyH P md ops Q S fuel (listed.setIfInBounds i true) (a.put (some d) v) w) : wpAnyH P md ops Q S (fuel + 1) listed a w :=
  wpAnyH_take hi hs hf hr (by rw [hd]; exact hQ) hy hS (by rw [hd]; exact h)

theorem cut0 (p : Option Addr) (n c : Nat) : ∃ p', (p' = p ∧ c - 0 = 0 ∨ ∀ a, p = some a → p' = some (a.add (0 * 2))) ∧ ∀ W : World, (Instr.slice 43 (.slice p n c) (some (.int .i64 0)) none none).run Try.prog W = .ok (.slice p' n c) W := by
  cases p with
  | none => exact ⟨none, .inr (fun a ha => by cases ha), fun W => by simp [Instr.slice, run_underlying Try.underlying43, Instr.sliceBounds, Instr.sliceBound, asIntOf]⟩
  | some a =>
    by_cases hc : c = 0
    · subst hc
      exact ⟨some a, .inl ⟨rfl, rfl⟩, fun W => by simp [Instr.slice, run_underlying Try.underlying43, Instr.sliceBounds, Instr.sliceBound, asIntOf]⟩
    · exact ⟨some (a.add (0 * 2)), .inr (fun b hb => by injection hb with hb; rw [hb]), fun W => by simp [Instr.slice, run_underlying Try.underlying43, Instr.sliceBounds, Instr.sliceBound, asIntOf, hc]⟩

set_option maxHeartbeats 1600000 in
theorem refBase_same {w : World} {s : W.Sv} {v : Value} (h : EntR w v s.ents) (ok : W.Ok s) (r : W.Rec) (hi : r.index ≤ 1099511627776) (hf : r.index = s.base) (hy : r.term = s.bterm) : Calls Try.prog 36 #[savV s v, recV r] w (BaseOut w s v r) := by
  have HE : Hid (EntR w v s.ents) := h
  have HO : Hid (∀ p c p' u, v = .slice p s.ents.length c → (p' = p ∧ c - 0 = 0 ∨ ∀ a, p = some a → p' = some (a.add (0 * 2))) → Below w.heap.size w u → BaseOut w s v r (.returned (.agg #[.int .i64 s.term, .int .i64 s.vote, .int .i64 r.index, .int .i64 r.term, .string r.data, .slice p' s.ents.length c])) u) := by
    intro p c p' u hv hp hu
    have e1 : W.stays s r = true := by unfold W.stays W.termAt W.last; rw [if_pos hf]; simp [hy]; omega
    have hE := HE.out
    rw [hv] at hE
    obtain ⟨q1, q2⟩ := EntR.drop hE (k := 0) (p' := p') (Nat.zero_le _) hp
    unfold BaseOut W.doBase
    rw [e1, if_pos rfl, hf, Int.sub_self, Int.toNat_zero]
    refine ⟨_, rfl, EntR.below q1 hu, hu, fun q hq => .inl ?_⟩
    rw [hv]
    exact q2 q hq
  generalize BaseOut w s v r = Q at HO ⊢
  obtain ⟨p, c, hv, hc1, hc2, hc3⟩ := h
  have HO2 : Hid _ := fun p' u => HO.out p c p' u hv
  obtain ⟨p', hp', hcut⟩ := cut0 p s.ents.length c
  have HP' : Hid _ := hp'
  have k1 := ok.base
  unfold savV recV
  rw [hv]
  obtain ⟨n, hn⟩ : ∃ n, n = s.ents.length := ⟨_, rfl⟩
  rw [← hn] at hcut HO2 ⊢
  obtain ⟨t, x, b, y, d, l⟩ := s
  obtain ⟨rg, rk, ri, rt, rv, rd⟩ := r
  dsimp only at hi hf hy k1 HO2 ⊢
  subst hf
  have hw1 : IntKind.i64.wrap (ri - ri) = 0 := by rw [Int.sub_self]; rfl
  have t1 : (rt == y) = true := by simpa using hy
  clear hn hv ok hc1 hc2 hc3 k1 hi hy hp' HO HE
  go_enter Try.func36, Try.ntmps36
  go_wp2
  go_quiet (fail)
  obtain ⟨u, a, hu, ha, h3⟩ : ∃ u a, u = (((w.alloc (.cells #[.int .i64 t, .int .i64 x, .int .i64 ri, .int .i64 y, .string d, .slice p n c] 45)).alloc (.cells #[.int .i64 rg, .int .i64 rk, .int .i64 ri, .int .i64 rt, .int .i64 rv, .string rd] 37)).alloc (.cells #[.int .i64 0, .int .i64 0, .int .i64 0, .int .i64 0, .string ⟨#[]⟩, .slice none 0 0] 45)).drewN nq ∧ a = w.heap.size ∧ F3 w u a #[.int .i64 t, .int .i64 x, .int .i64 ri, .int .i64 y, .string d, .slice p n c] #[.int .i64 rg, .int .i64 rk, .int .i64 ri, .int .i64 rt, .int .i64 rv, .string rd] #[.int .i64 0, .int .i64 0, .int .i64 0, .int .i64 0, .string ⟨#[]⟩, .slice none 0 0] :=
    ⟨_, _, rfl, rfl, (F3.start w _ _ _ _ _ _).below (below_drewN _ _)⟩
  rw [← hu, ← ha]
  clear hu ha
  obtain ⟨y0, y1, y2, y3, y4, y5, z0, z1, z2, z3, z4, z5, ff, fg, hB, hA⟩ := h3.all
  have r2 : u.cell? ⟨a + 1, 2, none⟩ = some (.int .i64 ri) := h3.r 2
  have r3 : u.cell? ⟨a + 1, 3, none⟩ = some (.int .i64 rt) := h3.r 3
  have r5 : u.cell? ⟨a + 1, 5, none⟩ = some (.string rd) := h3.r 5
  have HB : Hid _ := hB
  have HA : Hid _ := hA
  clear hB hA h3 t1 hw1
  go_wp2
  refine bodyPost_ret (v := .agg #[.int .i64 t, .int .i64 x, .int .i64 ri, .int .i64 rt, .string rd, .slice p' n c]) ?qres rfl ?qpost
  case qres => simp [results, Try.results36, go_sem, z0, z1, z2, z3, z4, z5]
  case qpost =>
    have hA := HA.out
    exact HO2.out p' _ HP'.out (Below.set6 ((((HB.out.setCell (p := ⟨a, 5, none⟩) hA _).setCell (p := ⟨a, 2, none⟩) hA _).setCell (p := ⟨a, 3, none⟩) hA _).setCell (p := ⟨a, 4, none⟩) hA _) (by omega) _ _ _ _ _ _)


theorem refBase_c {w : World} {s : W.Sv} {v : Value} (h : EntR w v s.ents) (ok : W.Ok s) (r : W.Rec) (hi : r.index ≤ 1099511627776) (hf : s.base ≤ r.index) : Calls Try.prog 36 #[savV s v, recV r] w (BaseOut w s v r) := by
  by_cases h1 : W.last s < r.index
  · exact refBase_no h ok r hi h1
  by_cases h2 : r.index = s.base
  · by_cases h3 : r.term = s.bterm
    · exact refBase_same h ok r hi h2 h3
    · exact refBase_zero h ok r hi h2 h3
  · unfold W.last at h1
    have hm : (r.index - s.base - 1).toNat < s.ents.length := by omega
    have hx : r.index = s.base + ((r.index - s.base - 1).toNat : Int) + 1 := by omega
    by_cases h4 : (s.ents[(r.index - s.base - 1).toNat]).1 = r.term
    · exact refBase_keep h ok r hi _ hx _ (List.getElem?_eq_getElem hm) h4
    · exact refBase_at h ok r hi _ hx _ (List.getElem?_eq_getElem hm) h4

end Go.Proofs.Ytpfnkjfbhcffiaa

namespace Go.Proofs.Ytpfnkjfbhcffiaa
open Go.RowKit

set_option maxHeartbeats 1600000 in
theorem refFold4_no {w : World} {s : W.Sv} {v : Value} (h : EntR w v s.ents) (r : W.Rec) (hk : r.kind = 4) (hf : r.index < s.base) : Calls Try.prog 14 #[savV s v, recV r] w (FoldOut w s v r) := by
  have HE : Hid (EntR w v s.ents) := h
  have HOn : Hid (W.fits s r = false → ∀ u, Below w.heap.size w u → FoldOut w s v r (.returned (.tuple #[savV s v, .bool false])) u) := by
    intro hf u hu
    unfold FoldOut
    rw [hf]
    exact ⟨v, rfl, EntR.below HE.out hu, hu, fun q hq => .inl hq⟩
  have HF : Hid _ := HOn.out (by unfold W.fits W.fitsBase; rw [if_neg (by omega), if_neg (by omega), if_neg (by omega)]; exact decide_eq_false (by omega))
  generalize FoldOut w s v r = Q at HF ⊢
  obtain ⟨p, c, hv, _⟩ := h
  unfold savV at HF ⊢
  unfold recV
  rw [hv] at HF ⊢
  obtain ⟨n, hn⟩ : ∃ n, n = s.ents.length := ⟨_, rfl⟩
  rw [← hn] at HF ⊢
  obtain ⟨t, x, b, y, d, l⟩ := s
  obtain ⟨rg, rk, ri, rt, rv, rd⟩ := r
  dsimp only at hk hf HF ⊢
  subst hk
  have hd : decide (ri < b) = true := decide_eq_true hf
  clear HE HOn hn hv hf
  go_enter Try.func14, Try.ntmps14
  go_wp2
  refine bodyPost_ret (v := .tuple #[.agg #[.int .i64 t, .int .i64 x, .int .i64 b, .int .i64 y, .string d, .slice p n c], .bool false]) ?qres rfl ?qpost
  case qres => simp [results, Try.results14, go_sem]
  case qpost => exact HF.out _ (below3 _ _ _ _)

set_option maxHeartbeats 1600000 in
theorem refFold4 {w : World} {s : W.Sv} {v : Value} (h : EntR w v s.ents) (ok : W.Ok s) (r : W.Rec) (hk : r.kind = 4) (hi : r.index ≤ 1099511627776) (hf : s.base ≤ r.index) : Calls Try.prog 14 #[savV s v, recV r] w (FoldOut w s v r) := by
  have ef : W.fits s r = true := by unfold W.fits W.fitsBase; rw [if_neg (by omega), if_neg (by omega), if_neg (by omega)]; exact decide_eq_true (by omega)
  have ed : W.fold s r = W.doBase s r := by unfold W.fold; rw [if_neg (by omega), if_neg (by omega), if_neg (by omega)]
  have HBs : Hid (∀ u, Below w.heap.size w u → Calls Try.prog 36 #[savV s v, recV r] u fun e w' => ∃ v', e = .returned (savV (W.doBase s r) v') ∧ Below u.heap.size u w' ∧ Hid (EntR w' v' (W.doBase s r).ents ∧ ∀ q, readBlk v' = some q → readBlk v = some q ∨ u.heap.size ≤ q)) := by
    intro u hu
    refine (refBase_c (EntR.below h hu) ok r hi hf).mono ?_
    rintro e w' ⟨v', rfl, h1, h2, h3⟩
    exact ⟨v', rfl, h2, h1, h3⟩
  have HLt : Hid (∀ k, readBlk v = some k → k < w.heap.size) := fun k hk => h.lt hk
  have HO : Hid (∀ v' u, EntR u v' (W.doBase s r).ents → Below w.heap.size w u → (∀ q, readBlk v' = some q → readBlk v = some q ∨ w.heap.size ≤ q) → FoldOut w s v r (.returned (.tuple #[savV (W.doBase s r) v', .bool true])) u) := by
    intro v' u h1 hu h2
    unfold FoldOut
    rw [ef, if_pos rfl, ed]
    exact ⟨v', rfl, h1, hu, h2⟩
  generalize FoldOut w s v r = Q at HO ⊢
  obtain ⟨p, c, hv, _⟩ := h
  obtain ⟨B, hB⟩ : ∃ B, B = W.doBase s r := ⟨_, rfl⟩
  have hB1 : B.term = s.term := by rw [hB]; rfl
  rw [← hB] at HBs HO
  unfold savV at HBs HO ⊢
  unfold recV at HBs ⊢
  rw [hv] at HBs HLt HO ⊢
  obtain ⟨n, hn⟩ : ∃ n, n = s.ents.length := ⟨_, rfl⟩
  rw [← hn] at HBs HLt HO ⊢
  obtain ⟨t, x, b, y, d, l⟩ := s
  obtain ⟨rg, rk, ri, rt, rv, rd⟩ := r
  obtain ⟨bt, bx, bb, bl, bd, be⟩ := B
  dsimp only at hk hf HBs HLt HO ⊢
  subst hk
  have hd : decide (ri < b) = false := decide_eq_false (by omega)
  clear hn hv hf hB hB1 ef ed ok hi
  go_enter Try.func14, Try.ntmps14
  go_wp2_with fail
  obtain ⟨u, a, hu, ha, h3⟩ : ∃ u a, u = ((w.alloc (.cells #[.int .i64 t, .int .i64 x, .int .i64 b, .int .i64 y, .string d, .slice p n c] 45)).alloc (.cells #[.int .i64 rg, .int .i64 4, .int .i64 ri, .int .i64 rt, .int .i64 rv, .string rd] 37)).alloc (.cells #[.int .i64 0, .int .i64 0, .int .i64 0, .int .i64 0, .string ⟨#[]⟩, .slice none 0 0] 45) ∧ a = w.heap.size ∧ F3 w u a #[.int .i64 t, .int .i64 x, .int .i64 b, .int .i64 y, .string d, .slice p n c] #[.int .i64 rg, .int .i64 4, .int .i64 ri, .int .i64 rt, .int .i64 rv, .string rd] #[.int .i64 0, .int .i64 0, .int .i64 0, .int .i64 0, .string ⟨#[]⟩, .slice none 0 0] :=
    ⟨_, _, rfl, rfl, F3.start w _ _ _ _ _ _⟩
  rw [← hu, ← ha]
  clear hu ha
  refine Calls.mono (HBs.out u h3.old) ?_
  rintro e w6 ⟨v', rfl, hb6, HE6⟩
  have HG : Hid (F3 w w6 a #[.int .i64 t, .int .i64 x, .int .i64 b, .int .i64 y, .string d, .slice p n c] #[.int .i64 rg, .int .i64 4, .int .i64 ri, .int .i64 rt, .int .i64 rv, .string rd] #[.int .i64 0, .int .i64 0, .int .i64 0, .int .i64 0, .string ⟨#[]⟩, .slice none 0 0]) := h3.below hb6
  have HU : Hid (w.heap.size ≤ u.heap.size ∧ a + 1 + 1 < u.heap.size) := ⟨h3.old.size, h3.lt⟩
  clear hb6 h3 HBs
  obtain ⟨y0, y1, y2, y3, y4, y5, z0, z1, z2, z3, z4, z5, ff, fg, hB, hA⟩ := HG.out.all
  have HB : Hid _ := hB
  have HA : Hid _ := hA
  clear hB hA
  obtain ⟨p', c', hv', _⟩ := id HE6.out.1
  subst hv'
  obtain ⟨n', hn'⟩ : ∃ n', n' = be.length := ⟨_, rfl⟩
  rw [← hn'] at HE6 ⊢
  clear hn'
  go_wp2
  refine bodyPost_ret (v := .tuple #[.agg #[.int .i64 bt, .int .i64 bx, .int .i64 bb, .int .i64 bl, .string bd, .slice p' n' c'], .bool true]) ?qres rfl ?qpost
  case qres => simp [results, Try.results14, go_sem, z0, z1, z2, z3, z4, z5]
  case qpost =>
    have hA := HA.out
    have hh := HG.out.here
    have hq : ∀ q, readBlk (.slice p' n' c') = some q → q ≠ a ∧ q ≠ a + 1 + 1 := by
      intro q e
      rcases HE6.out.2 q e with e2 | e2
      · have := HLt.out q e2
        omega
      · have := HU.out
        omega
    refine HO.out _ _ (EntR.carry HE6.out.1 (fun k hk => ?_)) (Below.set6 (Below.set6 HB.out hA _ _ _ _ _ _) (by omega) _ _ _ _ _ _) (fun q e => ?_)
    · obtain ⟨h1, h2⟩ := hq k hk
      rw [Below.heap_setCell _ _ _ _ (by show k ≠ a + 1 + 1; omega), Below.heap_setCell _ _ _ _ (by show k ≠ a + 1 + 1; omega), Below.heap_setCell _ _ _ _ (by show k ≠ a + 1 + 1; omega), Below.heap_setCell _ _ _ _ (by show k ≠ a + 1 + 1; omega), Below.heap_setCell _ _ _ _ (by show k ≠ a + 1 + 1; omega), Below.heap_setCell _ _ _ _ (by show k ≠ a + 1 + 1; omega), Below.heap_setCell _ _ _ _ (by show k ≠ a; omega), Below.heap_setCell _ _ _ _ (by show k ≠ a; omega), Below.heap_setCell _ _ _ _ (by show k ≠ a; omega), Below.heap_setCell _ _ _ _ (by show k ≠ a; omega), Below.heap_setCell _ _ _ _ (by show k ≠ a; omega), Below.heap_setCell _ _ _ _ (by show k ≠ a; omega)]
    · rcases HE6.out.2 q e with e2 | e2
      · exact .inl e2
      · have := HU.out
        exact .inr (by omega)

set_option maxHeartbeats 800000 in
/-- An entry of another index than the next one. -/
theorem refFold2_no {w : World} {s : W.Sv} {v : Value} (h : EntR w v s.ents) (ok : W.Ok s) (r : W.Rec) (hk : r.kind = 2) (hf : r.index ≠ W.last s + 1) : Calls Try.prog 14 #[savV s v, recV r] w (FoldOut w s v r) := by
  have HLs : Hid (∀ u, Below w.heap.size w u → Calls Try.prog 34 #[savV s v] u fun e w' => e = .returned (.int .i64 (W.last s)) ∧ Below u.heap.size u w') := fun u hu => refLast_c (EntR.below h hu) ok
  have HE : Hid (EntR w v s.ents) := h
  have HOn : Hid (W.fits s r = false → ∀ u, Below w.heap.size w u → FoldOut w s v r (.returned (.tuple #[savV s v, .bool false])) u) := by
    intro hf u hu
    unfold FoldOut
    rw [hf]
    exact ⟨v, rfl, EntR.below HE.out hu, hu, fun q hq => .inl hq⟩
  have HF : Hid _ := HOn.out (by unfold W.fits W.fitsEntry; rw [if_neg (by omega), if_pos hk]; simp [hf])
  generalize FoldOut w s v r = Q at HF ⊢
  obtain ⟨p, c, hv, _⟩ := h
  have k1 := ok.base
  have k2 := ok.last
  have k3 : 0 ≤ W.last s := by unfold W.last; omega
  obtain ⟨z, hz⟩ : ∃ z, z = W.last s := ⟨_, rfl⟩
  rw [← hz] at HLs hf k2 k3
  unfold savV at HF HLs ⊢
  unfold recV
  rw [hv] at HF HLs ⊢
  obtain ⟨n, hn⟩ : ∃ n, n = s.ents.length := ⟨_, rfl⟩
  rw [← hn] at HF HLs ⊢
  obtain ⟨t, x, b, y, d, l⟩ := s
  obtain ⟨rg, rk, ri, rt, rv, rd⟩ := r
  dsimp only at hk hf HF HLs ⊢
  subst hk
  have hd1 : (ri != z + 1) = true := by simpa using hf
  have hd2 : (ri == z + 1) = false := by simpa using hf
  have hwz : IntKind.i64.wrap (z + 1) = z + 1 := wraps_i64 _ (by omega) (by rw [pow63]; omega)
  clear HE HOn hn hv hf ok k1 k2 k3 hz
  go_enter Try.func14, Try.ntmps14
  go_wp2_with fail
  obtain ⟨u, a, hu, ha, h3⟩ : ∃ u a, u = ((w.alloc (.cells #[.int .i64 t, .int .i64 x, .int .i64 b, .int .i64 y, .string d, .slice p n c] 45)).alloc (.cells #[.int .i64 rg, .int .i64 2, .int .i64 ri, .int .i64 rt, .int .i64 rv, .string rd] 37)).alloc (.cells #[.int .i64 0, .int .i64 0, .int .i64 0, .int .i64 0, .string ⟨#[]⟩, .slice none 0 0] 45) ∧ a = w.heap.size ∧ F3 w u.drew a #[.int .i64 t, .int .i64 x, .int .i64 b, .int .i64 y, .string d, .slice p n c] #[.int .i64 rg, .int .i64 2, .int .i64 ri, .int .i64 rt, .int .i64 rv, .string rd] #[.int .i64 0, .int .i64 0, .int .i64 0, .int .i64 0, .string ⟨#[]⟩, .slice none 0 0] :=
    ⟨_, _, rfl, rfl, (F3.start w _ _ _ _ _ _).below (Below.refl _ _).drew⟩
  rw [← hu, ← ha]
  clear hu ha
  have KL : Hid (∀ X, F3 w X a #[.int .i64 t, .int .i64 x, .int .i64 b, .int .i64 y, .string d, .slice p n c] #[.int .i64 rg, .int .i64 2, .int .i64 ri, .int .i64 rt, .int .i64 rv, .string rd] #[.int .i64 0, .int .i64 0, .int .i64 0, .int .i64 0, .string ⟨#[]⟩, .slice none 0 0] → Calls Try.prog 34 #[.agg #[.int .i64 t, .int .i64 x, .int .i64 b, .int .i64 y, .string d, .slice p n c]] X fun e w' => e = .returned (.int .i64 z) ∧ F3 w w' a #[.int .i64 t, .int .i64 x, .int .i64 b, .int .i64 y, .string d, .slice p n c] #[.int .i64 rg, .int .i64 2, .int .i64 ri, .int .i64 rt, .int .i64 rv, .string rd] #[.int .i64 0, .int .i64 0, .int .i64 0, .int .i64 0, .string ⟨#[]⟩, .slice none 0 0]) := by
    intro X hX
    refine (HLs.out X hX.old).mono ?_
    rintro e w' ⟨rfl, hb⟩
    exact ⟨rfl, hX.below hb⟩
  have HC : Hid (∀ X, F3 w X a #[.int .i64 t, .int .i64 x, .int .i64 b, .int .i64 y, .string d, .slice p n c] #[.int .i64 rg, .int .i64 2, .int .i64 ri, .int .i64 rt, .int .i64 rv, .string rd] #[.int .i64 0, .int .i64 0, .int .i64 0, .int .i64 0, .string ⟨#[]⟩, .slice none 0 0] → X.cell? ⟨a, 0, none⟩ = some (.int .i64 t) ∧ X.cell? ⟨a, 1, none⟩ = some (.int .i64 x) ∧ X.cell? ⟨a, 2, none⟩ = some (.int .i64 b) ∧ X.cell? ⟨a, 3, none⟩ = some (.int .i64 y) ∧ X.cell? ⟨a, 4, none⟩ = some (.string d) ∧ X.cell? ⟨a, 5, none⟩ = some (.slice p n c) ∧ X.cell? ⟨a + 1, 2, none⟩ = some (.int .i64 ri) ∧ X.cell? ⟨a + 1, 3, none⟩ = some (.int .i64 rt)) := by
    intro X h
    exact ⟨h.s 0, h.s 1, h.s 2, h.s 3, h.s 4, h.s 5, h.r 2, h.r 3⟩
  refine wp_region_held_drew (S := fun X => X.cell? ⟨a, 0, none⟩ = some (.int .i64 t) ∧ X.cell? ⟨a, 1, none⟩ = some (.int .i64 x) ∧ X.cell? ⟨a, 2, none⟩ = some (.int .i64 b) ∧ X.cell? ⟨a, 3, none⟩ = some (.int .i64 y) ∧ X.cell? ⟨a, 4, none⟩ = some (.string d) ∧ X.cell? ⟨a, 5, none⟩ = some (.slice p n c) ∧ X.cell? ⟨a + 1, 2, none⟩ = some (.int .i64 ri) ∧ X.cell? ⟨a + 1, 3, none⟩ = some (.int .i64 rt)) (by kernel_rfl) (HC.out _ h3) (fun hHeld => ?_)
  refine take7 (i := 0) (d := 29) (v := .pointer (some ⟨a + 1, 2, none⟩)) rfl rfl (by kernel_rfl) (by kernel_rfl) (by kernel_rfl) (fun _ _ _ h => h) (Or.inl ⟨by rfl, ?_⟩) (by assumption) ?_
  · intro X hSw
    go_simp
  simp only [Act.put, List.setIfInBounds_toArray, List.set_cons_zero, List.set_cons_succ]
  refine take7 (i := 1) (d := 30) (v := .int .i64 ri) rfl rfl (by kernel_rfl) (by kernel_rfl) (by kernel_rfl) (fun _ _ _ h => h) (Or.inl ⟨by rfl, ?_⟩) (by assumption) ?_
  · intro X hSw
    go_simp
  simp only [Act.put, List.setIfInBounds_toArray, List.set_cons_zero, List.set_cons_succ]
  refine take7 (i := 2) (d := 31) (v := .agg #[.int .i64 t, .int .i64 x, .int .i64 b, .int .i64 y, .string d, .slice p n c]) rfl rfl (by kernel_rfl) (by kernel_rfl) (by kernel_rfl) (fun _ _ _ h => h) (Or.inl ⟨by rfl, ?_⟩) (by assumption) ?_
  · intro X hSw
    go_simp
  simp only [Act.put, List.setIfInBounds_toArray, List.set_cons_zero, List.set_cons_succ]
  refine wpAnyH_ready (rs := [3]) (by kernel_rfl) (by simp) ?_
  refine AllReadyH.cons rfl (fun K hK => ?_) AllReadyH.nil
  go_simp
  go_wp2_with fail
  refine (KL.out _ h3).mono ?_
  rintro e w6 ⟨rfl, hg6⟩
  go_wp2
  refine hK.out _ _ (HC.out _ hg6) (fun hHeld2 => ?_)
  clear hK K hHeld
  refine take7 (i := 4) (d := 33) (v := .int .i64 (z + 1)) rfl rfl (by kernel_rfl) (by kernel_rfl) (by kernel_rfl) (fun _ _ _ h => h) (Or.inl ⟨by rfl, ?_⟩) (by assumption) ?_
  · intro X hSw
    go_simp
  simp only [Act.put, List.setIfInBounds_toArray, List.set_cons_zero, List.set_cons_succ]
  refine take7 (i := 5) (d := 34) (v := .bool true) rfl rfl (by kernel_rfl) (by kernel_rfl) (by kernel_rfl) (fun _ _ _ h => h) (Or.inl ⟨by rfl, ?_⟩) (by assumption) ?_
  · intro X hSw
    go_simp
  simp only [Act.put, List.setIfInBounds_toArray, List.set_cons_zero, List.set_cons_succ]
  refine take7 (i := 6) (d := 35) (v := .bool true) rfl rfl (by kernel_rfl) (by kernel_rfl) (by kernel_rfl) (fun _ _ _ h => h) (Or.inl ⟨by rfl, ?_⟩) (by assumption) ?_
  · intro X hSw
    go_simp
  simp only [Act.put, List.setIfInBounds_toArray, List.set_cons_zero, List.set_cons_succ]
  refine take7 (i := 7) (d := 36) (v := undef) rfl rfl (by kernel_rfl) (by kernel_rfl) (by kernel_rfl) (fun _ _ _ h => h) (Or.inr ⟨by rfl, rfl⟩) (by assumption) ?_
  simp only [Act.put, List.setIfInBounds_toArray, List.set_cons_zero, List.set_cons_succ]
  refine take7 (i := 8) (d := 37) (v := undef) rfl rfl (by kernel_rfl) (by kernel_rfl) (by kernel_rfl) (fun _ _ _ h => h) (Or.inr ⟨by rfl, rfl⟩) (by assumption) ?_
  simp only [Act.put, List.setIfInBounds_toArray, List.set_cons_zero, List.set_cons_succ]
  refine take7 (i := 9) (d := 38) (v := undef) rfl rfl (by kernel_rfl) (by kernel_rfl) (by kernel_rfl) (fun _ _ _ h => h) (Or.inr ⟨by rfl, rfl⟩) (by assumption) ?_
  simp only [Act.put, List.setIfInBounds_toArray, List.set_cons_zero, List.set_cons_succ]
  refine take7 (i := 10) (d := 39) (v := undef) rfl rfl (by kernel_rfl) (by kernel_rfl) (by kernel_rfl) (fun _ _ _ h => h) (Or.inr ⟨by rfl, rfl⟩) (by assumption) ?_
  simp only [Act.put, List.setIfInBounds_toArray, List.set_cons_zero, List.set_cons_succ]
  refine take7 (i := 11) (d := 40) (v := undef) rfl rfl (by kernel_rfl) (by kernel_rfl) (by kernel_rfl) (fun _ _ _ h => h) (Or.inr ⟨by rfl, rfl⟩) (by assumption) ?_
  simp only [Act.put, List.setIfInBounds_toArray, List.set_cons_zero, List.set_cons_succ]
  refine take7 (i := 12) (d := 41) (v := .bool true) rfl rfl (by kernel_rfl) (by kernel_rfl) (by kernel_rfl) (fun _ _ _ h => h) (Or.inl ⟨by rfl, ?_⟩) (by assumption) ?_
  · intro X hSw
    go_simp
  simp only [Act.put, List.setIfInBounds_toArray, List.set_cons_zero, List.set_cons_succ]
  refine wpAnyH_done (by kernel_rfl) ?_ _
  obtain ⟨y0, y1, y2, y3, y4, y5, z0, z1, z2, z3, z4, z5, ff, fg, hB, hA⟩ := hg6.all
  have HB : Hid _ := hB
  have HA : Hid _ := hA
  clear hg6 hB hA KL HC h3 HLs hHeld2
  go_wp2
  refine bodyPost_ret (v := .tuple #[.agg #[.int .i64 t, .int .i64 x, .int .i64 b, .int .i64 y, .string d, .slice p n c], .bool false]) ?qres rfl ?qpost
  case qres => simp [results, Try.results14, go_sem, z0, z1, z2, z3, z4, z5]
  case qpost => exact HF.out _ (Below.set6 HB.out (by have := HA.out; omega) _ _ _ _ _ _)

set_option maxHeartbeats 1600000 in
/-- The next entry, of too small a term. -/
theorem refFold2_low {w : World} {s : W.Sv} {v : Value} (h : EntR w v s.ents) (ok : W.Ok s) (r : W.Rec) (hk : r.kind = 2) (hf : r.index = W.last s + 1) (hl : r.term < W.termAt s (W.last s)) : Calls Try.prog 14 #[savV s v, recV r] w (FoldOut w s v r) := by
  have HLs : Hid (∀ u, Below w.heap.size w u → Calls Try.prog 34 #[savV s v] u fun e w' => e = .returned (.int .i64 (W.last s)) ∧ Below u.heap.size u w') := fun u hu => refLast_c (EntR.below h hu) ok
  have HEs : Hid (∀ u, Below w.heap.size w u → Calls Try.prog 35 #[savV s v] u fun e w' => e = .returned (.int .i64 (W.termAt s (W.last s))) ∧ Below u.heap.size u w') := fun u hu => refEnd_c (EntR.below h hu)
  have HE : Hid (EntR w v s.ents) := h
  have HOn : Hid (W.fits s r = false → ∀ u, Below w.heap.size w u → FoldOut w s v r (.returned (.tuple #[savV s v, .bool false])) u) := by
    intro hf u hu
    unfold FoldOut
    rw [hf]
    exact ⟨v, rfl, EntR.below HE.out hu, hu, fun q hq => .inl hq⟩
  have HF : Hid _ := HOn.out (by unfold W.fits W.fitsEntry; rw [if_neg (by omega), if_pos hk, decide_eq_false (by omega), Bool.and_false])
  generalize FoldOut w s v r = Q at HF ⊢
  obtain ⟨p, c, hv, _⟩ := h
  have k1 := ok.base
  have k2 := ok.last
  have k3 : 0 ≤ W.last s := by unfold W.last; omega
  obtain ⟨z, hz⟩ : ∃ z, z = W.last s := ⟨_, rfl⟩
  rw [← hz] at HLs HEs hf hl k2 k3
  obtain ⟨te, hte⟩ : ∃ te, te = W.termAt s z := ⟨_, rfl⟩
  rw [← hte] at HEs hl
  unfold savV at HF HLs HEs ⊢
  unfold recV
  rw [hv] at HF HLs HEs ⊢
  obtain ⟨n, hn⟩ : ∃ n, n = s.ents.length := ⟨_, rfl⟩
  rw [← hn] at HF HLs HEs ⊢
  obtain ⟨t, x, b, y, d, l⟩ := s
  obtain ⟨rg, rk, ri, rt, rv, rd⟩ := r
  dsimp only at hk hf hl HF HLs HEs ⊢
  subst hk
  have hd1 : (ri != z + 1) = false := by rw [hf]; simp
  have hd2 : decide (rt < te) = true := decide_eq_true hl
  have hwz : IntKind.i64.wrap (z + 1) = z + 1 := wraps_i64 _ (by omega) (by rw [pow63]; omega)
  clear HE HOn hn hv hf hl ok k1 k2 k3 hz hte
  go_enter Try.func14, Try.ntmps14
  go_wp2_with fail
  obtain ⟨u, a, hu, ha, h3⟩ : ∃ u a, u = ((w.alloc (.cells #[.int .i64 t, .int .i64 x, .int .i64 b, .int .i64 y, .string d, .slice p n c] 45)).alloc (.cells #[.int .i64 rg, .int .i64 2, .int .i64 ri, .int .i64 rt, .int .i64 rv, .string rd] 37)).alloc (.cells #[.int .i64 0, .int .i64 0, .int .i64 0, .int .i64 0, .string ⟨#[]⟩, .slice none 0 0] 45) ∧ a = w.heap.size ∧ F3 w u.drew a #[.int .i64 t, .int .i64 x, .int .i64 b, .int .i64 y, .string d, .slice p n c] #[.int .i64 rg, .int .i64 2, .int .i64 ri, .int .i64 rt, .int .i64 rv, .string rd] #[.int .i64 0, .int .i64 0, .int .i64 0, .int .i64 0, .string ⟨#[]⟩, .slice none 0 0] :=
    ⟨_, _, rfl, rfl, (F3.start w _ _ _ _ _ _).below (Below.refl _ _).drew⟩
  rw [← hu, ← ha]
  clear hu ha
  have KL : Hid (∀ X, F3 w X a #[.int .i64 t, .int .i64 x, .int .i64 b, .int .i64 y, .string d, .slice p n c] #[.int .i64 rg, .int .i64 2, .int .i64 ri, .int .i64 rt, .int .i64 rv, .string rd] #[.int .i64 0, .int .i64 0, .int .i64 0, .int .i64 0, .string ⟨#[]⟩, .slice none 0 0] → Calls Try.prog 34 #[.agg #[.int .i64 t, .int .i64 x, .int .i64 b, .int .i64 y, .string d, .slice p n c]] X fun e w' => e = .returned (.int .i64 z) ∧ F3 w w' a #[.int .i64 t, .int .i64 x, .int .i64 b, .int .i64 y, .string d, .slice p n c] #[.int .i64 rg, .int .i64 2, .int .i64 ri, .int .i64 rt, .int .i64 rv, .string rd] #[.int .i64 0, .int .i64 0, .int .i64 0, .int .i64 0, .string ⟨#[]⟩, .slice none 0 0]) := by
    intro X hX
    refine (HLs.out X hX.old).mono ?_
    rintro e w' ⟨rfl, hb⟩
    exact ⟨rfl, hX.below hb⟩
  have KE : Hid (∀ X, F3 w X a #[.int .i64 t, .int .i64 x, .int .i64 b, .int .i64 y, .string d, .slice p n c] #[.int .i64 rg, .int .i64 2, .int .i64 ri, .int .i64 rt, .int .i64 rv, .string rd] #[.int .i64 0, .int .i64 0, .int .i64 0, .int .i64 0, .string ⟨#[]⟩, .slice none 0 0] → Calls Try.prog 35 #[.agg #[.int .i64 t, .int .i64 x, .int .i64 b, .int .i64 y, .string d, .slice p n c]] X fun e w' => e = .returned (.int .i64 te) ∧ F3 w w' a #[.int .i64 t, .int .i64 x, .int .i64 b, .int .i64 y, .string d, .slice p n c] #[.int .i64 rg, .int .i64 2, .int .i64 ri, .int .i64 rt, .int .i64 rv, .string rd] #[.int .i64 0, .int .i64 0, .int .i64 0, .int .i64 0, .string ⟨#[]⟩, .slice none 0 0]) := by
    intro X hX
    refine (HEs.out X hX.old).mono ?_
    rintro e w' ⟨rfl, hb⟩
    exact ⟨rfl, hX.below hb⟩
  have HC : Hid (∀ X, F3 w X a #[.int .i64 t, .int .i64 x, .int .i64 b, .int .i64 y, .string d, .slice p n c] #[.int .i64 rg, .int .i64 2, .int .i64 ri, .int .i64 rt, .int .i64 rv, .string rd] #[.int .i64 0, .int .i64 0, .int .i64 0, .int .i64 0, .string ⟨#[]⟩, .slice none 0 0] → X.cell? ⟨a, 0, none⟩ = some (.int .i64 t) ∧ X.cell? ⟨a, 1, none⟩ = some (.int .i64 x) ∧ X.cell? ⟨a, 2, none⟩ = some (.int .i64 b) ∧ X.cell? ⟨a, 3, none⟩ = some (.int .i64 y) ∧ X.cell? ⟨a, 4, none⟩ = some (.string d) ∧ X.cell? ⟨a, 5, none⟩ = some (.slice p n c) ∧ X.cell? ⟨a + 1, 2, none⟩ = some (.int .i64 ri) ∧ X.cell? ⟨a + 1, 3, none⟩ = some (.int .i64 rt)) := by
    intro X h
    exact ⟨h.s 0, h.s 1, h.s 2, h.s 3, h.s 4, h.s 5, h.r 2, h.r 3⟩
  go_region_held (fun X => X.cell? ⟨a, 0, none⟩ = some (.int .i64 t) ∧ X.cell? ⟨a, 1, none⟩ = some (.int .i64 x) ∧ X.cell? ⟨a, 2, none⟩ = some (.int .i64 b) ∧ X.cell? ⟨a, 3, none⟩ = some (.int .i64 y) ∧ X.cell? ⟨a, 4, none⟩ = some (.string d) ∧ X.cell? ⟨a, 5, none⟩ = some (.slice p n c) ∧ X.cell? ⟨a + 1, 2, none⟩ = some (.int .i64 ri) ∧ X.cell? ⟨a + 1, 3, none⟩ = some (.int .i64 rt))
    (exact HC.out _ (by assumption))
    (first
      | (go_at_call 34; refine (KL.out _ ?_).mono ?_; assumption; rintro e w6 ⟨rfl, hg6⟩)
      | (go_at_call 35; refine (KE.out _ ?_).mono ?_; assumption; rintro e w7 ⟨rfl, hg7⟩))
  obtain ⟨y0, y1, y2, y3, y4, y5, z0, z1, z2, z3, z4, z5, ff, fg, hB, hA⟩ := hg7.all
  have HB : Hid _ := hB
  have HA : Hid _ := hA
  clear hg6 hg7 hB hA KL KE HC h3 HLs HEs
  go_wp2
  refine bodyPost_ret (v := .tuple #[.agg #[.int .i64 t, .int .i64 x, .int .i64 b, .int .i64 y, .string d, .slice p n c], .bool false]) ?qres rfl ?qpost
  case qres => simp [results, Try.results14, go_sem, z0, z1, z2, z3, z4, z5]
  case qpost => exact HF.out _ (Below.set6 HB.out (by have := HA.out; omega) _ _ _ _ _ _)

/-- The document's folding of any record that may be. -/
theorem refFold_c {w : World} {s : W.Sv} {v : Value} (h : EntR w v s.ents) (ok : W.Ok s) (r : W.Rec) (hm : W.may r = true) : Calls Try.prog 14 #[savV s v, recV r] w (FoldOut w s v r) := by
  have hk : W.mayK r = true := by
    unfold W.may at hm
    rw [Bool.and_eq_true] at hm
    exact hm.2
  unfold W.mayK at hk
  by_cases k1 : r.kind = 1
  · exact refFold1 h r k1
  rw [if_neg k1] at hk
  by_cases k2 : r.kind = 2
  · rw [if_pos k2] at hk
    unfold W.mayEntry W.mayBase at hk
    simp only [Bool.and_eq_true, W.ix_iff] at hk
    by_cases h1 : r.index = W.last s + 1
    · by_cases h2 : r.term < W.termAt s (W.last s)
      · exact refFold2_low h ok r k2 h1 h2
      · refine refFold2 h ok r k2 ?_ hk.2.1.1.1.2
        unfold W.fitsEntry
        rw [decide_eq_true (show W.termAt s (W.last s) ≤ r.term by omega), h1]
        simp
    · exact refFold2_no h ok r k2 h1
  rw [if_neg k2] at hk
  by_cases k3 : r.kind = 3
  · rw [if_pos k3] at hk
    unfold W.mayCut at hk
    simp only [Bool.and_eq_true, W.ix_iff, decide_eq_true_eq] at hk
    exact refFold3 h ok r k3 ⟨hk.1.1.1.1, hk.1.1.1.2.2⟩
  rw [if_neg k3] at hk
  by_cases k4 : r.kind = 4
  · rw [if_pos k4] at hk
    unfold W.mayBase at hk
    simp only [Bool.and_eq_true, W.ix_iff] at hk
    by_cases h1 : s.base ≤ r.index
    · exact refFold4 h ok r k4 hk.1.1.1.2 h1
    · exact refFold4_no h r k4 (by omega)
  · rw [if_neg k4] at hk
    cases hk

end Go.Proofs.Ytpfnkjfbhcffiaa

namespace Go.Proofs.Ytpfnkjfbhcffiaa
open Go.RowKit

theorem below_set6b {B : Nat} {a w : World} (h : Below B a w) {b o : Nat} (hb : B ≤ b) (u0 u1 u2 u3 u4 u5 : Value) : Below B a (set6 w b o u0 u1 u2 u3 u4 u5) := by
  unfold set6
  exact (((((h.setCell (p := ⟨b, o, none⟩) hb u0).setCell (p := ⟨b, o + 1, none⟩) hb u1).setCell (p := ⟨b, o + 2, none⟩) hb u2).setCell (p := ⟨b, o + 3, none⟩) hb u3).setCell (p := ⟨b, o + 4, none⟩) hb u4).setCell (p := ⟨b, o + 5, none⟩) hb u5

set_option maxHeartbeats 3200000 in
set_option maxRecDepth 20000 in
/-- Why a record is refused. -/
theorem refused_c {w : World} {v : Value} {g : Nat} {S : Nat → W.Sv} {E : Nat → Value} (h : AllV w v g S E) (ok : ∀ i, i < 9 → W.Ok (S i)) (r : W.Rec) :
    Calls Try.prog 12 #[v, recV r] w fun e w' => e = .returned (.int .i64 (W.chk S r)) ∧ Below w.heap.size w w' := by
  obtain ⟨cc, hv, hc1, hc2⟩ := h.form
  subst hv
  have HM : Hid (∀ u : World, Calls Try.prog 27 #[recV r] u fun e w' => e = .returned (.bool (W.may r)) ∧ Below u.heap.size u w') := refMay_c r
  by_cases hm : W.may r = true
  · obtain ⟨gi, hgi⟩ : ∃ gi, gi = r.group.toNat := ⟨_, rfl⟩
    have hgr : r.group = (gi : Int) ∧ gi < 9 := by
      unfold W.may at hm
      rw [Bool.and_eq_true] at hm
      have := W.isGroup_iff.1 hm.1
      omega
    obtain ⟨q0, q1, q2, q3, q4, q5⟩ := h.cell gi hgr.2
    have hent := h.ent gi hgr.2
    have HFo : Hid (∀ u, Below w.heap.size w u → Calls Try.prog 14 #[savV (S gi) (E gi), recV r] u (FoldOut u (S gi) (E gi) r)) := fun u hu => refFold_c (EntR.below hent hu) (ok gi hgr.2) r hm
    obtain ⟨p, c, hE, _⟩ := hent
    have hch : W.chk S r = if W.fits (S gi) r then 0 else 50 := by unfold W.chk; rw [if_pos hm, ← hgi]
    rw [hm] at HM
    obtain ⟨f, hf⟩ : ∃ f, f = W.fits (S gi) r := ⟨_, rfl⟩
    have HFo2 : Hid (∀ u, Below w.heap.size w u → Calls Try.prog 14 #[.agg #[.int .i64 (S gi).term, .int .i64 (S gi).vote, .int .i64 (S gi).base, .int .i64 (S gi).bterm, .string (S gi).data, .slice p (S gi).ents.length c], .agg #[.int .i64 r.group, .int .i64 r.kind, .int .i64 r.index, .int .i64 r.term, .int .i64 r.vote, .string r.data]] u fun e w' => ∃ a0 a1 a2 a3 a4 p' n' c', e = .returned (.tuple #[.agg #[.int .i64 a0, .int .i64 a1, .int .i64 a2, .int .i64 a3, .string a4, .slice p' n' c'], .bool f]) ∧ Below u.heap.size u w') := by
      intro u hu
      have hF := HFo.out u hu
      rw [hE] at hF
      refine hF.mono ?_
      rintro e w' ⟨v', rfl, h1, h2, _⟩
      rw [← hf] at h1 ⊢
      generalize (if f = true then W.fold (S gi) r else S gi) = X at h1 ⊢
      obtain ⟨p', c', hv', _⟩ := h1
      exact ⟨X.term, X.vote, X.base, X.bterm, X.data, p', X.ents.length, c', by rw [hv']; rfl, h2⟩
    rw [← hf] at hch
    rw [hE] at q5
    have hgl : g < w.heap.size := h.lt
    obtain ⟨s0, hs0⟩ : ∃ s0, s0 = S gi := ⟨_, rfl⟩
    rw [← hs0] at q0 q1 q2 q3 q4 q5 HFo2
    obtain ⟨n, hn⟩ : ∃ n, n = s0.ents.length := ⟨_, rfl⟩
    rw [← hn] at q5 HFo2
    obtain ⟨st, sx, sb, sy, sd, sl⟩ := s0
    obtain ⟨rg, rk, ri, rt, rv, rd⟩ := r
    obtain ⟨hg1, hg2⟩ := hgr
    unfold recV at HM ⊢
    dsimp only at HM HFo2 q0 q1 q2 q3 q4 q5 hg1 ⊢
    rw [hch]
    subst hg1
    have hg3 : (gi : Int) < 9 := by omega
    have hg0 : (0 : Int) ≤ (gi : Int) := by omega
    clear h ok hgi HFo hE hch hf hs0 hn hm hg2 hc2
    go_enter Try.func12, Try.ntmps12
    go_wp2_with fail
    obtain ⟨u, bx, hu, hbx⟩ : ∃ u bx, u = w.alloc (.cells #[.int .i64 (gi : Int), .int .i64 rk, .int .i64 ri, .int .i64 rt, .int .i64 rv, .string rd] 37) ∧ bx = w.heap.size := ⟨_, _, rfl, rfl⟩
    have hu0 : Below w.heap.size w u := by rw [hu]; exact below_alloc _ _
    have HR : Hid (∀ j, u.cell? ⟨bx, j, none⟩ = (#[.int .i64 (gi : Int), .int .i64 rk, .int .i64 ri, .int .i64 rt, .int .i64 rv, .string rd] : Array Value)[j]?) := by
      intro j
      rw [hu, hbx]
      exact World.cell?_alloc_mark w _ _ _ j
    have HL : Hid (bx < u.heap.size ∧ g < u.heap.size ∧ w.heap.size ≤ bx) := by
      refine ⟨?_, ?_, by omega⟩
      · rw [hu, hbx]; simp
      · rw [hu]; simp; omega
    have HS : Hid (∀ Y, Below u.heap.size u Y → Y.cell? ⟨bx, 0, none⟩ = some (.int .i64 (gi : Int)) ∧ Y.cell? ⟨bx, 1, none⟩ = some (.int .i64 rk) ∧ Y.cell? ⟨bx, 2, none⟩ = some (.int .i64 ri) ∧ Y.cell? ⟨bx, 3, none⟩ = some (.int .i64 rt) ∧ Y.cell? ⟨bx, 4, none⟩ = some (.int .i64 rv) ∧ Y.cell? ⟨bx, 5, none⟩ = some (.string rd) ∧ Y.cell? ⟨g, gi * 6, none⟩ = some (.int .i64 st) ∧ Y.cell? ⟨g, gi * 6 + 1, none⟩ = some (.int .i64 sx) ∧ Y.cell? ⟨g, gi * 6 + 2, none⟩ = some (.int .i64 sb) ∧ Y.cell? ⟨g, gi * 6 + 3, none⟩ = some (.int .i64 sy) ∧ Y.cell? ⟨g, gi * 6 + 4, none⟩ = some (.string sd) ∧ Y.cell? ⟨g, gi * 6 + 5, none⟩ = some (.slice p n c)) := by
      intro Y hY
      have e1 : ∀ j, Y.cell? ⟨bx, j, none⟩ = u.cell? ⟨bx, j, none⟩ := fun j => hY.cell (p := ⟨bx, j, none⟩) HL.out.1
      have e2 : ∀ j, Y.cell? ⟨g, j, none⟩ = w.cell? ⟨g, j, none⟩ := fun j => (hY.cell (p := ⟨g, j, none⟩) HL.out.2.1).trans (hu0.cell (p := ⟨g, j, none⟩) hgl)
      rw [e1, e1, e1, e1, e1, e1, e2, e2, e2, e2, e2, e2]
      exact ⟨HR.out 0, HR.out 1, HR.out 2, HR.out 3, HR.out 4, HR.out 5, q0, q1, q2, q3, q4, q5⟩
    have HU0 : Hid (Below w.heap.size w u) := hu0
    rw [← hu, ← hbx]
    clear hu hbx q0 q1 q2 q3 q4 q5 hu0 hgl
    refine Calls.mono (HM.out _) ?_
    rintro e w1 ⟨rfl, hb1⟩
    obtain ⟨d0, d1, d2, d3, d4, d5, e0, e1, e2, e3, e4, e5⟩ := HS.out w1 hb1
    have HB1 : Hid _ := hb1
    clear hb1
    go_wp2
    have hz0 : Below u.heap.size u w1.drew := HB1.out.drew
    have hz1 : Below u.heap.size u (w1.drew.alloc (.cells #[.int .i64 0, .int .i64 0, .int .i64 0, .int .i64 0, .string ⟨#[]⟩, .slice none 0 0] 45)) := hz0.trans ((below_alloc _ _).mono hz0.size)
    have HFA : Hid (Calls Try.prog 14 #[.agg #[.int .i64 st, .int .i64 sx, .int .i64 sb, .int .i64 sy, .string sd, .slice p n c], .agg #[.int .i64 (gi : Int), .int .i64 rk, .int .i64 ri, .int .i64 rt, .int .i64 rv, .string rd]] w1.drew fun e w' => ∃ a0 a1 a2 a3 a4 p' n' c', e = .returned (.tuple #[.agg #[.int .i64 a0, .int .i64 a1, .int .i64 a2, .int .i64 a3, .string a4, .slice p' n' c'], .bool f]) ∧ Below u.heap.size u w') := by
      refine (HFo2.out _ (HU0.out.trans (hz0.mono HU0.out.size))).mono ?_
      rintro e w' ⟨a0, a1, a2, a3, a4, p', n', c', rfl, hb⟩
      exact ⟨a0, a1, a2, a3, a4, p', n', c', rfl, hz0.trans (hb.mono hz0.size)⟩
    have HFB : Hid (Calls Try.prog 14 #[.agg #[.int .i64 st, .int .i64 sx, .int .i64 sb, .int .i64 sy, .string sd, .slice p n c], .agg #[.int .i64 (gi : Int), .int .i64 rk, .int .i64 ri, .int .i64 rt, .int .i64 rv, .string rd]] (w1.drew.alloc (.cells #[.int .i64 0, .int .i64 0, .int .i64 0, .int .i64 0, .string ⟨#[]⟩, .slice none 0 0] 45)) fun e w' => ∃ a0 a1 a2 a3 a4 p' n' c', e = .returned (.tuple #[.agg #[.int .i64 a0, .int .i64 a1, .int .i64 a2, .int .i64 a3, .string a4, .slice p' n' c'], .bool f]) ∧ Below u.heap.size u w' ∧ (w'.cell? ⟨w1.heap.size, 0, none⟩ = some (.int .i64 0) ∧ w'.cell? ⟨w1.heap.size, 1, none⟩ = some (.int .i64 0) ∧ w'.cell? ⟨w1.heap.size, 2, none⟩ = some (.int .i64 0) ∧ w'.cell? ⟨w1.heap.size, 3, none⟩ = some (.int .i64 0) ∧ w'.cell? ⟨w1.heap.size, 4, none⟩ = some (.string ⟨#[]⟩) ∧ w'.cell? ⟨w1.heap.size, 5, none⟩ = some (.slice none 0 0)) ∧ ∀ j, w'.frozen? ⟨w1.heap.size, j, none⟩ = false) := by
      refine (HFo2.out _ (HU0.out.trans (hz1.mono HU0.out.size))).mono ?_
      rintro e w' ⟨a0, a1, a2, a3, a4, p', n', c', rfl, hb⟩
      have hlt : w1.heap.size < (w1.drew.alloc (.cells #[.int .i64 0, .int .i64 0, .int .i64 0, .int .i64 0, .string ⟨#[]⟩, .slice none 0 0] 45)).heap.size := by simp
      have hc : ∀ j, w'.cell? ⟨w1.heap.size, j, none⟩ = (#[.int .i64 0, .int .i64 0, .int .i64 0, .int .i64 0, .string ⟨#[]⟩, .slice none 0 0] : Array Value)[j]? := fun j => (hb.cell (p := ⟨w1.heap.size, j, none⟩) hlt).trans (World.cell?_alloc_mark w1.drew _ _ _ j)
      refine ⟨a0, a1, a2, a3, a4, p', n', c', rfl, hz1.trans (hb.mono hz1.size), ⟨hc 0, hc 1, hc 2, hc 3, hc 4, hc 5⟩, fun j => ?_⟩
      rw [hb.frozen (p := ⟨w1.heap.size, j, none⟩) hlt]
      exact (World.frozen?_alloc_mark w1.drew _ _ _ _ j).trans (by simp)
    have HZA : Hid (∀ (Y : World) o, Below u.heap.size u Y → Below u.heap.size u (Y.alloc o)) := fun Y o hY => hY.trans ((below_alloc Y o).mono hY.size)
    have HZ6 : Hid (∀ (Y : World) u0 u1 u2 u3 u4 u5, Below u.heap.size u Y → Below u.heap.size u ((((((Y.setCell ⟨w1.heap.size, 0, none⟩ u0).setCell ⟨w1.heap.size, 1, none⟩ u1).setCell ⟨w1.heap.size, 2, none⟩ u2).setCell ⟨w1.heap.size, 3, none⟩ u3).setCell ⟨w1.heap.size, 4, none⟩ u4).setCell ⟨w1.heap.size, 5, none⟩ u5)) := fun Y u0 u1 u2 u3 u4 u5 hY => Below.set6 hY HB1.out.size u0 u1 u2 u3 u4 u5
    have HEnd : Hid (∀ Y, Below u.heap.size u Y → Below w.heap.size w Y) := fun Y hY => HU0.out.trans (hY.mono HU0.out.size)
    have hlt1 : bx < w1.heap.size := by have := HL.out.1; have := HB1.out.size; omega
    have hlt2 : g < w1.heap.size := by have := HL.out.2.1; have := HB1.out.size; omega
    clear HR HL HM HFo2 HU0
    refine wp_region_held_drew (S := (fun Y => Y.cell? ⟨bx, 0, none⟩ = some (.int .i64 (gi : Int)) ∧ Y.cell? ⟨bx, 1, none⟩ = some (.int .i64 rk) ∧ Y.cell? ⟨bx, 2, none⟩ = some (.int .i64 ri) ∧ Y.cell? ⟨bx, 3, none⟩ = some (.int .i64 rt) ∧ Y.cell? ⟨bx, 4, none⟩ = some (.int .i64 rv) ∧ Y.cell? ⟨bx, 5, none⟩ = some (.string rd) ∧ Y.cell? ⟨g, gi * 6, none⟩ = some (.int .i64 st) ∧ Y.cell? ⟨g, gi * 6 + 1, none⟩ = some (.int .i64 sx) ∧ Y.cell? ⟨g, gi * 6 + 2, none⟩ = some (.int .i64 sb) ∧ Y.cell? ⟨g, gi * 6 + 3, none⟩ = some (.int .i64 sy) ∧ Y.cell? ⟨g, gi * 6 + 4, none⟩ = some (.string sd) ∧ Y.cell? ⟨g, gi * 6 + 5, none⟩ = some (.slice p n c))) (by kernel_rfl) (HS.out _ hz0) (fun hHeld => ?_)
    refine take7 (i := 0) (d := 11) (v := .slice (some ⟨g, 0, none⟩) 9 cc) rfl rfl (by kernel_rfl) (by kernel_rfl) (by kernel_rfl) (fun _ _ _ h => h) (Or.inl ⟨by rfl, ?_⟩) (by assumption) ?_
    · intro X hSw
      go_simp
    simp only [Act.put, List.setIfInBounds_toArray, List.set_cons_zero, List.set_cons_succ]
    refine take7 (i := 1) (d := 12) (v := .pointer (some ⟨bx, 0, none⟩)) rfl rfl (by kernel_rfl) (by kernel_rfl) (by kernel_rfl) (fun _ _ _ h => h) (Or.inl ⟨by rfl, ?_⟩) (by assumption) ?_
    · intro X hSw
      go_simp
    simp only [Act.put, List.setIfInBounds_toArray, List.set_cons_zero, List.set_cons_succ]
    refine take7 (i := 2) (d := 13) (v := .int .i64 (gi : Int)) rfl rfl (by kernel_rfl) (by kernel_rfl) (by kernel_rfl) (fun _ _ _ h => h) (Or.inl ⟨by rfl, ?_⟩) (by assumption) ?_
    · intro X hSw
      go_simp
    simp only [Act.put, List.setIfInBounds_toArray, List.set_cons_zero, List.set_cons_succ]
    refine take7 (i := 3) (d := 14) (v := .pointer (some ⟨g, gi * 6, none⟩)) rfl rfl (by kernel_rfl) (by kernel_rfl) (by kernel_rfl) (fun _ _ _ h => h) (Or.inl ⟨by rfl, ?_⟩) (by assumption) ?_
    · intro X hSw
      go_simp
    simp only [Act.put, List.setIfInBounds_toArray, List.set_cons_zero, List.set_cons_succ]
    refine take7 (i := 4) (d := 15) (v := .agg #[.int .i64 st, .int .i64 sx, .int .i64 sb, .int .i64 sy, .string sd, .slice p n c]) rfl rfl (by kernel_rfl) (by kernel_rfl) (by kernel_rfl) (fun _ _ _ h => h) (Or.inl ⟨by rfl, ?_⟩) (by assumption) ?_
    · intro X hSw
      go_simp
    simp only [Act.put, List.setIfInBounds_toArray, List.set_cons_zero, List.set_cons_succ]
    refine take7 (i := 5) (d := 16) (v := .agg #[.int .i64 (gi : Int), .int .i64 rk, .int .i64 ri, .int .i64 rt, .int .i64 rv, .string rd]) rfl rfl (by kernel_rfl) (by kernel_rfl) (by kernel_rfl) (fun _ _ _ h => h) (Or.inl ⟨by rfl, ?_⟩) (by assumption) ?_
    · intro X hSw
      go_simp
    simp only [Act.put, List.setIfInBounds_toArray, List.set_cons_zero, List.set_cons_succ]
    refine wpAnyH_ready (rs := [6, 10]) (by kernel_rfl) (by simp) ?_
    refine AllReadyH.cons rfl (fun K hK => ?_) (AllReadyH.cons rfl (fun K hK => ?_) AllReadyH.nil)
    · go_simp
      go_wp2_with fail
      refine Calls.mono HFA.out ?_
      rintro e w6 ⟨a0, a1, a2, a3, a4, p', n', c', rfl, hz6⟩
      go_wp2
      refine hK.out _ _ (HS.out _ hz6) (fun hHeld2 => ?_)
      clear hK K hHeld
      refine take7 (i := 7) (d := 10) (v := .tuple #[.agg #[.int .i64 a0, .int .i64 a1, .int .i64 a2, .int .i64 a3, .string a4, .slice p' n' c'], .bool f]) rfl rfl (by kernel_rfl) (by kernel_rfl) (by kernel_rfl) (fun _ _ _ h => h) (Or.inl ⟨by rfl, ?_⟩) (by assumption) ?_
      · intro X hSw
        go_simp
      simp only [Act.put, List.setIfInBounds_toArray, List.set_cons_zero, List.set_cons_succ]
      refine take7 (i := 8) (d := 18) (v := .agg #[.int .i64 a0, .int .i64 a1, .int .i64 a2, .int .i64 a3, .string a4, .slice p' n' c']) rfl rfl (by kernel_rfl) (by kernel_rfl) (by kernel_rfl) (fun _ _ _ h => h) (Or.inl ⟨by rfl, ?_⟩) (by assumption) ?_
      · intro X hSw
        go_simp
      simp only [Act.put, List.setIfInBounds_toArray, List.set_cons_zero, List.set_cons_succ]
      refine take7 (i := 9) (d := 19) (v := .bool f) rfl rfl (by kernel_rfl) (by kernel_rfl) (by kernel_rfl) (fun _ _ _ h => h) (Or.inl ⟨by rfl, ?_⟩) (by assumption) ?_
      · intro X hSw
        go_simp
      simp only [Act.put, List.setIfInBounds_toArray, List.set_cons_zero, List.set_cons_succ]
      refine wpAnyH_ready (rs := [10]) (by kernel_rfl) (by simp) ?_
      refine AllReadyH.cons rfl (fun K hK => ?_) AllReadyH.nil
      go_simp
      refine hK.out _ _ (HS.out _ (HZA.out _ _ hz6)) (fun hHeld3 => ?_)
      clear hK K hHeld2
      refine wpAnyH_ready (rs := [11]) (by kernel_rfl) (by simp) ?_
      refine AllReadyH.cons rfl (fun K hK => ?_) AllReadyH.nil
      go_simp
      refine hK.out _ _ (HS.out _ (HZA.out _ _ hz6)) (fun hHeld4 => ?_)
      clear hK K hHeld3
      refine take7 (i := 12) (d := 6) (v := .bool f) rfl rfl (by kernel_rfl) (by kernel_rfl) (by kernel_rfl) (fun _ _ _ h => h) (Or.inl ⟨by rfl, ?_⟩) (by assumption) ?_
      · intro X hSw
        go_simp
      simp only [Act.put, List.setIfInBounds_toArray, List.set_cons_zero, List.set_cons_succ]
      refine wpAnyH_done (by kernel_rfl) ?_ _
      have HZ : Hid _ := hz6
      clear HFA HFB HS hz6 hz0 hz1 hHeld4
      cases f
      · go_wp2
        go_ret
        exact ⟨rfl, HEnd.out _ (HZA.out _ _ HZ.out)⟩
      · go_wp2
        go_ret
        exact ⟨rfl, HEnd.out _ (HZA.out _ _ HZ.out)⟩
    · go_simp
      refine hK.out _ _ (HS.out _ hz1) (fun hHeld2 => ?_)
      clear hK K hHeld
      refine wpAnyH_ready (rs := [6]) (by kernel_rfl) (by simp) ?_
      refine AllReadyH.cons rfl (fun K hK => ?_) AllReadyH.nil
      go_simp
      go_wp2_with fail
      refine Calls.mono HFB.out ?_
      rintro e w6 ⟨a0, a1, a2, a3, a4, p', n', c', rfl, hz6, ⟨k0, k1, k2, k3, k4, k5⟩, kf⟩
      go_wp2
      refine hK.out _ _ (HS.out _ hz6) (fun hHeld3 => ?_)
      clear hK K hHeld2
      refine take7 (i := 7) (d := 10) (v := .tuple #[.agg #[.int .i64 a0, .int .i64 a1, .int .i64 a2, .int .i64 a3, .string a4, .slice p' n' c'], .bool f]) rfl rfl (by kernel_rfl) (by kernel_rfl) (by kernel_rfl) (fun _ _ _ h => h) (Or.inl ⟨by rfl, ?_⟩) (by assumption) ?_
      · intro X hSw
        go_simp
      simp only [Act.put, List.setIfInBounds_toArray, List.set_cons_zero, List.set_cons_succ]
      refine take7 (i := 8) (d := 18) (v := .agg #[.int .i64 a0, .int .i64 a1, .int .i64 a2, .int .i64 a3, .string a4, .slice p' n' c']) rfl rfl (by kernel_rfl) (by kernel_rfl) (by kernel_rfl) (fun _ _ _ h => h) (Or.inl ⟨by rfl, ?_⟩) (by assumption) ?_
      · intro X hSw
        go_simp
      simp only [Act.put, List.setIfInBounds_toArray, List.set_cons_zero, List.set_cons_succ]
      refine take7 (i := 9) (d := 19) (v := .bool f) rfl rfl (by kernel_rfl) (by kernel_rfl) (by kernel_rfl) (fun _ _ _ h => h) (Or.inl ⟨by rfl, ?_⟩) (by assumption) ?_
      · intro X hSw
        go_simp
      simp only [Act.put, List.setIfInBounds_toArray, List.set_cons_zero, List.set_cons_succ]
      refine wpAnyH_ready (rs := [11]) (by kernel_rfl) (by simp) ?_
      refine AllReadyH.cons rfl (fun K hK => ?_) AllReadyH.nil
      go_simp
      refine hK.out _ _ (HS.out _ (HZ6.out _ _ _ _ _ _ _ hz6)) (fun hHeld4 => ?_)
      clear hK K hHeld3
      refine take7 (i := 12) (d := 6) (v := .bool f) rfl rfl (by kernel_rfl) (by kernel_rfl) (by kernel_rfl) (fun _ _ _ h => h) (Or.inl ⟨by rfl, ?_⟩) (by assumption) ?_
      · intro X hSw
        go_simp
      simp only [Act.put, List.setIfInBounds_toArray, List.set_cons_zero, List.set_cons_succ]
      refine wpAnyH_done (by kernel_rfl) ?_ _
      have HZ : Hid _ := hz6
      clear HFA HFB HS hz6 hz0 hz1 hHeld4
      cases f
      · go_wp2
        go_ret
        exact ⟨rfl, HEnd.out _ (HZ6.out _ _ _ _ _ _ _ HZ.out)⟩
      · go_wp2
        go_ret
        exact ⟨rfl, HEnd.out _ (HZ6.out _ _ _ _ _ _ _ HZ.out)⟩
  · have hch : W.chk S r = 1 := by unfold W.chk; rw [if_neg hm]
    have hmf : W.may r = false := by simpa using hm
    rw [hmf] at HM
    rw [hch]
    unfold recV at HM ⊢
    obtain ⟨rg, rk, ri, rt, rv, rd⟩ := r
    dsimp only at HM ⊢
    have HB0 : Hid (∀ u : World, Below w.heap.size w u → Below w.heap.size w u) := fun _ h => h
    clear h ok hm hmf hch hc2
    go_enter Try.func12, Try.ntmps12
    go_wp2_with fail
    refine Calls.mono (HM.out _) ?_
    rintro e w1 ⟨rfl, hb1⟩
    have HB1 : Hid (Below w.heap.size w w1) := (below_alloc _ _).trans (hb1.mono (by simp))
    clear hb1
    go_wp2
    go_ret
    exact ⟨rfl, HB1.out⟩

end Go.Proofs.Ytpfnkjfbhcffiaa

namespace Go.Proofs.Ytpfnkjfbhcffiaa
open Go.RowKit

/-- An op's record. -/
def recM (S : Nat → W.Sv) (r : W.Rec) (next : Bool) : W.Rec :=
  if next = true ∧ 0 ≤ r.group ∧ r.group < 9 then
    (if r.kind = 2 then { r with index := W.last (S r.group.toNat) + 1, term := W.termAt (S r.group.toNat) (W.last (S r.group.toNat)) }
     else if r.kind = 1 then r else { r with index := W.last (S r.group.toNat) })
  else r

theorem bA {w X : World} (h : Below w.heap.size w X) (o : Obj) : Below w.heap.size w (X.alloc o) := h.trans ((below_alloc X o).mono h.size)
theorem bS {w X : World} (h : Below w.heap.size w X) {b : Nat} (hb : w.heap.size ≤ b) (o : Nat) (v : Value) : Below w.heap.size w (X.setCell ⟨b, o, none⟩ v) := h.setCell (p := ⟨b, o, none⟩) hb v

set_option maxHeartbeats 1600000 in
set_option maxRecDepth 20000 in
theorem record_off {w : World} {v : Value} {g : Nat} {S : Nat → W.Sv} {E : Nat → Value} (h : AllV w v g S E) (k : Int) (r : W.Rec) (next : Bool) (hn : next = false ∨ r.group < 0 ∨ 9 ≤ r.group) :
    Calls Try.prog 11 #[v, .agg #[.int .i64 k, .int .i64 r.group, .int .i64 r.kind, .int .i64 r.index, .int .i64 r.term, .int .i64 r.vote, .string r.data, .bool next]] w fun e w' => e = .returned (recV r) ∧ Below w.heap.size w w' := by
  obtain ⟨cc, hv, hc1, hc2⟩ := h.form
  subst hv
  obtain ⟨rg, rk, ri, rt, rv, rd⟩ := r
  unfold recV
  dsimp only at hn ⊢
  clear h hc2
  cases next with
  | false =>
    clear hn
    go_enter Try.func11, Try.ntmps11
    go_wp2
    refine bodyPost_ret (v := .agg #[.int .i64 rg, .int .i64 rk, .int .i64 ri, .int .i64 rt, .int .i64 rv, .string rd]) (by simp [results, Try.results11, go_sem]) rfl ⟨rfl, (by repeat (first | exact Below.refl _ _ | refine bA ?_ _ | refine bS ?_ (by omega) _ _))⟩
  | true =>
    by_cases hg : rg < 0
    · have t1 : decide ((0 : Int) ≤ rg) = false := decide_eq_false (by omega)
      clear hn hg
      go_enter Try.func11, Try.ntmps11
      go_wp2
      refine bodyPost_ret (v := .agg #[.int .i64 rg, .int .i64 rk, .int .i64 ri, .int .i64 rt, .int .i64 rv, .string rd]) (by simp [results, Try.results11, go_sem]) rfl ⟨rfl, (by repeat (first | exact Below.refl _ _ | refine bA ?_ _ | refine bS ?_ (by omega) _ _))⟩
    · have t1 : decide ((0 : Int) ≤ rg) = true := decide_eq_true (by omega)
      have t2 : decide (rg < 9) = false := decide_eq_false (by
        rcases hn with e | e | e
        · cases e
        · omega
        · omega)
      clear hn hg
      go_enter Try.func11, Try.ntmps11
      go_wp2
      refine bodyPost_ret (v := .agg #[.int .i64 rg, .int .i64 rk, .int .i64 ri, .int .i64 rt, .int .i64 rv, .string rd]) (by simp [results, Try.results11, go_sem]) rfl ⟨rfl, (by repeat (first | exact Below.refl _ _ | refine bA ?_ _ | refine bS ?_ (by omega) _ _))⟩

set_option maxHeartbeats 1600000 in
set_option maxRecDepth 20000 in
theorem record_hard {w : World} {v : Value} {g : Nat} {S : Nat → W.Sv} {E : Nat → Value} (h : AllV w v g S E) (ok : ∀ i, i < 9 → W.Ok (S i)) (k : Int) (r : W.Rec) (hn0 : 0 ≤ r.group ∧ r.group < 9) (hk : r.kind = 1) :
    Calls Try.prog 11 #[v, .agg #[.int .i64 k, .int .i64 r.group, .int .i64 r.kind, .int .i64 r.index, .int .i64 r.term, .int .i64 r.vote, .string r.data, .bool true]] w fun e w' => e = .returned (recV r) ∧ Below w.heap.size w w' := by
  obtain ⟨cc, hv, hc1, hc2⟩ := h.form
  subst hv
  obtain ⟨gi, hgi⟩ : ∃ gi, gi = r.group.toNat := ⟨_, rfl⟩
  have hgr : r.group = (gi : Int) ∧ gi < 9 := by omega
  obtain ⟨q0, q1, q2, q3, q4, q5⟩ := h.cell gi hgr.2
  have hent := h.ent gi hgr.2
  obtain ⟨p, c, hE, hc3, hc4, hc5⟩ := hent
  rw [hE] at q5
  have hgl : g < w.heap.size := h.lt
  have hgl1 : g < w.heap.size + 1 := by omega
  have hgl2 : g < w.heap.size + 1 + 1 := by omega
  have hok := ok gi hgr.2
  have hb := hok.base
  have hl := hok.last
  have e3 : S r.group.toNat = S gi := by rw [hgi]
  obtain ⟨s0, hs0⟩ : ∃ s0, s0 = S gi := ⟨_, rfl⟩
  rw [← hs0] at q0 q1 q2 q3 q4 q5 hb hl hc5 hc3
  unfold W.last at hl
  obtain ⟨n, hn⟩ : ∃ n, n = s0.ents.length := ⟨_, rfl⟩
  rw [← hn] at q5 hl hc3
  obtain ⟨st, sx, sb, sy, sd, sl⟩ := s0
  obtain ⟨rg, rk, ri, rt, rv, rd⟩ := r
  obtain ⟨hg1, hg2⟩ := hgr
  unfold recV
  dsimp only at hg1 hk q0 q1 q2 q3 q4 q5 hb hl ⊢
  subst hg1 hk
  have t1 : decide ((0 : Int) ≤ (gi : Int)) = true := decide_eq_true (by omega)
  have t2 : decide ((gi : Int) < 9) = true := decide_eq_true (by omega)
  have hg3 : (gi : Int) < 9 := by omega
  have hg0 : (0 : Int) ≤ (gi : Int) := by omega
  have hw : IntKind.i64.wrap (sb + (n : Int)) = sb + (n : Int) := by rw [IntKind.wrap_i64]; omega
  clear h ok hgi hE hc2 hc3 hc4 hc5 hok e3 hs0 hn hn0 hb hl hg2
  go_enter Try.func11, Try.ntmps11
  go_wp2
  refine bodyPost_ret (v := .agg #[.int .i64 (gi : Int), .int .i64 1, .int .i64 ri, .int .i64 rt, .int .i64 rv, .string rd]) (by simp [results, Try.results11, go_sem]) rfl ⟨rfl, (by repeat (first | exact Below.refl _ _ | refine bA ?_ _ | refine bS ?_ (by omega) _ _))⟩

set_option maxHeartbeats 1600000 in
set_option maxRecDepth 20000 in
theorem record_other {w : World} {v : Value} {g : Nat} {S : Nat → W.Sv} {E : Nat → Value} (h : AllV w v g S E) (ok : ∀ i, i < 9 → W.Ok (S i)) (k : Int) (r : W.Rec) (hn0 : 0 ≤ r.group ∧ r.group < 9) (hk1 : r.kind ≠ 1) (hk2 : r.kind ≠ 2) :
    Calls Try.prog 11 #[v, .agg #[.int .i64 k, .int .i64 r.group, .int .i64 r.kind, .int .i64 r.index, .int .i64 r.term, .int .i64 r.vote, .string r.data, .bool true]] w fun e w' => e = .returned (recV { r with index := W.last (S r.group.toNat) }) ∧ Below w.heap.size w w' := by
  obtain ⟨cc, hv, hc1, hc2⟩ := h.form
  subst hv
  obtain ⟨gi, hgi⟩ : ∃ gi, gi = r.group.toNat := ⟨_, rfl⟩
  have hgr : r.group = (gi : Int) ∧ gi < 9 := by omega
  obtain ⟨q0, q1, q2, q3, q4, q5⟩ := h.cell gi hgr.2
  have hent := h.ent gi hgr.2
  obtain ⟨p, c, hE, hc3, hc4, hc5⟩ := hent
  rw [hE] at q5
  have hgl : g < w.heap.size := h.lt
  have hgl1 : g < w.heap.size + 1 := by omega
  have hgl2 : g < w.heap.size + 1 + 1 := by omega
  have hok := ok gi hgr.2
  have hb := hok.base
  have hl := hok.last
  have e3 : S r.group.toNat = S gi := by rw [hgi]
  rw [e3]
  obtain ⟨s0, hs0⟩ : ∃ s0, s0 = S gi := ⟨_, rfl⟩
  rw [← hs0] at q0 q1 q2 q3 q4 q5 hb hl hc5 hc3 ⊢
  obtain ⟨n, hn⟩ : ∃ n, n = s0.ents.length := ⟨_, rfl⟩
  have hl2 : W.last s0 = s0.base + (n : Int) := by rw [hn]; rfl
  rw [hl2] at hl ⊢
  rw [← hn] at q5 hc3
  obtain ⟨st, sx, sb, sy, sd, sl⟩ := s0
  obtain ⟨rg, rk, ri, rt, rv, rd⟩ := r
  obtain ⟨hg1, hg2⟩ := hgr
  unfold recV
  dsimp only at hg1 hk1 hk2 q0 q1 q2 q3 q4 q5 hb hl ⊢
  subst hg1
  have t1 : decide ((0 : Int) ≤ (gi : Int)) = true := decide_eq_true (by omega)
  have t2 : decide ((gi : Int) < 9) = true := decide_eq_true (by omega)
  have hg3 : (gi : Int) < 9 := by omega
  have hg0 : (0 : Int) ≤ (gi : Int) := by omega
  have hw : IntKind.i64.wrap (sb + (n : Int)) = sb + (n : Int) := by rw [IntKind.wrap_i64]; omega
  have k1 : (rk == 2) = false := by simpa using hk2
  have k2 : (rk != 1) = true := by simpa using hk1
  clear h ok hgi hE hc2 hc3 hc4 hc5 hok e3 hs0 hn hn0 hb hl hg2 hk1 hk2 hl2
  go_enter Try.func11, Try.ntmps11
  go_wp2
  refine bodyPost_ret (v := .agg #[.int .i64 (gi : Int), .int .i64 rk, .int .i64 (sb + (n : Int)), .int .i64 rt, .int .i64 rv, .string rd]) (by simp [results, Try.results11, go_sem]) rfl ⟨rfl, (by repeat (first | exact Below.refl _ _ | refine bA ?_ _ | refine bS ?_ (by omega) _ _))⟩

set_option maxHeartbeats 1600000 in
set_option maxRecDepth 20000 in
theorem record_none {w : World} {v : Value} {g : Nat} {S : Nat → W.Sv} {E : Nat → Value} (h : AllV w v g S E) (ok : ∀ i, i < 9 → W.Ok (S i)) (k : Int) (r : W.Rec) (hn0 : 0 ≤ r.group ∧ r.group < 9) (hk : r.kind = 2) (h0 : (S r.group.toNat).ents = []) :
    Calls Try.prog 11 #[v, .agg #[.int .i64 k, .int .i64 r.group, .int .i64 r.kind, .int .i64 r.index, .int .i64 r.term, .int .i64 r.vote, .string r.data, .bool true]] w fun e w' => e = .returned (recV { r with index := W.last (S r.group.toNat) + 1, term := (S r.group.toNat).bterm }) ∧ Below w.heap.size w w' := by
  obtain ⟨cc, hv, hc1, hc2⟩ := h.form
  subst hv
  obtain ⟨gi, hgi⟩ : ∃ gi, gi = r.group.toNat := ⟨_, rfl⟩
  have hgr : r.group = (gi : Int) ∧ gi < 9 := by omega
  obtain ⟨q0, q1, q2, q3, q4, q5⟩ := h.cell gi hgr.2
  have hent := h.ent gi hgr.2
  obtain ⟨p, c, hE, hc3, hc4, hc5⟩ := hent
  rw [hE] at q5
  have hgl : g < w.heap.size := h.lt
  have hgl1 : g < w.heap.size + 1 := by omega
  have hgl2 : g < w.heap.size + 1 + 1 := by omega
  have hok := ok gi hgr.2
  have hb := hok.base
  have hl := hok.last
  have e3 : S r.group.toNat = S gi := by rw [hgi]
  rw [e3] at h0 ⊢
  obtain ⟨s0, hs0⟩ : ∃ s0, s0 = S gi := ⟨_, rfl⟩
  rw [← hs0] at q0 q1 q2 q3 q4 q5 hb hl hc5 hc3 h0 ⊢
  obtain ⟨n, hn⟩ : ∃ n, n = s0.ents.length := ⟨_, rfl⟩
  have hl2 : W.last s0 = s0.base + (n : Int) := by rw [hn]; rfl
  rw [hl2] at hl ⊢
  rw [← hn] at q5 hc3
  have hn1 : n = 0 := by rw [hn, h0]; rfl
  subst hn1
  obtain ⟨st, sx, sb, sy, sd, sl⟩ := s0
  obtain ⟨rg, rk, ri, rt, rv, rd⟩ := r
  obtain ⟨hg1, hg2⟩ := hgr
  unfold recV
  dsimp only at hg1 hk q0 q1 q2 q3 q4 q5 hb hl ⊢
  subst hg1 hk
  have t1 : decide ((0 : Int) ≤ (gi : Int)) = true := decide_eq_true (by omega)
  have t2 : decide ((gi : Int) < 9) = true := decide_eq_true (by omega)
  have hg3 : (gi : Int) < 9 := by omega
  have hg0 : (0 : Int) ≤ (gi : Int) := by omega
  have hw : IntKind.i64.wrap (sb + ((0 : Nat) : Int)) = sb := by rw [IntKind.wrap_i64]; omega
  have hwb : IntKind.i64.wrap (sb + 0) = sb := by rw [IntKind.wrap_i64]; omega
  have hw2 : IntKind.i64.wrap (sb + 1) = sb + 1 := by rw [IntKind.wrap_i64]; omega
  have hlt : decide (sb < sb) = false := decide_eq_false (by omega)
  have hws : wrap64 sb = sb := by unfold wrap64; omega
  have es : sb + ((0 : Nat) : Int) = sb := by omega
  rw [es]
  clear h ok hgi hE hc2 hc3 hc4 hc5 hok e3 hs0 hn hn0 hb hl hg2 hl2 es h0
  go_enter Try.func11, Try.ntmps11
  go_wp2
  refine bodyPost_ret (v := .agg #[.int .i64 (gi : Int), .int .i64 2, .int .i64 (sb + 1), .int .i64 sy, .int .i64 rv, .string rd]) (by simp [results, Try.results11, go_sem]) rfl ⟨rfl, (by repeat (first | exact Below.refl _ _ | refine bA ?_ _ | refine bS ?_ (by omega) _ _))⟩

set_option maxHeartbeats 1600000 in
set_option maxRecDepth 20000 in
theorem record_some {w : World} {v : Value} {g : Nat} {S : Nat → W.Sv} {E : Nat → Value} (h : AllV w v g S E) (ok : ∀ i, i < 9 → W.Ok (S i)) (k : Int) (r : W.Rec) (hn0 : 0 ≤ r.group ∧ r.group < 9) (hk : r.kind = 2) (m : Nat) (x : Int × ByteArray) (hm : (S r.group.toNat).ents.length = m + 1) (hx : (S r.group.toNat).ents[m]? = some x) :
    Calls Try.prog 11 #[v, .agg #[.int .i64 k, .int .i64 r.group, .int .i64 r.kind, .int .i64 r.index, .int .i64 r.term, .int .i64 r.vote, .string r.data, .bool true]] w fun e w' => e = .returned (recV { r with index := W.last (S r.group.toNat) + 1, term := x.1 }) ∧ Below w.heap.size w w' := by
  obtain ⟨cc, hv, hc1, hc2⟩ := h.form
  subst hv
  obtain ⟨gi, hgi⟩ : ∃ gi, gi = r.group.toNat := ⟨_, rfl⟩
  have hgr : r.group = (gi : Int) ∧ gi < 9 := by omega
  obtain ⟨q0, q1, q2, q3, q4, q5⟩ := h.cell gi hgr.2
  have hent := h.ent gi hgr.2
  obtain ⟨p, c, hE, hc3, hc4, hc5⟩ := hent
  rw [hE] at q5
  have hgl : g < w.heap.size := h.lt
  have hgl1 : g < w.heap.size + 1 := by omega
  have hgl2 : g < w.heap.size + 1 + 1 := by omega
  have hok := ok gi hgr.2
  have hb := hok.base
  have hl := hok.last
  have e3 : S r.group.toNat = S gi := by rw [hgi]
  rw [e3] at hm hx ⊢
  obtain ⟨s0, hs0⟩ : ∃ s0, s0 = S gi := ⟨_, rfl⟩
  rw [← hs0] at q0 q1 q2 q3 q4 q5 hb hl hc5 hc3 hm hx ⊢
  obtain ⟨n, hn⟩ : ∃ n, n = s0.ents.length := ⟨_, rfl⟩
  have hl2 : W.last s0 = s0.base + (n : Int) := by rw [hn]; rfl
  rw [hl2] at hl ⊢
  rw [← hn] at q5 hc3
  rw [← hn] at hm
  have HMM : Hid (n = m + 1) := hm
  obtain ⟨ge, off, hp, hcell⟩ : ∃ ge off, p = some ⟨ge, off, none⟩ ∧ w.cell? ⟨ge, off + m * 2, none⟩ = some (.int .i64 x.1) := by
    rcases hc5 with q | ⟨ge, off, q1, q2⟩
    · rw [q] at hx; simp at hx
    · exact ⟨ge, off, q1, (q2 m x hx).1⟩
  subst hp
  have hge : ge < w.heap.size := World.block_lt_of_cell? w ⟨ge, off + m * 2, none⟩ hcell
  have hge1 : ge < w.heap.size + 1 := by omega
  have hge2 : ge < w.heap.size + 1 + 1 := by omega
  have hge3 : ge < w.heap.size + 1 + 1 + 1 := by omega
  have hne2 : w.heap.size + 1 + 1 ≠ ge := by omega
  obtain ⟨xt, xd⟩ := x
  dsimp only at hcell ⊢
  obtain ⟨st, sx, sb, sy, sd, sl⟩ := s0
  obtain ⟨rg, rk, ri, rt, rv, rd⟩ := r
  obtain ⟨hg1, hg2⟩ := hgr
  unfold recV
  dsimp only at hg1 hk q0 q1 q2 q3 q4 q5 hb hl ⊢
  subst hg1 hk
  have t1 : decide ((0 : Int) ≤ (gi : Int)) = true := decide_eq_true (by omega)
  have t2 : decide ((gi : Int) < 9) = true := decide_eq_true (by omega)
  have hg3 : (gi : Int) < 9 := by omega
  have hg0 : (0 : Int) ≤ (gi : Int) := by omega
  have hw : IntKind.i64.wrap (sb + (n : Int)) = sb + (n : Int) := by rw [IntKind.wrap_i64]; omega
  have hw2 : IntKind.i64.wrap (sb + (n : Int) + 1) = sb + (n : Int) + 1 := by rw [IntKind.wrap_i64]; omega
  have hlt : decide (sb < sb + (n : Int)) = true := decide_eq_true (by omega)
  have hw3 : IntKind.i64.wrap (sb + (n : Int) - sb) = (n : Int) := by rw [IntKind.wrap_i64]; omega
  have hw4 : IntKind.i64.wrap ((n : Int) - 1) = (m : Int) := by rw [IntKind.wrap_i64]; omega
  have hm0 : (0 : Int) ≤ (m : Int) := by omega
  have hm1 : (m : Int) < (n : Int) := by omega
  clear h ok hgi hE hc2 hc3 hc4 hc5 hok e3 hs0 hn hn0 hb hl hg2 hl2 hx hm
  go_enter Try.func11, Try.ntmps11
  go_wp2
  refine bodyPost_ret (v := .agg #[.int .i64 (gi : Int), .int .i64 2, .int .i64 (sb + (n : Int) + 1), .int .i64 xt, .int .i64 rv, .string rd]) (by simp [results, Try.results11, go_sem]) rfl ⟨rfl, (by repeat (first | exact Below.refl _ _ | refine bA ?_ _ | refine bS ?_ (by omega) _ _))⟩

theorem record_c {w : World} {v : Value} {g : Nat} {S : Nat → W.Sv} {E : Nat → Value} (h : AllV w v g S E) (ok : ∀ i, i < 9 → W.Ok (S i)) (k : Int) (r : W.Rec) (next : Bool) :
    Calls Try.prog 11 #[v, .agg #[.int .i64 k, .int .i64 r.group, .int .i64 r.kind, .int .i64 r.index, .int .i64 r.term, .int .i64 r.vote, .string r.data, .bool next]] w fun e w' => e = .returned (recV (recM S r next)) ∧ Below w.heap.size w w' := by
  unfold recM
  by_cases hn : next = true ∧ 0 ≤ r.group ∧ r.group < 9
  · rw [if_pos hn]
    obtain ⟨rfl, hn0⟩ := hn
    by_cases k2 : r.kind = 2
    · rw [if_pos k2]
      unfold W.termAt
      by_cases h0 : (S r.group.toNat).ents = []
      · rw [if_pos (by unfold W.last; rw [h0]; simp)]
        exact record_none h ok k r hn0 k2 h0
      · have hl : 0 < (S r.group.toNat).ents.length := List.length_pos_iff.2 h0
        obtain ⟨m, hm⟩ : ∃ m, (S r.group.toNat).ents.length = m + 1 := ⟨(S r.group.toNat).ents.length - 1, by omega⟩
        obtain ⟨x, hx⟩ : ∃ x, (S r.group.toNat).ents[m]? = some x := ⟨_, List.getElem?_eq_getElem (by omega)⟩
        rw [if_neg (by unfold W.last; omega), show (W.last (S r.group.toNat) - (S r.group.toNat).base - 1).toNat = m by unfold W.last; omega, hx]
        exact record_some h ok k r hn0 k2 m x hm hx
    · rw [if_neg k2]
      by_cases k1 : r.kind = 1
      · rw [if_pos k1]
        exact record_hard h ok k r hn0 k1
      · rw [if_neg k1]
        exact record_other h ok k r hn0 k1 k2
  · rw [if_neg hn]
    refine record_off h k r next ?_
    cases next with
    | false => exact .inl rfl
    | true =>
      right
      by_cases q : r.group < 0
      · exact .inl q
      · right
        apply Classical.byContradiction
        intro q2
        exact hn ⟨rfl, by omega, by omega⟩

end Go.Proofs.Ytpfnkjfbhcffiaa

namespace Go.Proofs.Ytpfnkjfbhcffiaa
open Go.RowKit

/-- What a list of entries needs. -/
def needE : List (Int × ByteArray) → Nat
  | [] => 0
  | e :: l => e.2.size + 32 + needE l
theorem needE_snoc : ∀ (l : List (Int × ByteArray)) (e : Int × ByteArray), needE (l ++ [e]) = needE l + (e.2.size + 32)
  | [], e => by simp [needE]
  | x :: l, e => by rw [List.cons_append, needE, needE, needE_snoc l e]; omega
/-- What the first n groups need. -/
def needTo (S : Nat → W.Sv) : Nat → Nat
  | 0 => 0
  | n + 1 => needTo S n + (S n).data.size + needE (S n).ents
theorem needE_take (l : List (Int × ByteArray)) : ∀ k, needE (l.take k) ≤ needE l := by
  induction l with
  | nil => intro k; simp [needE]
  | cons x l ih =>
    intro k
    cases k with
    | zero => simp [needE]
    | succ k => rw [List.take_succ_cons, needE, needE]; have := ih k; omega
theorem needTo_mono (S : Nat → W.Sv) : ∀ k n, k ≤ n → needTo S k ≤ needTo S n
  | k, 0, h => by rw [show k = 0 by omega]; exact Nat.le_refl _
  | k, n + 1, h => by
    by_cases e : k = n + 1
    · rw [e]; exact Nat.le_refl _
    · have := needTo_mono S k n (by omega)
      rw [needTo]; omega

set_option maxHeartbeats 1600000 in
set_option maxRecDepth 20000 in
theorem Need_c {w : World} {v : Value} {g : Nat} {S : Nat → W.Sv} {E : Nat → Value} (h : AllV w v g S E) (hb : needTo S 9 ≤ 1000000) :
    Calls Try.prog 18 #[v] w fun e w' => e = .returned (.int .i64 (needTo S 9 : Int)) ∧ Below w.heap.size w w' := by
  obtain ⟨cc, hv, hc1, hc2⟩ := h.form
  subst hv
  have HA : Hid (∀ u, Below w.heap.size w u → AllV u (.slice (some ⟨g, 0, none⟩) 9 cc) g S E) := fun u hu => h.below hu
  have HB : Hid (needTo S 9 ≤ 1000000) := hb
  have HL : Hid (∀ k : Nat, k < 9 → ∃ p c, w.cell? ⟨g, k * 6 + 4, none⟩ = some (.string (S k).data) ∧ w.cell? ⟨g, k * 6 + 5, none⟩ = some (.slice p (S k).ents.length c) ∧ (S k).data.size ≤ 1000000 ∧ (S k).ents.length ≤ 1000000 ∧ ∀ (j : Nat) x, (S k).ents[j]? = some x → ∃ gq oq, p = some ⟨gq, oq, none⟩ ∧ w.cell? ⟨gq, oq + j * 2 + 1, none⟩ = some (.string x.2)) := by
    intro k hk
    obtain ⟨_, _, _, _, q4, q5⟩ := h.cell k hk
    obtain ⟨p, c, hE, _, _, h5⟩ := h.ent k hk
    have hm := needTo_mono S (k + 1) 9 (by omega)
    rw [needTo] at hm
    have hl : ∀ l : List (Int × ByteArray), l.length ≤ needE l := by
      intro l
      induction l with
      | nil => exact Nat.le_refl _
      | cons x l ih => rw [needE, List.length_cons]; omega
    have h6 := hl (S k).ents
    refine ⟨p, c, q4, by rw [← hE]; exact q5, by omega, by omega, fun j x hx => ?_⟩
    rcases h5 with q | ⟨gq, oq, q1, q2⟩
    · rw [q] at hx; simp at hx
    · exact ⟨gq, oq, q1, (q2 j x hx).2⟩
  have HK : Hid (∀ k j : Nat, k < 9 → needTo S k + (S k).data.size + needE ((S k).ents.take j) ≤ 1000000) := by
    intro k j hk
    have hm := needTo_mono S (k + 1) 9 (by omega)
    rw [needTo] at hm
    have := needE_take (S k).ents j
    omega
  clear h hc2 hb
  go_enter Try.func18, Try.ntmps18
  go_wp2
  go_loopw [3, 4] (fun x y wr => ∃ k : Nat, x = .int .i64 (needTo S k : Int) ∧ y = .int .i64 (k : Int) ∧ k ≤ 9 ∧ wr = w) (fun _ y _ => 9 - (intOf y).toNat)
  case atStart => exact ⟨0, rfl, rfl, Nat.zero_le _, rfl⟩
  case round =>
    obtain ⟨k, rfl, rfl, hk, rfl⟩ := hrel
    by_cases hlt : k < 9
    · obtain ⟨p, c, q4, q5, hd, hn, hcell⟩ := HL.out k hlt
      obtain ⟨d, hd'⟩ : ∃ d, d = (S k).data := ⟨_, rfl⟩
      obtain ⟨l, hl'⟩ : ∃ l, l = (S k).ents := ⟨_, rfl⟩
      obtain ⟨n, hn'⟩ : ∃ n, n = l.length := ⟨_, rfl⟩
      obtain ⟨t, ht⟩ : ∃ t, t = needTo S k := ⟨_, rfl⟩
      have HKk : Hid (∀ j : Nat, t + d.size + needE (l.take j) ≤ 1000000) := by rw [hd', hl', ht]; exact fun j => HK.out k j hlt
      have HT : Hid (needTo S (k + 1) = t + d.size + needE l) := by rw [hd', hl', ht]; rfl
      have hk9 : (k : Int) < 9 := by omega
      have hk0 : (0 : Int) ≤ (k : Int) := by omega
      rw [← hd'] at q4 hd
      rw [← hl'] at q5 hn hcell
      rw [← hn'] at q5 hn
      have HC : Hid _ := hcell
      have HN : Hid (n = l.length) := hn'
      obtain ⟨t1, ht1⟩ : ∃ t1, t1 = t + d.size := ⟨_, rfl⟩
      have hw1 : IntKind.i64.wrap ((t : Int) + (d.size : Int)) = (t1 : Int) := by
        have := HKk.out 0
        rw [IntKind.wrap_i64]; omega
      have HT1 : Hid (t1 = t + d.size) := ht1
      have HND : Hid (n ≤ 1000000) := hn
      rw [← ht]
      clear hd' hl' hn' ht hcell ht1 hd hn
      go_wp2
      go_loopw [3, 5] (fun x y wr2 => ∃ j : Nat, x = .int .i64 ((t1 + needE (l.take j) : Nat) : Int) ∧ y = .int .i64 (j : Int) ∧ j ≤ n ∧ wr2 = wr) (fun _ y _ => n - (intOf y).toNat)
      case atStart => exact ⟨0, by simp [needE], rfl, Nat.zero_le _, rfl⟩
      case round =>
        obtain ⟨j, rfl, rfl, hj, rfl⟩ := hrel
        by_cases hjn : j < n
        · obtain ⟨x, hx⟩ : ∃ x, l[j]? = some x := ⟨_, List.getElem?_eq_getElem (by have := HN.out; omega)⟩
          obtain ⟨gq, oq, rfl, hc⟩ := HC.out j x hx
          obtain ⟨xt, xd⟩ := x
          dsimp only at hc
          obtain ⟨u, hu⟩ : ∃ u, u = t1 + needE (l.take j) := ⟨_, rfl⟩
          obtain ⟨u2, hu2⟩ : ∃ u2, u2 = t1 + needE (l.take (j + 1)) := ⟨_, rfl⟩
          have e1 : u2 = u + xd.size + 32 := by
            rw [hu2, hu, show l.take (j + 1) = l.take j ++ [(xt, xd)] by rw [List.take_add_one, hx]; rfl, needE_snoc]
            dsimp only
            omega
          have hb2 : u2 ≤ 1000000 := by have := HKk.out (j + 1); have := HT1.out; omega
          obtain ⟨u1, hu1⟩ : ∃ u1, u1 = u + xd.size := ⟨_, rfl⟩
          have hw2 : IntKind.i64.wrap ((u : Int) + (xd.size : Int)) = (u1 : Int) := by rw [IntKind.wrap_i64]; omega
          have hw3 : IntKind.i64.wrap ((u1 : Int) + 32) = (u2 : Int) := by rw [IntKind.wrap_i64]; omega
          have hj0 : (0 : Int) ≤ (j : Int) := by omega
          have hj1 : (j : Int) < (n : Int) := by omega
          have hjb : (j : Int) < 1000000 := by have := HND.out; omega
          have HU2 : Hid (u2 = t1 + needE (l.take (j + 1))) := hu2
          rw [← hu]
          clear hx hu hu2 e1 hb2 hu1
          go_wp2
          go_roundw
          case rel => exact ⟨j + 1, by rw [← HU2.out], by go_num, by omega, trivial⟩
          case measure => simp [intOf]; omega
        · obtain rfl : j = n := by omega
          have e2 : t1 + needE (l.take j) = needTo S (k + 1) := by
            rw [HT.out, HN.out, List.take_length, HT1.out]
          have hjj : ¬ (j : Int) < (j : Int) := by omega
          have HE : Hid _ := e2
          rw [e2]
          clear e2
          go_wp2
          go_roundw
          case rel => exact ⟨k + 1, rfl, by go_num, by omega, trivial⟩
          case measure => simp [intOf]; omega
    · obtain rfl : k = 9 := by omega
      go_wp2
      go_ret
      exact ⟨rfl, Below.refl _ _⟩

end Go.Proofs.Ytpfnkjfbhcffiaa

namespace Go.Proofs.Ytpfnkjfbhcffiaa
open Go.RowKit

/-- What bounds the bytes of records. -/
def wtl : List W.Rec → Nat
  | [] => 0
  | r :: l => 54 + r.data.size + wtl l
theorem wtl_append : ∀ (a b : List W.Rec), wtl (a ++ b) = wtl a + wtl b
  | [], b => by simp [wtl]
  | r :: a, b => by rw [List.cons_append, wtl, wtl, wtl_append a b]; omega
theorem recs_wt : ∀ (l : List W.Rec), (∀ r ∈ l, W.may r = true) → (W.recs l).size ≤ wtl l
  | [], _ => Nat.le_refl _
  | r :: l, h => by
    rw [W.recs, size_app, wtl]
    have h1 := recB_size2 (h r (by simp))
    have h2 := recs_wt l (fun x hx => h x (by simp [hx]))
    omega
theorem wtl_fewE (g : Nat) : ∀ (l : List (Int × ByteArray)) (i : Int), wtl (W.fewE g i l) ≤ 2 * needE l
  | [], _ => Nat.zero_le _
  | e :: l, i => by
    rw [W.fewE, wtl, needE]
    have := wtl_fewE g l (i + 1)
    dsimp only
    omega
/-- What a group needs. -/
def nd1 (s : W.Sv) : Nat := s.data.size + needE s.ents
theorem wtl_few (g : Nat) (s : W.Sv) : wtl (W.few g s) ≤ 108 + 2 * nd1 s := by
  unfold W.few nd1
  rw [wtl_append, wtl_append]
  have h1 : wtl (W.fewH g s) ≤ 54 := by
    unfold W.fewH
    split
    · show 54 + (⟨#[]⟩ : ByteArray).size + 0 ≤ 54
      exact Nat.le_refl _
    · exact Nat.zero_le _
  have h2 : wtl (W.fewB g s) ≤ 54 + s.data.size := by
    unfold W.fewB
    split
    · show 54 + s.data.size + 0 ≤ _
      omega
    · exact Nat.zero_le _
  have h3 := wtl_fewE g s.ents (s.base + 1)
  omega
theorem needTo_one (S : Nat → W.Sv) (n : Nat) : needTo S (n + 1) = needTo S n + nd1 (S n) := by
  rw [needTo]; unfold nd1; omega
theorem wtl_fewTo (gs : Nat → W.Sv) : ∀ n, wtl (W.fewTo gs n) ≤ 108 * n + 2 * needTo gs n
  | 0 => Nat.zero_le _
  | n + 1 => by
    rw [W.fewTo, wtl_append, needTo_one]
    have h1 := wtl_fewTo gs n
    have h2 := wtl_few n (gs n)
    omega
theorem few_need {gs : Nat → W.Sv} (ok : ∀ i, W.Ok (gs i)) : (W.recs (W.fewTo gs 9)).size ≤ 972 + 2 * needTo gs 9 := by
  have h1 := recs_wt (W.fewTo gs 9) (W.chks_may _ _ (W.goes_to gs ok 9 (Nat.le_refl _)).1)
  have h2 := wtl_fewTo gs 9
  omega

theorem needTo_out (S : Nat → W.Sv) (i : Nat) (t : W.Sv) : ∀ n, n ≤ i → needTo (upd S i t) n = needTo S n
  | 0, _ => rfl
  | n + 1, h => by rw [needTo_one, needTo_one, needTo_out S i t n (by omega), upd_other _ _ (by omega)]
theorem needTo_upd (S : Nat → W.Sv) (i : Nat) (t : W.Sv) : ∀ n, i < n → needTo (upd S i t) n + nd1 (S i) = needTo S n + nd1 t
  | 0, h => by omega
  | n + 1, h => by
    rw [needTo_one, needTo_one]
    by_cases e : i = n
    · subst e
      rw [needTo_out S i t i (Nat.le_refl _), upd_same]
      omega
    · have := needTo_upd S i t n (by omega)
      rw [upd_other _ _ (by omega : n ≠ i)]
      omega
theorem needE_drop : ∀ (l : List (Int × ByteArray)) (k : Nat), needE (l.drop k) ≤ needE l
  | [], k => by rw [List.drop_nil]; exact Nat.le_refl _
  | x :: l, 0 => by rw [List.drop_zero]; exact Nat.le_refl _
  | x :: l, k + 1 => by
    rw [List.drop_succ_cons, needE]
    have := needE_drop l k
    omega
theorem nd1_fold (s : W.Sv) (r : W.Rec) (hd : r.data.size ≤ 200) : nd1 (W.fold s r) ≤ nd1 s + 232 := by
  unfold W.fold nd1
  by_cases k1 : r.kind = 1
  · rw [if_pos k1]
    show s.data.size + needE s.ents ≤ _
    omega
  rw [if_neg k1]
  by_cases k2 : r.kind = 2
  · rw [if_pos k2]
    show s.data.size + needE (s.ents ++ [(r.term, r.data)]) ≤ _
    rw [needE_snoc]
    dsimp only
    omega
  rw [if_neg k2]
  by_cases k3 : r.kind = 3
  · rw [if_pos k3]
    show s.data.size + needE (s.ents.take _) ≤ _
    have := needE_take s.ents (r.index - s.base - 1).toNat
    omega
  · rw [if_neg k3]
    show r.data.size + needE (if W.stays s r = true then s.ents.drop (r.index - s.base).toNat else []) ≤ _
    split
    · have := needE_drop s.ents (r.index - s.base).toNat
      omega
    · show r.data.size + 0 ≤ _
      omega
theorem needTo_do (gs : Nat → W.Sv) (r : W.Rec) (hg : r.group.toNat < 9) (hd : r.data.size ≤ 200) : needTo (W.doR gs r) 9 ≤ needTo gs 9 + 232 := by
  unfold W.doR
  have h1 := needTo_upd gs r.group.toNat (W.fold (gs r.group.toNat) r) 9 hg
  have h2 := nd1_fold (gs r.group.toNat) r hd
  omega
theorem needTo_congr {A B : Nat → W.Sv} : ∀ n, (∀ i, i < n → A i = B i) → needTo A n = needTo B n
  | 0, _ => rfl
  | n + 1, h => by rw [needTo_one, needTo_one, needTo_congr n (fun i hi => h i (by omega)), h n (by omega)]

theorem may_group {r : W.Rec} (h : W.may r = true) : 0 ≤ r.group ∧ r.group < 9 := by
  unfold W.may at h
  rw [Bool.and_eq_true] at h
  exact W.isGroup_iff.1 h.1
theorem chk_congr {A B : Nat → W.Sv} (h : ∀ i, i < 9 → A i = B i) (r : W.Rec) : W.chk A r = W.chk B r := by
  unfold W.chk
  by_cases hm : W.may r = true
  · have := may_group hm
    rw [if_pos hm, if_pos hm, h r.group.toNat (by omega)]
  · rw [if_neg hm, if_neg hm]
theorem recM_data (S : Nat → W.Sv) (r : W.Rec) (next : Bool) : (recM S r next).data = r.data := by
  unfold recM
  split
  · split
    · rfl
    · split <;> rfl
  · rfl

/-- A log, and beside it all groups' saved as the document has them. -/
structure Pm (w X : World) (p : Pl) (v : Value) (g : Nat) (s : St) (segs : List (List W.Rec)) (own : Nat → Prop) (m : Nat) (S : Nat → W.Sv) (E : Nat → Value) : Prop where
  lo : Lo w X p s segs own m
  all : AllV X v g S E
  ng : ¬ own g
  ne : ∀ i, i < 9 → ∀ k, readBlk (E i) = some k → ¬ own k
  gl : w.heap.size ≤ g

theorem Pm.below {w X Y : World} {p : Pl} {v : Value} {g : Nat} {s : St} {segs : List (List W.Rec)} {own : Nat → Prop} {m : Nat} {S : Nat → W.Sv} {E : Nat → Value} (h : Pm w X p v g s segs own m S E) (hb : Below X.heap.size X Y) : Pm w Y p v g s segs own m S E :=
  ⟨h.lo.below hb, h.all.below hb, h.ng, h.ne, h.gl⟩

theorem AllV.kept {w w' : World} {v : Value} {g : Nat} {S : Nat → W.Sv} {E : Nat → Value} {own : Nat → Prop} (h : AllV w v g S E) (hk : KeptS own w w') (hg : ¬ own g) (he : ∀ i, i < 9 → ∀ k, readBlk (E i) = some k → ¬ own k) : AllV w' v g S E :=
  h.carry hk.size (hk.block g h.lt hg) (fun i hi k q => hk.block k ((h.ent i hi).lt q) (he i hi k q))

theorem Pm.lift {w X Y : World} {p p' : Pl} {v : Value} {g : Nat} {s s' : St} {segs segs' : List (List W.Rec)} {own own0 : Nat → Prop} {m m' : Nat} {S : Nat → W.Sv} {E : Nat → Value} (h : Pm w X p v g s segs own m S E) (h0 : ∀ k, own0 k → own k) (hk : KeptS own0 X Y) (hl : Lo w Y p' s' segs' (sinceS own0 X Y) m') : Pm w Y p' v g s' segs' (sinceS own0 X Y) m' S E := by
  have hn : ∀ k, k < X.heap.size → ¬ own k → ¬ sinceS own0 X Y k := by
    intro k hk hn e
    rcases e with e | e
    · exact hn (h0 k e)
    · omega
  exact ⟨hl, h.all.kept hk (fun e => h.ng (h0 g e)) (fun i hi k q e => h.ne i hi k q (h0 k e)), hn g h.all.lt h.ng, fun i hi k q => hn k ((h.all.ent i hi).lt q) (h.ne i hi k q), h.gl⟩

/-- .. that say the same: k ops are done. -/
structure Pz (w X : World) (p : Pl) (v : Value) (g : Nat) (s : St) (segs : List (List W.Rec)) (own : Nat → Prop) (S : Nat → W.Sv) (E : Nat → Value) (k : Nat) : Prop where
  pm : Pm w X p v g s segs own (1000 + 472 * k) S E
  eq : ∀ i, i < 9 → s.gs i = S i
  n : s.n ≤ k
  need : needTo S 9 ≤ 232 * k

theorem Pz.ok {w X : World} {p : Pl} {v : Value} {g : Nat} {s : St} {segs : List (List W.Rec)} {own : Nat → Prop} {S : Nat → W.Sv} {E : Nat → Value} {k : Nat} (h : Pz w X p v g s segs own S E k) : ∀ i, i < 9 → W.Ok (S i) := fun i hi => by rw [← h.eq i hi]; exact h.pm.lo.lg.ok i
theorem Pz.below {w X Y : World} {p : Pl} {v : Value} {g : Nat} {s : St} {segs : List (List W.Rec)} {own : Nat → Prop} {S : Nat → W.Sv} {E : Nat → Value} {k : Nat} (h : Pz w X p v g s segs own S E k) (hb : Below X.heap.size X Y) : Pz w Y p v g s segs own S E k := ⟨h.pm.below hb, h.eq, h.n, h.need⟩
theorem Lo.wide {w X : World} {p : Pl} {s : St} {segs : List (List W.Rec)} {own : Nat → Prop} {m m' : Nat} (h : Lo w X p s segs own m) (hm : m ≤ m') : Lo w X p s segs own m' := ⟨h.lg, h.mine, h.old, h.inv, h.room, Nat.le_trans h.bytes hm⟩
theorem Pz.next {w X : World} {p : Pl} {v : Value} {g : Nat} {s : St} {segs : List (List W.Rec)} {own : Nat → Prop} {S : Nat → W.Sv} {E : Nat → Value} {k : Nat} (h : Pz w X p v g s segs own S E k) : Pz w X p v g s segs own S E (k + 1) :=
  ⟨⟨h.pm.lo.wide (by omega), h.pm.all, h.pm.ng, h.pm.ne, h.pm.gl⟩, h.eq, by have := h.n; omega, by have := h.need; omega⟩

/-- Behind an append that was taken: the log is ahead by the record r. -/
structure Ph (w X : World) (p : Pl) (v : Value) (g : Nat) (s : St) (segs : List (List W.Rec)) (own : Nat → Prop) (S : Nat → W.Sv) (E : Nat → Value) (k : Nat) (r : W.Rec) : Prop where
  pm : Pm w X p v g s segs own (1000 + 472 * (k + 1)) S E
  eq : ∀ i, i < 9 → s.gs i = W.doR S r i
  n : s.n ≤ k + 1
  need : needTo S 9 ≤ 232 * k
  ok : ∀ i, i < 9 → W.Ok (S i)
  may : W.may r = true
  fits : W.fits (S r.group.toNat) r = true
  data : r.data.size ≤ 200

theorem doR_congr {A B : Nat → W.Sv} (h : ∀ i, i < 9 → A i = B i) (r : W.Rec) (hg : r.group.toNat < 9) : ∀ i, i < 9 → W.doR A r i = W.doR B r i := by
  intro i hi
  unfold W.doR
  by_cases e : i = r.group.toNat
  · rw [e, upd_same, upd_same, h _ hg]
  · rw [upd_other _ _ e, upd_other _ _ e, h i hi]

theorem Ph.below {w X Y : World} {p : Pl} {v : Value} {g : Nat} {s : St} {segs : List (List W.Rec)} {own : Nat → Prop} {S : Nat → W.Sv} {E : Nat → Value} {k : Nat} {r : W.Rec} (h : Ph w X p v g s segs own S E k r) (hb : Below X.heap.size X Y) : Ph w Y p v g s segs own S E k r := ⟨h.pm.below hb, h.eq, h.n, h.need, h.ok, h.may, h.fits, h.data⟩

theorem Pz.append {w X : World} {p : Pl} {v : Value} {g : Nat} {s : St} {segs : List (List W.Rec)} {own : Nat → Prop} {S : Nat → W.Sv} {E : Nat → Value} {k : Nat} (h : Pz w X p v g s segs own S E k) (hk : k < 100) (r : W.Rec) (hd : r.data.size ≤ 200) (hc : W.chk S r = 0) :
    Calls Try.prog 13 #[.pointer (some ⟨p.L, 0, none⟩), recV r] X fun e w' => e = .returned (.int .i64 0) ∧ ∃ s' segs' own', Ph w w' p v g s' segs' own' S E k r ∧ s'.gs = W.doR s.gs r ∧ segs' = segPut p.limit s segs r ∧ (KeptS own X w' ∧ s' = appd p.limit s r ∧ own' = sinceS own X w') := by
  have hcs : W.chk s.gs r = 0 := by rw [chk_congr h.eq]; exact hc
  have hm := chk_may hc
  have hg := may_group hm
  have hn := h.n
  refine (h.pm.lo.append r hcs (by omega) (by omega)).mono ?_
  rintro e w' ⟨rfl, s', own', h1, h2, h3, h4, rfl, h5⟩
  refine ⟨rfl, s', _, _, ⟨h.pm.lift (fun _ q => q) h4 (h1.wide (by omega)), fun i hi => by rw [h2]; exact doR_congr h.eq r (by omega) i hi, by omega, h.need, h.ok, hm, ?_, hd⟩, h2, rfl, h4, h5, rfl⟩
  obtain ⟨_, _, q⟩ := W.chk_ok hc
  exact q

theorem Pz.refuse {w X : World} {p : Pl} {v : Value} {g : Nat} {s : St} {segs : List (List W.Rec)} {own : Nat → Prop} {S : Nat → W.Sv} {E : Nat → Value} {k : Nat} (h : Pz w X p v g s segs own S E k) (r : W.Rec) (hc : W.chk S r ≠ 0) :
    Calls Try.prog 13 #[.pointer (some ⟨p.L, 0, none⟩), recV r] X fun e w' => e = .returned (.int .i64 (W.chk S r)) ∧ Below X.heap.size X w' := by
  have e := chk_congr h.eq r
  rw [← e] at hc ⊢
  exact Append_no h.pm.lo.lg r hc

/-- The document's folding of that record, and its place set anew. -/
theorem Ph.fold {w X : World} {p : Pl} {v : Value} {g : Nat} {s : St} {segs : List (List W.Rec)} {own : Nat → Prop} {S : Nat → W.Sv} {E : Nat → Value} {k : Nat} {r : W.Rec} (h : Ph w X p v g s segs own S E k r) {gi : Nat} (hgi : r.group = (gi : Int)) :
    Calls Try.prog 14 #[savV (S gi) (E gi), recV r] X fun e w' => ∃ a0 a1 a2 a3 a4 p' n' c', e = .returned (.tuple #[.agg #[.int .i64 a0, .int .i64 a1, .int .i64 a2, .int .i64 a3, .string a4, .slice p' n' c'], .bool true]) ∧ Below X.heap.size X w' ∧ Pz w (set6 w' g (gi * 6) (.int .i64 a0) (.int .i64 a1) (.int .i64 a2) (.int .i64 a3) (.string a4) (.slice p' n' c')) p v g s segs own (W.doR S r) (upd E gi (.slice p' n' c')) (k + 1) ∧ ∀ q, readBlk (.slice p' n' c') = some q → readBlk (E gi) = some q ∨ X.heap.size ≤ q := by
  have hg := may_group h.may
  have hg9 : gi < 9 := by omega
  have hgn : r.group.toNat = gi := by omega
  have hf := h.fits
  rw [hgn] at hf
  refine (refFold_c (h.pm.all.ent gi hg9) (h.ok gi hg9) r h.may).mono ?_
  rintro e w' ⟨v', he, hE, hb, hq⟩
  rw [hf, if_pos rfl] at he hE
  obtain ⟨T, hT⟩ : ∃ T, T = W.fold (S gi) r := ⟨_, rfl⟩
  rw [← hT] at he hE
  obtain ⟨p', c', hv', _⟩ := id hE
  subst hv'
  refine ⟨T.term, T.vote, T.base, T.bterm, T.data, p', T.ents.length, c', he, hb, ?_, hq⟩
  have h' := h.below hb
  have hq1 : ∀ q, readBlk (.slice p' T.ents.length c') = some q → q ≠ g ∧ ¬ own q := by
    intro q e
    rcases hq q e with e | e
    · exact ⟨fun e2 => h.pm.all.sep gi hg9 (e2 ▸ e), h.pm.ne gi hg9 q e⟩
    · have h1 := h.pm.all.lt
      exact ⟨by omega, fun e2 => by have := h.pm.lo.lg.here q e2; omega⟩
  have hall := h'.pm.all.put hg9 (s := T) hE (fun e => (hq1 g e).1 rfl)
  have hdo : upd S gi T = W.doR S r := by unfold W.doR; rw [hgn, hT]
  rw [hdo] at hall
  have hsz := @set6_size w' g (gi * 6) (.int .i64 T.term) (.int .i64 T.vote) (.int .i64 T.base) (.int .i64 T.bterm) (.string T.data) (.slice p' T.ents.length c')
  refine ⟨⟨⟨h'.pm.lo.lg.carry (by rw [hsz]; exact Nat.le_refl _) (fun k hk => set6_heap (fun e => h.pm.ng (e ▸ hk))), h'.pm.lo.mine, ?_, h'.pm.lo.inv, h'.pm.lo.room, h'.pm.lo.bytes⟩, hall, h.pm.ng, fun i hi q e => ?_, h.pm.gl⟩, h.eq, h.n, ?_⟩
  · have := h'.pm.lo.old
    exact below_set6b this h.pm.gl _ _ _ _ _ _
  · by_cases q1 : i = gi
    · subst q1
      rw [upd_same] at e
      exact (hq1 q e).2
    · rw [upd_other _ _ q1] at e
      exact h.pm.ne i hi q e
  · have h1 := needTo_do S r (by omega) h.data
    have h2 := h.need
    omega

theorem Pz.sync {w X : World} {p : Pl} {v : Value} {g : Nat} {s : St} {segs : List (List W.Rec)} {own : Nat → Prop} {S : Nat → W.Sv} {E : Nat → Value} {k : Nat} (h : Pz w X p v g s segs own S E k) :
    Calls Try.prog 15 #[.pointer (some ⟨p.L, 0, none⟩)] X fun e w' => e = .returned (.int .i64 0) ∧ ∃ s' own', Pz w w' p v g s' segs own' S E (k + 1) ∧ (KeptS own X w' ∧ own' = sinceS own X w' ∧ ∀ i, i < 256 → s'.S i = (s'.A i).length) := by
  refine h.pm.lo.sync.mono ?_
  rintro e w' ⟨rfl, s', own', h1, h2, h3, h4, rfl, h5⟩
  exact ⟨rfl, s', _, ⟨h.pm.lift (fun _ q => q) h4 (h1.wide (by omega)), fun i hi => by rw [h2]; exact h.eq i hi, by have := h.n; omega, by have := h.need; omega⟩, h4, rfl, h5⟩

theorem Pz.clean {w X : World} {p : Pl} {v : Value} {g : Nat} {s : St} {segs : List (List W.Rec)} {own : Nat → Prop} {S : Nat → W.Sv} {E : Nat → Value} {k : Nat} (h : Pz w X p v g s segs own S E k) (hk : k < 100) :
    Calls Try.prog 17 #[.pointer (some ⟨p.L, 0, none⟩)] X fun e w' => e = .returned (.int .i64 0) ∧ ∃ s' segs' own', Pz w w' p v g s' segs' own' S E (k + 1) ∧ tot s'.A ≤ 990 + 2 * needTo S 9 ∧ (KeptS own X w' ∧ own' = sinceS own X w' ∧ (∀ i, i < 256 → s'.S i = (s'.A i).length) ∧ segs' = cleanSegs (W.fewTo s.gs 9)) := by
  have hf := few_need h.pm.lo.lg.ok
  have hnd : needTo s.gs 9 = needTo S 9 := needTo_congr 9 h.eq
  have hn := h.n
  have hnn := h.need
  refine (h.pm.lo.clean (by omega) (by omega)).mono ?_
  rintro e w' ⟨rfl, s', own', h1, h2, h3, h4, h5, rfl⟩
  exact ⟨rfl, s', _, _, ⟨h.pm.lift (fun _ q => q) h5 (h1.wide (by omega)), fun i hi => by rw [h2]; exact h.eq i hi, by omega, by omega⟩, by have := h1.bytes; omega, h5, rfl, h4, rfl⟩

theorem Pz.size {w X : World} {p : Pl} {v : Value} {g : Nat} {s : St} {segs : List (List W.Rec)} {own : Nat → Prop} {S : Nat → W.Sv} {E : Nat → Value} {k : Nat} (h : Pz w X p v g s segs own S E k) :
    Calls Try.prog 16 #[.pointer (some ⟨p.L, 0, none⟩)] X fun e w' => e = .returned (.int .i64 (tot s.A : Int)) ∧ w' = X := Size_c h.pm.lo.lg

theorem Pz.reopen {w X : World} {p : Pl} {v : Value} {g : Nat} {s : St} {segs : List (List W.Rec)} {own : Nat → Prop} {S : Nat → W.Sv} {E : Nat → Value} {k : Nat} (h : Pz w X p v g s segs own S E k) (hk : k < 100) :
    Calls Try.prog 8 #[.pointer (some ⟨p.b, 0, none⟩), .int .i64 (p.limit : Int)] X fun e w' => ∃ p2 s' own', e = .returned (.tuple #[.pointer (some ⟨p2.L, 0, none⟩), .int .i64 0]) ∧ p2.b = p.b ∧ p2.limit = p.limit ∧ Pz w w' p2 v g s' segs own' S E (k + 1) := by
  obtain ⟨dk, hcd, hdk⟩ := h.pm.lo.cd
  have hn := h.n
  refine (hcd.reopen (by omega)).mono ?_
  rintro e w' ⟨p2, s2, own2, rfl, h1, h2, h3, h4, h5, h6, rfl⟩
  exact ⟨p2, s2, _, rfl, h4, h5, ⟨h.pm.lift hdk h6 (h1.wide (by omega)), fun i hi => by rw [h2]; exact h.eq i hi, by omega, by have := h.need; omega⟩⟩

theorem Pz.told {w X : World} {p : Pl} {v : Value} {g : Nat} {s : St} {segs : List (List W.Rec)} {own : Nat → Prop} {S : Nat → W.Sv} {E : Nat → Value} {k : Nat} (h : Pz w X p v g s segs own S E k) :
    Calls Try.prog 19 #[.pointer (some ⟨p.L, 0, none⟩), v] X fun e w' => e = .returned (.bool true) ∧ Pz w w' p v g s segs own S E k := by
  refine (told_c h.pm.lo.lg h.pm.all).mono ?_
  rintro e w' ⟨b, rfl, h1, hb⟩
  rw [h1 h.eq]
  exact ⟨rfl, h.below hb⟩

end Go.Proofs.Ytpfnkjfbhcffiaa
