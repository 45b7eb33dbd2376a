/-
  A raft node that is alone: it stands, and leads.
-/
import Derived.Test.YteaopnhjndnpnaaNdIns
namespace Go.Proofs.Yteaopnhjndnpnaa
open Go.RowKit

section
variable {w : World} {B : Nat} {s : N.St} {own : Nat → Prop}

theorem seven {α : Type} : ∀ (l : List α), l.length = 7 → ∃ a0 a1 a2 a3 a4 a5 a6, l = [a0, a1, a2, a3, a4, a5, a6]
  | [a0, a1, a2, a3, a4, a5, a6], _ => ⟨a0, a1, a2, a3, a4, a5, a6, rfl⟩

theorem index_bools (a0 a1 a2 a3 a4 a5 a6 : Bool) : ∀ (k : Nat) (b : Bool), ([a0, a1, a2, a3, a4, a5, a6] : List Bool)[k]? = some b → ∀ W, (Instr.index 53 (.agg #[.bool a0, .bool a1, .bool a2, .bool a3, .bool a4, .bool a5, .bool a6]) (.int .i64 (k : Int))).run Try.prog W = .ok (.bool b) W := by
  intro k b hb
  match k, hb with
  | 0, hb => obtain rfl : a0 = b := by simpa using hb
             intro W; kernel_rfl
  | 1, hb => obtain rfl : a1 = b := by simpa using hb
             intro W; kernel_rfl
  | 2, hb => obtain rfl : a2 = b := by simpa using hb
             intro W; kernel_rfl
  | 3, hb => obtain rfl : a3 = b := by simpa using hb
             intro W; kernel_rfl
  | 4, hb => obtain rfl : a4 = b := by simpa using hb
             intro W; kernel_rfl
  | 5, hb => obtain rfl : a5 = b := by simpa using hb
             intro W; kernel_rfl
  | 6, hb => obtain rfl : a6 = b := by simpa using hb
             intro W; kernel_rfl
  | n + 7, hb => simp at hb

theorem filter_take_succ (l : List Bool) (k : Nat) (b : Bool) (h : l[k]? = some b) : ((l.take (k + 1)).filter id).length = ((l.take k).filter id).length + (if b then 1 else 0) := by
  rw [List.take_add_one, h, List.filter_append, List.length_append]
  cases b <;> rfl

set_option maxHeartbeats 800000 in
set_option maxRecDepth 20000 in
theorem isElected_c (h : Nd w B s own) : Calls Try.prog 64 #[.pointer (some ⟨B, 0, none⟩)] w fun e w' => e = .returned (.bool (N.isElected s)) ∧ w' = w := by
  have hz := h.sz
  obtain ⟨LB, MB, ol, rv, h⟩ := h
  have h2 := h.at 2 _ rfl
  obtain ⟨l, hl⟩ : ∃ l, l = s.voted := ⟨_, rfl⟩
  have hlen : l.length = 7 := by rw [hl]; exact hz.v
  have hc : ∀ j, j < 7 → w.cell? ⟨B, 13 + j, none⟩ = (bools l)[j]? := fun j hj => by
    rw [h.cells (13 + j), Nat.add_comm 13 j, hl]
    show (bools s.voted ++ _)[j]? = _
    rw [List.getElem?_append_left (by simp [bools, hz.v]; omega)]
  have HE : Hid (N.isElected s = decide ((s.nodes : Int) < 2 * ((l.filter id).length : Int))) := by rw [hl]; rfl
  have hn := hz.nodes
  obtain ⟨m, hm⟩ : ∃ m, m = s.nodes := ⟨_, rfl⟩
  rw [← hm] at h2 HE hn
  have HG : Hid (∀ k b, l[k]? = some b → ((l.take (k + 1)).filter id).length = ((l.take k).filter id).length + (if b then 1 else 0)) := filter_take_succ l
  have HL : Hid (∀ k, k < 7 → ∃ b, l[k]? = some b) := fun k hk => ⟨_, List.getElem?_eq_getElem (by omega)⟩
  have HT : Hid (l.take 7 = l) := List.take_of_length_le (by omega)
  clear h hz hl hm
  obtain ⟨a0, a1, a2, a3, a4, a5, a6, rfl⟩ := seven l hlen
  have k0 : w.cell? ⟨B, 13, none⟩ = some (.bool a0) := hc 0 (by decide)
  have k1 : w.cell? ⟨B, 14, none⟩ = some (.bool a1) := hc 1 (by decide)
  have k2 : w.cell? ⟨B, 15, none⟩ = some (.bool a2) := hc 2 (by decide)
  have k3 : w.cell? ⟨B, 16, none⟩ = some (.bool a3) := hc 3 (by decide)
  have k4 : w.cell? ⟨B, 17, none⟩ = some (.bool a4) := hc 4 (by decide)
  have k5 : w.cell? ⟨B, 18, none⟩ = some (.bool a5) := hc 5 (by decide)
  have k6 : w.cell? ⟨B, 19, none⟩ = some (.bool a6) := hc 6 (by decide)
  have HIx : Hid (∀ (k : Nat) b, ([a0, a1, a2, a3, a4, a5, a6] : List Bool)[k]? = some b → ∀ W, (Instr.index 53 (.agg #[.bool a0, .bool a1, .bool a2, .bool a3, .bool a4, .bool a5, .bool a6]) (.int .i64 (k : Int))).run Try.prog W = .ok (.bool b) W) := index_bools a0 a1 a2 a3 a4 a5 a6
  obtain ⟨l, hl⟩ : ∃ l, l = [a0, a1, a2, a3, a4, a5, a6] := ⟨_, rfl⟩
  rw [← hl] at HE HG HL HT HIx
  clear hc hl
  have hb7 : ∀ k, ((l.take k).filter id).length ≤ k := fun k => Nat.le_trans (List.length_filter_le _ _) (by rw [List.length_take]; omega)
  have HB7 : Hid _ := hb7
  clear hb7
  go_enter Try.func64, Try.ntmps64
  go_wp2
  go_loopw [3, 10] (fun x y wr => ∃ k q : Nat, y = .int .i64 (k : Int) ∧ k ≤ 7 ∧ x = .int .i64 (q : Int) ∧ Hid (q = ((l.take k).filter id).length) ∧ wr = w) (fun _ y _ => 7 - (intOf y).toNat)
  case atStart => exact ⟨0, 0, rfl, by omega, rfl, rfl, rfl⟩
  case round =>
    obtain ⟨k, q, rfl, hk, rfl, HQ, rfl⟩ := hrel
    by_cases hlt : k < 7
    · obtain ⟨b, hb⟩ := HL.out k hlt
      have hix := HIx.out k b hb
      have hg := HG.out k b hb
      have HQ' : Hid (q + (if b then 1 else 0) = ((l.take (k + 1)).filter id).length) := by rw [hg, ← HQ.out]; rfl
      have hq : q ≤ 7 := by have := HB7.out k; have := HQ.out; omega
      have hk0 : (0 : Int) ≤ (k : Int) := by omega
      have hk1 : (k : Int) < 7 := by omega
      clear hb hg
      cases b
      · go_wp2
        go_roundw
        case rel => exact ⟨k + 1, q, by go_num, by omega, rfl, HQ', by simp⟩
        case measure => simp [intOf]; omega
      · go_wp2
        go_roundw
        case rel => exact ⟨k + 1, q + 1, by go_num, by omega, by go_num, HQ', by simp⟩
        case measure => simp [intOf]; omega
    · obtain rfl : k = 7 := by omega
      have hq : q ≤ 7 := by have := HB7.out 7; have := HQ.out; omega
      have HF : Hid (N.isElected s = decide ((m : Int) < 2 * (q : Int))) := by
        have := HQ.out
        rw [HT.out] at this
        rw [this]
        exact HE.out
      have hw2 : IntKind.i64.wrap (2 * (q : Int)) = 2 * (q : Int) := by rw [IntKind.wrap_i64]; omega
      go_wp2
      go_ret
      exact ⟨by rw [HF.out]; rfl, rfl⟩

theorem toOthers_one (h : Nd w B s own) (h1 : s.nodes = 1) (f : Value) : Calls Try.prog 36 #[.pointer (some ⟨B, 0, none⟩), f] w fun e w' => e = .returned (.slice none 0 0) ∧ w' = w := by
  have hi : s.id = 0 := by have := h.sz.id; omega
  obtain ⟨LB, MB, ol, rv, h⟩ := h
  have k1 := h.at 1 _ rfl
  have k2 := h.at 2 _ rfl
  rw [h1] at k2
  rw [hi] at k1
  clear h
  go_enter Try.func36, Try.ntmps36
  go_wp2
  go_loopw [5, 11] (fun x y wr => ∃ k : Nat, y = .int .i64 (k : Int) ∧ k ≤ 1 ∧ x = .slice none 0 0 ∧ wr = w) (fun _ y _ => 1 - (intOf y).toNat)
  case atStart => exact ⟨0, rfl, by omega, rfl, rfl⟩
  case round =>
    obtain ⟨k, rfl, hk, rfl, rfl⟩ := hrel
    by_cases hlt : k < 1
    · obtain rfl : k = 0 := by omega
      go_wp2
      go_roundw
      case rel => exact ⟨1, by go_num, by omega, rfl, by simp⟩
      case measure => simp [intOf]
    · obtain rfl : k = 1 := by omega
      go_wp2
      go_ret
      exact ⟨rfl, rfl⟩

/-- The cells of the seven places of a table. -/
theorem NdV.mtchAt {LB MB : Nat} {ol : Nat → Prop} {rv : Value} (h : NdV w B s own LB MB ol rv) (j : Nat) (x : Int) (hj : s.mtch[j]? = some x) : w.cell? ⟨B, 27 + j, none⟩ = some (.int .i64 x) := by
  have hl := (List.getElem?_eq_some_iff.1 hj).1
  rw [h.cells (27 + j)]
  have e : (ndCells s LB MB rv)[27 + j]? = (bools s.voted ++ (ints s.next ++ (ints s.mtch ++ [rv])))[14 + j]? := by
    rw [show 27 + j = 14 + j + 13 by omega]
    rfl
  rw [e, List.getElem?_append_right (by simp [bools, h.sz.v]; omega), List.getElem?_append_right (by simp [bools, ints, h.sz.v, h.sz.n]; omega), List.getElem?_append_left (by simp [bools, ints, h.sz.v, h.sz.n]; omega)]
  simp [bools, ints, h.sz.v, h.sz.n]
  rw [show 14 + j - 7 - 7 = j by omega, hj]
theorem NdV.nextAt {LB MB : Nat} {ol : Nat → Prop} {rv : Value} (h : NdV w B s own LB MB ol rv) (j : Nat) (x : Int) (hj : s.next[j]? = some x) : w.cell? ⟨B, 20 + j, none⟩ = some (.int .i64 x) := by
  have hl := (List.getElem?_eq_some_iff.1 hj).1
  have h7 := h.sz.n
  rw [h.cells (20 + j)]
  have e : (ndCells s LB MB rv)[20 + j]? = (bools s.voted ++ (ints s.next ++ (ints s.mtch ++ [rv])))[7 + j]? := by
    rw [show 20 + j = 7 + j + 13 by omega]
    rfl
  rw [e, List.getElem?_append_right (by simp [bools, h.sz.v]), List.getElem?_append_left (by simp [bools, ints, h.sz.v]; omega)]
  simp [bools, ints, h.sz.v]
  rw [hj]

set_option maxRecDepth 20000 in
theorem insSort_one (w : World) (g : Nat) (c : Nat) : Calls Try.prog 86 #[.slice (some ⟨g, 0, none⟩) 1 c, .int .i64 0, .int .i64 1] w fun e w' => e = .returned (.tuple #[]) ∧ w' = w := by
  go_enter Try.func86, Try.ntmps86
  go_wp2
  go_loopw [6] (fun x wr => x = .int .i64 1 ∧ wr = w) (fun _ _ => 0)
  case atStart => exact ⟨rfl, rfl⟩
  case round =>
    obtain ⟨rfl, rfl⟩ := hrel
    go_wp2
    exact bodyPost_end (v := .tuple #[]) (by simp [results, Try.results86]) rfl ⟨rfl, rfl⟩

set_option maxRecDepth 20000 in
theorem pdq_one (w : World) (g : Nat) (c : Nat) (l : Int) : Calls Try.prog 76 #[.slice (some ⟨g, 0, none⟩) 1 c, .int .i64 0, .int .i64 1, .int .i64 l] w fun e w' => e = .returned (.tuple #[]) ∧ w' = w := by
  go_enter Try.func76, Try.ntmps76
  go_wp2
  go_loopw [1, 2] (fun x y wr => x = .int .i64 0 ∧ y = .int .i64 1 ∧ wr = w) (fun _ _ _ => 0)
  case atStart => exact ⟨rfl, rfl, rfl⟩
  case round =>
    obtain ⟨rfl, rfl, rfl⟩ := hrel
    go_wp2_with fail
    refine Calls.mono (insSort_one _ _ _) ?_
    rintro e w1 ⟨rfl, hw⟩
    subst hw
    go_wp2
    exact bodyPost_ret (v := .tuple #[]) (by simp [results, Try.results76]) rfl ⟨rfl, rfl⟩

set_option maxRecDepth 20000 in
theorem Len_one (w : World) : Calls Try.prog 77 #[.int .u64 1] w fun e w' => (∃ l, e = .returned (.int .i64 l)) ∧ w' = w := by
  go_enter Try.func77, Try.ntmps77
  go_wp2
  go_ret
  exact ⟨⟨_, rfl⟩, rfl⟩

set_option maxRecDepth 20000 in
theorem Sort_one (w : World) (g : Nat) (c : Nat) : Calls Try.prog 59 #[.slice (some ⟨g, 0, none⟩) 1 c] w fun e w' => e = .returned (.tuple #[]) ∧ w' = w := by
  go_enter Try.func59, Try.ntmps59
  go_wp2_with fail
  refine Calls.mono (Len_one _) ?_
  rintro e w1 ⟨⟨l, rfl⟩, hw⟩
  subst hw
  go_wp2_with fail
  refine Calls.mono (pdq_one _ _ _ _) ?_
  rintro e w1 ⟨rfl, hw⟩
  subst hw
  go_wp2
  exact bodyPost_end (v := .tuple #[]) (by simp [results, Try.results59]) rfl ⟨rfl, rfl⟩

/-- A node that is alone. -/
structure One (s : N.St) : Prop where
  nodes : s.nodes = 1
  id : s.id = 0

theorem held_one (h : One s) (hz : Sz s) : N.held s = G.last s.log := by
  unfold N.held
  rw [h.nodes, h.id]
  obtain ⟨a0, a1, a2, a3, a4, a5, a6, e⟩ := seven s.mtch hz.m
  rw [e]
  rfl

/-- The commit is another one. -/
theorem NdV.setCommit {LB MB : Nat} {ol : Nat → Prop} {rv : Value} (h : NdV w B s own LB MB ol rv) (x : Int) : NdV (w.setCell ⟨B, 10, none⟩ (.int .i64 x)) B { s with commit := x } own LB MB ol rv :=
  h.set 10 (.int .i64 x) (by decide) rfl rfl rfl rfl ⟨h.sz.id, h.sz.nodes, h.sz.v, h.sz.n, h.sz.m⟩

theorem NdV.aft {LB MB : Nat} {ol : Nat → Prop} {rv : Value} (h : NdV w B s own LB MB ol rv) {w0 : World} {own0 : Nat → Prop} (hk : KeptB B own0 w0 w) (ho : ∀ k, own k → own0 k ∨ w0.heap.size ≤ k) : AftN own0 w0 w B s own := ⟨h.nd, hk, ho⟩

set_option maxHeartbeats 1600000 in
set_option maxRecDepth 20000 in
theorem commitMore_one (h : Nd w B s own) (h1 : One s) : Calls Try.prog 35 #[.pointer (some ⟨B, 0, none⟩)] w fun e w' => e = .returned (.tuple #[]) ∧ AftN own w w' B (N.commitMore s) own := by
  have hz := h.sz
  have hH := held_one h1 hz
  obtain ⟨LB, MB, ol, rv, hv⟩ := h
  obtain ⟨a0, a1, a2, a3, a4, a5, a6, ea⟩ := seven s.mtch hz.m
  have k1 : w.cell? ⟨B, 1, none⟩ = some (.int .i64 0) := by have := hv.at 1 _ rfl; rw [h1.id] at this; exact this
  have k2 : w.cell? ⟨B, 2, none⟩ = some (.int .i64 1) := by have := hv.at 2 _ rfl; rw [h1.nodes] at this; exact this
  have m0 := hv.mtchAt 0 a0 (by rw [ea]; rfl)
  have m1 := hv.mtchAt 1 a1 (by rw [ea]; rfl)
  have m2 := hv.mtchAt 2 a2 (by rw [ea]; rfl)
  have m3 := hv.mtchAt 3 a3 (by rw [ea]; rfl)
  have m4 := hv.mtchAt 4 a4 (by rw [ea]; rfl)
  have m5 := hv.mtchAt 5 a5 (by rw [ea]; rfl)
  have m6 := hv.mtchAt 6 a6 (by rw [ea]; rfl)
  simp only [Nat.reduceAdd] at m0 m1 m2 m3 m4 m5 m6
  have k4 := hv.at 4 _ rfl
  have hlt := hv.lt
  have HV : Hid _ := hv
  obtain ⟨ll, hll⟩ : ∃ ll, ll = G.last s.log := ⟨_, rfl⟩
  obtain ⟨u, hu⟩ : ∃ u, u = w.alloc (.cells #[.int .i64 a0, .int .i64 a1, .int .i64 a2, .int .i64 a3, .int .i64 a4, .int .i64 a5, .int .i64 a6] 54) := ⟨_, rfl⟩
  obtain ⟨bm, hbm⟩ : ∃ bm, bm = w.heap.size := ⟨_, rfl⟩
  have HBm : Hid (bm = w.heap.size) := hbm
  have hbu : Below w.heap.size w u := by rw [hu]; exact below_alloc _ _
  have HBu : Hid _ := hbu
  have HLast : Hid (Calls Try.prog 32 #[.pointer (some ⟨LB, 0, none⟩)] u.drew fun e w' => e = .returned (.int .i64 ll) ∧ w' = u.drew.drew) := by
    rw [hll]
    exact Last_c (hv.below hbu.drew).log
  have z0 : u.cell? ⟨bm, 0, none⟩ = some (.int .i64 a0) := by rw [hu, hbm]; exact World.cell?_alloc_mark w _ _ _ 0
  have f0 : u.frozen? ⟨bm, 0, none⟩ = false := by rw [hu, hbm, World.frozen?_alloc_mark]; simp
  have b1 : u.cell? ⟨B, 1, none⟩ = some (.int .i64 0) := (hbu.cell (p := ⟨B, 1, none⟩) hlt).trans k1
  have b4 : u.cell? ⟨B, 4, none⟩ = some (.pointer (some ⟨LB, 0, none⟩)) := (hbu.cell (p := ⟨B, 4, none⟩) hlt).trans k4
  have hBb : B ≠ bm := by omega
  have hlu : bm < u.heap.size := by rw [hu, hbm]; simp
  have HKs : Hid (∀ v, (u.setCell ⟨bm, 0, none⟩ v).drew.drew.cell? ⟨B, 1, none⟩ = some (.int .i64 0) ∧ (u.setCell ⟨bm, 0, none⟩ v).drew.drew.cell? ⟨B, 4, none⟩ = some (.pointer (some ⟨LB, 0, none⟩))) := fun v => by
    have hh : (u.setCell ⟨bm, 0, none⟩ v).heap[B]? = u.heap[B]? := Below.heap_setCell _ _ _ _ hBb
    exact ⟨(World.cell?_of_block (a := ⟨B, 1, none⟩) hh).trans b1, (World.cell?_of_block (a := ⟨B, 4, none⟩) hh).trans b4⟩
  have HLl : Hid (ll = G.last s.log) := hll
  have HH : Hid (N.held s = G.last s.log) := hH
  clear hv h1 hH hz ea hll
  go_enter Try.func35, Try.ntmps35
  go_wp2
  rw [← hu, ← hbm]
  clear hu hbm m0 m1 m2 m3 m4 m5 m6
  go_region_held (fun X => X.cell? ⟨B, 1, none⟩ = some (.int .i64 0) ∧ X.cell? ⟨B, 4, none⟩ = some (.pointer (some ⟨LB, 0, none⟩)))
    (first | exact HKs.out _ | go_keep)
    (first | (go_at_call 32; refine Calls.mono HLast.out ?_; rintro e w2 ⟨rfl, hw⟩; subst hw))
  obtain ⟨X, hX⟩ : ∃ X, X = (u.setCell ⟨bm, 0, none⟩ (.int .i64 ll)).drew.drew := ⟨_, rfl⟩
  have hbX : Below w.heap.size w X := by rw [hX]; exact (HBu.out.setCell (p := ⟨bm, 0, none⟩) (by show _ ≤ bm; rw [HBm.out]; exact Nat.le_refl _) _).drew.drew
  have HBX : Hid _ := hbX
  have y0 : X.cell? ⟨bm, 0, none⟩ = some (.int .i64 ll) := by
    rw [hX]
    show (u.setCell _ _).cell? _ = _
    rw [cell_set6 _ z0, if_pos rfl]
  have hN := HV.out.below hbX
  have y2 : X.cell? ⟨B, 2, none⟩ = some (.int .i64 1) := (hbX.cell (p := ⟨B, 2, none⟩) hlt).trans k2
  have y6 : X.cell? ⟨B, 6, none⟩ = some (.int .i64 s.term) := hN.at 6 _ rfl
  have y10 : X.cell? ⟨B, 10, none⟩ = some (.int .i64 s.commit) := hN.at 10 _ rfl
  have g10 : X.frozen? ⟨B, 10, none⟩ = false := hN.fz 10 (by decide)
  have HN : Hid (NdV X B s own LB MB ol rv) := hN
  have HT : Hid (∀ n, Calls Try.prog 31 #[.pointer (some ⟨B, 0, none⟩), .int .i64 ll] (X.drewN n) fun e w' => e = .returned (.int .i64 (G.termA s.log ll)) ∧ ∃ m, w' = (X.drewN n).drewN m) := fun n => termAtN_c (hN.nd.below (below_drewN X n)) ll
  obtain ⟨cm, hcm⟩ : ∃ cm, cm = s.commit := ⟨_, rfl⟩
  obtain ⟨tm, htm⟩ : ∃ tm, tm = s.term := ⟨_, rfl⟩
  obtain ⟨ta, hta⟩ : ∃ ta, ta = G.termA s.log ll := ⟨_, rfl⟩
  have HE : Hid (N.commitMore s = if cm < ll ∧ ta = tm then { s with commit := ll } else s) := by
    unfold N.commitMore
    rw [HH.out, ← HLl.out, hcm, htm, hta]
    rfl
  rw [← hcm] at y10
  rw [← htm] at y6
  rw [← hta] at HT
  have HHere : Hid (∀ k, own k → own k ∨ w.heap.size ≤ k) := fun k hk => .inl hk
  rw [← hX]
  clear hX hN hbX z0 f0 b1 b4 HKs HLast hlu k1 k2 k4 hcm htm hta HBu
  go_wp2_with fail
  refine Calls.mono (Sort_one _ _ _) ?_
  rintro e w3 ⟨rfl, hw3⟩
  subst hw3
  have HYes : Hid (∀ n, AftN own w ((w3.drewN n).setCell ⟨B, 10, none⟩ (.int .i64 ll)) B { s with commit := ll } own) := fun n =>
    ((HN.out.below (below_drewN w3 n)).setCommit ll).aft (((KeptB.ofBelow HBX.out).trans (KeptB.ofBelow (own := own) (below_drewN w3 n)) (fun _ _ e => e)).setCell ⟨B, 10, none⟩ (.inl rfl) _) HHere.out
  have HNo : Hid (∀ n, AftN own w (w3.drewN n) B s own) := fun n =>
    (HN.out.below (below_drewN w3 n)).aft ((KeptB.ofBelow HBX.out).trans (KeptB.ofBelow (own := own) (below_drewN w3 n)) (fun _ _ e => e)) HHere.out
  by_cases c1 : cm < ll
  · by_cases c2 : ta = tm
    · have c3 : (ta == tm) = true := by simpa using c2
      go_wp2
      go_quiet (first | (go_at_call 31; exact Calls.quiet_of (HT.out _)))
      go_wp2
      have hE := HE.out
      rw [if_pos ⟨c1, c2⟩] at hE
      refine bodyPost_end (v := .tuple #[]) (by simp [results, Try.results35]) rfl ⟨rfl, ?_⟩
      rw [hE]
      exact HYes.out _
    · have c3 : (ta == tm) = false := by simpa using c2
      go_wp2
      go_quiet (first | (go_at_call 31; exact Calls.quiet_of (HT.out _)))
      go_wp2
      have hE := HE.out
      rw [if_neg (fun q => c2 q.2)] at hE
      refine bodyPost_end (v := .tuple #[]) (by simp [results, Try.results35]) rfl ⟨rfl, ?_⟩
      rw [hE]
      exact HNo.out _
  · have c3 : decide (cm < ll) = false := decide_eq_false c1
    have HC1 : Hid (¬ cm < ll) := c1
    clear c1
    go_wp2
    go_quiet (fail)
    go_wp2
    have c1 := HC1.out
    have hE := HE.out
    rw [if_neg (fun q => by have := q.1; omega)] at hE
    refine bodyPost_end (v := .tuple #[]) (by simp [results, Try.results35]) rfl ⟨rfl, ?_⟩
    rw [hE]
    exact HNo.out _

end
end Go.Proofs.Yteaopnhjndnpnaa
