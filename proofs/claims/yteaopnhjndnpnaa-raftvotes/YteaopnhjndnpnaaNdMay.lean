/-
  Which messages may be to a raft node.
-/
import Derived.Test.YteaopnhjndnpnaaNdAdd
namespace Go.Proofs.Yteaopnhjndnpnaa
open Go.RowKit

/-- Entries whose terms do not go down. -/
def mayEnts (b t : Int) : List (Int × ByteArray) → Prop
  | [] => True
  | x :: l => b ≤ x.1 ∧ x.1 ≤ t ∧ x.2.size ≤ 262144 ∧ mayEnts x.1 t l
/-- The term ahead of an entry. -/
def befo (b : Int) : List (Int × ByteArray) → Nat → Int
  | [], _ => b
  | _ :: _, 0 => b
  | x :: l, k + 1 => befo x.1 l k
theorem befo_at : ∀ (l : List (Int × ByteArray)) (b t : Int) (k : Nat) (x : Int × ByteArray), mayEnts b t l → l[k]? = some x → befo b l k ≤ x.1 ∧ x.1 ≤ t ∧ x.2.size ≤ 262144 ∧ befo b l (k + 1) = x.1
  | [], _, _, _, _, _, h => by simp at h
  | y :: l, b, t, 0, x, hm, h => by
    simp at h
    subst h
    refine ⟨hm.1, hm.2.1, hm.2.2.1, ?_⟩
    cases l <;> rfl
  | y :: l, b, t, k + 1, x, hm, h => by
    simp at h
    exact befo_at l y.1 t k x hm.2.2.2 h

/-- A message may be to a node. -/
structure May (s : N.St) (m : N.Msg) : Prop where
  kind : 1 ≤ m.kind ∧ m.kind ≤ 5
  group : m.group = s.group
  to : m.to = (s.id : Int)
  frm : 0 ≤ m.frm ∧ m.frm < (s.nodes : Int) ∧ m.frm ≠ (s.id : Int)
  term : 1 ≤ m.term ∧ m.term ≤ 1099511627776
  index : 0 ≤ m.index ∧ m.index ≤ 1099511627776
  at_ : 0 ≤ m.at_ ∧ m.at_ ≤ 1099511627776
  commit : 0 ≤ m.commit ∧ m.commit ≤ 1099511627776
  len : m.ents.length ≤ 16
  ents : mayEnts m.at_ m.term m.ents
  data : m.data.size ≤ 262144

set_option maxHeartbeats 800000 in
set_option maxRecDepth 20000 in
theorem mayEntries_c (w : World) (m : N.Msg) (ev : Value) (hev : EntRd w ev m.ents) (hl : m.ents.length ≤ 16) (hm : mayEnts m.at_ m.term m.ents) :
    Calls Try.prog 62 #[msgV m ev] w fun e w' => e = .returned (.bool true) ∧ Below w.heap.size w w' := by
  obtain ⟨p, c, hp, hc1, hc2, hrest⟩ := hev
  obtain ⟨n, hn⟩ : ∃ n, n = m.ents.length := ⟨_, rfl⟩
  subst hp
  rw [← hn] at hc1
  obtain ⟨u, hu⟩ : ∃ u, u = w.alloc (.cells (msgOne m (.slice p n c)).toArray 48) := ⟨_, rfl⟩
  obtain ⟨bm, hbm⟩ : ∃ bm, bm = w.heap.size := ⟨_, rfl⟩
  have hbu : Below w.heap.size w u := by rw [hu]; exact below_alloc _ _
  have hc : ∀ j, u.cell? ⟨bm, j, none⟩ = (msgOne m (.slice p n c))[j]? := fun j => by rw [hu, hbm]; exact (World.cell?_alloc_mark w _ _ _ j).trans (List.getElem?_toArray)
  have hlt : bm < u.heap.size := by rw [hu, hbm]; simp
  have x6 : u.cell? ⟨bm, 6, none⟩ = some (.int .i64 m.at_) := hc 6
  have x7 : u.cell? ⟨bm, 7, none⟩ = some (.slice p n c) := hc 7
  have HX4 : Hid (∀ X, Below u.heap.size u X → X.cell? ⟨bm, 4, none⟩ = some (.int .i64 m.term)) := fun X hX => (hX.cell (p := ⟨bm, 4, none⟩) hlt).trans (hc 4)
  have HI : Hid (∀ k, k < n → ∃ x g off, m.ents[k]? = some x ∧ p = some ⟨g, off, none⟩ ∧ ∀ X, Below u.heap.size u X → X.cell? ⟨g, off + k * 2, none⟩ = some (.int .i64 x.1) ∧ X.cell? ⟨g, off + k * 2 + 1, none⟩ = some (.string x.2)) := by
    intro k hk
    obtain ⟨x, hx⟩ : ∃ x, m.ents[k]? = some x := ⟨_, List.getElem?_eq_getElem (by omega)⟩
    obtain ⟨g, off, hp, hg, y1, y2⟩ := hrest k x hx
    have hX : ∀ X, Below u.heap.size u X → Below w.heap.size w X := fun X hX => hbu.trans (hX.mono hbu.size)
    exact ⟨x, g, off, hx, hp, fun X h => ⟨((hX X h).cell (p := ⟨g, off + k * 2, none⟩) hg).trans y1, ((hX X h).cell (p := ⟨g, off + k * 2 + 1, none⟩) hg).trans y2⟩⟩
  have HM : Hid (∀ k x, m.ents[k]? = some x → befo m.at_ m.ents k ≤ x.1 ∧ x.1 ≤ m.term ∧ x.2.size ≤ 262144 ∧ befo m.at_ m.ents (k + 1) = x.1) := fun k x hx => befo_at _ _ _ _ _ hm hx
  have h16 : n ≤ 16 := by omega
  have HB : Hid (Below w.heap.size w u) := hbu
  have hb0 : befo m.at_ m.ents 0 = m.at_ := by cases m.ents <;> rfl
  have HB0 : Hid _ := hb0
  unfold msgV msgOne at *
  rw [← hn]
  clear hn hrest hbu hc hm hl hb0
  go_enter Try.func62, Try.ntmps62
  go_wp2
  rw [← hu, ← hbm]
  clear hu hbm
  go_wp2
  go_loopw [3, 15] (fun bf i wr => ∃ k : Nat, k ≤ n ∧ i = .int .i64 (k : Int) ∧ bf = .int .i64 (befo m.at_ m.ents k) ∧ Hid (Below u.heap.size u wr)) (fun _ i _ => n - (intOf i).toNat)
  case atStart => exact ⟨0, by omega, rfl, by rw [HB0.out], Below.refl _ _⟩
  case round =>
    obtain ⟨k, hkn, rfl, rfl, HW⟩ := hrel
    by_cases hlt2 : k < n
    · obtain ⟨x, g, off, hx, hp, hcs⟩ := HI.out k hlt2
      subst hp
      obtain ⟨y1, y2⟩ := hcs wr HW.out
      have y4 := HX4.out _ HW.out
      obtain ⟨m1, m2, m3, m4⟩ := HM.out k x hx
      have d1 : decide (x.1 < befo m.at_ m.ents k) = false := decide_eq_false (by omega)
      have d2 : decide (m.term < x.1) = false := decide_eq_false (by omega)
      have d3 : decide ((262144 : Int) < (x.2.size : Int)) = false := decide_eq_false (by omega)
      have hk0 : (0 : Int) ≤ (k : Int) := by omega
      have hk1 : (k : Int) < (n : Int) := by omega
      have HM4 : Hid _ := m4
      have hbl : bm < wr.heap.size := Nat.lt_of_lt_of_le hlt HW.out.size
      have hcm := hc2
      unfold maxLen at hcm
      clear m1 m2 m3 m4 hcs hx hc2
      go_wp2
      go_roundw
      case rel => exact ⟨k + 1, by omega, by go_num, by rw [HM4.out], HW.out.trans ((below_alloc _ _).mono HW.out.size)⟩
      case measure => simp [intOf]; omega
    · go_wp2
      go_ret
      exact ⟨rfl, HB.out.trans (HW.out.mono HB.out.size)⟩

/-- What is done with a message of a kind. -/
def takeF (k : Int) : Nat := if k = 1 then 67 else if k = 2 then 68 else if k = 3 then 69 else if k = 4 then 70 else 71

theorem look_take (k : Int) (hk : 1 ≤ k ∧ k ≤ 5) (u : World) (K : Nat) (hK : u.heap[K]? = some takeMap) (c : Bool) :
    (Instr.lookup 49 (.map (some K)) (.int .i64 k) c).run Try.prog u = .ok (if c then .tuple #[fnT (takeF k), .bool true] else fnT (takeF k)) u := by
  have hck := MapKept.run_checkKey (P := Try.prog) (w := u) (kt := 3) (d := .int .i64) (k := .int .i64 k) Try.underlying3 (by simp [MapKept.IsKey]) false 9999
  unfold takeMap at hK
  have hne : takeList.toArray.isEmpty = false := rfl
  have hx : ∃ i, Instr.findNow (.int .i64) (.int .i64 k) takeList 0 = some (some (i, fnT (takeF k))) := by
    have : k = 1 ∨ k = 2 ∨ k = 3 ∨ k = 4 ∨ k = 5 := by omega
    rcases this with rfl | rfl | rfl | rfl | rfl
    · exact ⟨0, rfl⟩
    · exact ⟨1, rfl⟩
    · exact ⟨2, rfl⟩
    · exact ⟨3, rfl⟩
    · exact ⟨4, rfl⟩
  obtain ⟨i, hx⟩ := hx
  simp [Instr.lookup, run_underlying Try.underlying49, MapKept.run_getObj_map hK, hne, hck, Instr.findKey, run_underlying Try.underlying3, Result.andThen, hx]

section
variable {w : World} {B : Nat} {s : N.St} {own : Nat → Prop}

/-- While a message is looked at: the node, and the message in block bm. -/
structure Lk (w : World) (B : Nat) (s : N.St) (own : Nat → Prop) (LB MB : Nat) (ol : Nat → Prop) (rv : Value) (m : N.Msg) (ev : Value) (bm : Nat) (X : World) : Prop where
  old : Below w.heap.size w X
  lt : bm < X.heap.size
  nd : NdV X B s own LB MB ol rv
  c : ∀ j, X.cell? ⟨bm, j, none⟩ = (msgOne m ev)[j]?
theorem Lk.below {LB MB : Nat} {ol : Nat → Prop} {rv : Value} {m : N.Msg} {ev : Value} {bm : Nat} {X Y : World} (h : Lk w B s own LB MB ol rv m ev bm X) (hb : Below X.heap.size X Y) : Lk w B s own LB MB ol rv m ev bm Y :=
  ⟨h.old.trans (hb.mono h.old.size), Nat.lt_of_lt_of_le h.lt hb.size, h.nd.below hb, fun j => (hb.cell (p := ⟨bm, j, none⟩) h.lt).trans (h.c j)⟩

set_option maxHeartbeats 2400000 in
set_option maxRecDepth 20000 in
theorem may_c (h : Nd w B s own) (m : N.Msg) (ev : Value) (hev : EntRd w ev m.ents) (hm : May s m) :
    Calls Try.prog 38 #[.pointer (some ⟨B, 0, none⟩), msgV m ev] w fun e w' => e = .returned (.bool true) ∧ Below w.heap.size w w' := by
  obtain ⟨LB, MB, ol, rv, hv⟩ := h
  obtain ⟨p, c, hp, _⟩ := id hev
  obtain ⟨n, hn⟩ : ∃ n, n = m.ents.length := ⟨_, rfl⟩
  rw [← hn] at hp
  clear hn
  subst hp
  obtain ⟨u, hu⟩ : ∃ u, u = w.alloc (.cells (msgOne m (.slice p n c)).toArray 48) := ⟨_, rfl⟩
  obtain ⟨bm, hbm⟩ : ∃ bm, bm = w.heap.size := ⟨_, rfl⟩
  have hbu : Below w.heap.size w u := by rw [hu]; exact below_alloc _ _
  have HL : Hid (Lk w B s own LB MB ol rv m (.slice p n c) bm u) := ⟨hbu, by rw [hu, hbm]; simp, hv.below hbu, fun j => by rw [hu, hbm]; exact (World.cell?_alloc_mark w _ _ _ j).trans (List.getElem?_toArray)⟩
  have HME : Hid (∀ X, Lk w B s own LB MB ol rv m (.slice p n c) bm X → Calls Try.prog 62 #[.agg #[.int .i64 m.kind, .int .i64 s.group, .int .i64 m.frm, .int .i64 (s.id : Int), .int .i64 m.term, .int .i64 m.index, .int .i64 m.at_, .slice p n c, .int .i64 m.commit, .bool m.ok, .string m.data]] X fun e w' => e = .returned (.bool true) ∧ Lk w B s own LB MB ol rv m (.slice p n c) bm w') := fun X hX => by
    have hme := mayEntries_c X m _ (hev.below hX.old) hm.len hm.ents
    unfold msgV msgOne at hme
    rw [hm.group, hm.to] at hme
    refine hme.mono ?_
    rintro e w' ⟨rfl, hb⟩
    exact ⟨rfl, hX.below hb⟩
  have HI : Hid (∀ X, Lk w B s own LB MB ol rv m (.slice p n c) bm X → (Instr.lookup 49 (.map (some MB)) (.int .i64 m.kind) true).run Try.prog X = .ok (.tuple #[fnT (takeF m.kind), .bool true]) X) := fun X hX => look_take m.kind hm.kind X MB hX.nd.map true
  have HC : Hid (∀ X, Lk w B s own LB MB ol rv m (.slice p n c) bm X → X.cell? ⟨B, 0, none⟩ = some (.int .i64 s.group) ∧ X.cell? ⟨B, 1, none⟩ = some (.int .i64 (s.id : Int)) ∧ X.cell? ⟨B, 2, none⟩ = some (.int .i64 (s.nodes : Int)) ∧ X.cell? ⟨B, 3, none⟩ = some (.map (some MB)) ∧ X.cell? ⟨bm, 0, none⟩ = some (.int .i64 m.kind) ∧ X.cell? ⟨bm, 1, none⟩ = some (.int .i64 s.group) ∧ X.cell? ⟨bm, 2, none⟩ = some (.int .i64 m.frm) ∧ X.cell? ⟨bm, 3, none⟩ = some (.int .i64 (s.id : Int)) ∧ X.cell? ⟨bm, 4, none⟩ = some (.int .i64 m.term) ∧ X.cell? ⟨bm, 5, none⟩ = some (.int .i64 m.index) ∧ X.cell? ⟨bm, 6, none⟩ = some (.int .i64 m.at_) ∧ X.cell? ⟨bm, 7, none⟩ = some (.slice p n c) ∧ X.cell? ⟨bm, 8, none⟩ = some (.int .i64 m.commit) ∧ X.cell? ⟨bm, 9, none⟩ = some (.bool m.ok) ∧ X.cell? ⟨bm, 10, none⟩ = some (.string m.data)) := fun X hX =>
    ⟨hX.nd.at 0 _ rfl, hX.nd.at 1 _ rfl, hX.nd.at 2 _ rfl, hX.nd.at 3 _ rfl, hX.c 0, by have := hX.c 1; rw [← hm.group]; exact this, hX.c 2, by have := hX.c 3; rw [← hm.to]; exact this, hX.c 4, hX.c 5, hX.c 6, hX.c 7, hX.c 8, hX.c 9, hX.c 10⟩
  have HX : Hid (∀ v, (v = m.term ∨ v = m.index ∨ v = m.at_ ∨ v = m.commit) → ∀ X, Calls Try.prog 61 #[.int .i64 v] X fun e w' => e = .returned (.bool true) ∧ w' = X) := fun v hv X => isIndex_c X _ (by
    have := hm.term
    have := hm.index
    have := hm.at_
    have := hm.commit
    rcases hv with rfl | rfl | rfl | rfl <;> omega)
  have d1 : decide ((0 : Int) ≤ m.frm) = true := decide_eq_true hm.frm.1
  have d2 : decide (m.frm < (s.nodes : Int)) = true := decide_eq_true hm.frm.2.1
  have d3 : (m.frm != (s.id : Int)) = true := by simpa using hm.frm.2.2
  have d4 : decide ((1 : Int) ≤ m.term) = true := decide_eq_true hm.term.1
  have d5 : decide ((m.data.size : Int) ≤ 262144) = true := decide_eq_true (by have := hm.data; omega)
  have HBu : Hid (Below w.heap.size w u) := hbu
  unfold fnT at HI
  unfold msgV msgOne at *
  clear hm hev hv hbu
  go_enter Try.func38, Try.ntmps38
  go_wp2
  rw [← hu, ← hbm]
  clear hu hbm
  have hD : Lk w B s own LB MB ol rv m (.slice p n c) bm u.drew := HL.out.below (Below.refl _ _).drew
  have hl0 := fun k => HI.out _ (HL.out.below (below_drewN u k))
  obtain ⟨x0, x1, x2, x3, y0, y1, y2, y3, y4, y5, y6, y7, y8, y9, y10⟩ := HC.out _ HL.out
  go_wp2
  go_quiet (fail)
  clear hl0 x0 x1 x2 x3 y0 y1 y2 y3 y4 y5 y6 y7 y8 y9 y10
  have hD0 : Lk w B s own LB MB ol rv m (.slice p n c) bm (u.drewN nq).drew := (HL.out.below (below_drewN u _)).below (Below.refl _ _).drew
  clear hD
  go_wp2
  refine wp_region_held_drew (S := fun X => X.cell? ⟨B, 0, none⟩ = some (.int .i64 s.group) ∧ X.cell? ⟨B, 1, none⟩ = some (.int .i64 (s.id : Int)) ∧ X.cell? ⟨B, 2, none⟩ = some (.int .i64 (s.nodes : Int)) ∧ X.cell? ⟨B, 3, none⟩ = some (.map (some MB)) ∧ X.cell? ⟨bm, 0, none⟩ = some (.int .i64 m.kind) ∧ X.cell? ⟨bm, 1, none⟩ = some (.int .i64 s.group) ∧ X.cell? ⟨bm, 2, none⟩ = some (.int .i64 m.frm) ∧ X.cell? ⟨bm, 3, none⟩ = some (.int .i64 (s.id : Int)) ∧ X.cell? ⟨bm, 4, none⟩ = some (.int .i64 m.term) ∧ X.cell? ⟨bm, 5, none⟩ = some (.int .i64 m.index) ∧ X.cell? ⟨bm, 6, none⟩ = some (.int .i64 m.at_) ∧ X.cell? ⟨bm, 7, none⟩ = some (.slice p n c) ∧ X.cell? ⟨bm, 8, none⟩ = some (.int .i64 m.commit) ∧ X.cell? ⟨bm, 9, none⟩ = some (.bool m.ok) ∧ X.cell? ⟨bm, 10, none⟩ = some (.string m.data)) (by kernel_rfl) (HC.out _ hD0) (fun hH0 => ?_)
  refine take7 (i := 0) (d := 17) (v := .bool true) rfl rfl (by kernel_rfl) (by kernel_rfl) (by kernel_rfl) (fun _ _ _ h => h) (Or.inl ⟨by rfl, ?_⟩) (by assumption) ?_
  · intro X hSw
    go_simp
  simp only [Act.put, List.setIfInBounds_toArray, List.set_cons_zero, List.set_cons_succ]
  refine take7 (i := 1) (d := 18) (v := .bool true) rfl rfl (by kernel_rfl) (by kernel_rfl) (by kernel_rfl) (fun _ _ _ h => h) (Or.inl ⟨by rfl, ?_⟩) (by assumption) ?_
  · intro X hSw
    go_simp
  simp only [Act.put, List.setIfInBounds_toArray, List.set_cons_zero, List.set_cons_succ]
  refine take7 (i := 2) (d := 19) (v := .pointer (some ⟨bm, 1, none⟩)) rfl rfl (by kernel_rfl) (by kernel_rfl) (by kernel_rfl) (fun _ _ _ h => h) (Or.inl ⟨by rfl, ?_⟩) (by assumption) ?_
  · intro X hSw
    go_simp
  simp only [Act.put, List.setIfInBounds_toArray, List.set_cons_zero, List.set_cons_succ]
  refine take7 (i := 3) (d := 20) (v := .int .i64 s.group) rfl rfl (by kernel_rfl) (by kernel_rfl) (by kernel_rfl) (fun _ _ _ h => h) (Or.inl ⟨by rfl, ?_⟩) (by assumption) ?_
  · intro X hSw
    go_simp
  simp only [Act.put, List.setIfInBounds_toArray, List.set_cons_zero, List.set_cons_succ]
  refine take7 (i := 4) (d := 21) (v := .pointer (some ⟨B, 0, none⟩)) rfl rfl (by kernel_rfl) (by kernel_rfl) (by kernel_rfl) (fun _ _ _ h => h) (Or.inl ⟨by rfl, ?_⟩) (by assumption) ?_
  · intro X hSw
    go_simp
  simp only [Act.put, List.setIfInBounds_toArray, List.set_cons_zero, List.set_cons_succ]
  refine take7 (i := 5) (d := 22) (v := .pointer (some ⟨B, 0, none⟩)) rfl rfl (by kernel_rfl) (by kernel_rfl) (by kernel_rfl) (fun _ _ _ h => h) (Or.inl ⟨by rfl, ?_⟩) (by assumption) ?_
  · intro X hSw
    go_simp
  simp only [Act.put, List.setIfInBounds_toArray, List.set_cons_zero, List.set_cons_succ]
  refine take7 (i := 6) (d := 23) (v := .pointer (some ⟨B, 0, none⟩)) rfl rfl (by kernel_rfl) (by kernel_rfl) (by kernel_rfl) (fun _ _ _ h => h) (Or.inl ⟨by rfl, ?_⟩) (by assumption) ?_
  · intro X hSw
    go_simp
  simp only [Act.put, List.setIfInBounds_toArray, List.set_cons_zero, List.set_cons_succ]
  refine take7 (i := 7) (d := 24) (v := .int .i64 s.group) rfl rfl (by kernel_rfl) (by kernel_rfl) (by kernel_rfl) (fun _ _ _ h => h) (Or.inl ⟨by rfl, ?_⟩) (by assumption) ?_
  · intro X hSw
    go_simp
  simp only [Act.put, List.setIfInBounds_toArray, List.set_cons_zero, List.set_cons_succ]
  refine take7 (i := 8) (d := 25) (v := .bool true) rfl rfl (by kernel_rfl) (by kernel_rfl) (by kernel_rfl) (fun _ _ _ h => h) (Or.inl ⟨by rfl, ?_⟩) (by assumption) ?_
  · intro X hSw
    go_simp
  simp only [Act.put, List.setIfInBounds_toArray, List.set_cons_zero, List.set_cons_succ]
  refine take7 (i := 9) (d := 26) (v := .bool true) rfl rfl (by kernel_rfl) (by kernel_rfl) (by kernel_rfl) (fun _ _ _ h => h) (Or.inl ⟨by rfl, ?_⟩) (by assumption) ?_
  · intro X hSw
    go_simp
  simp only [Act.put, List.setIfInBounds_toArray, List.set_cons_zero, List.set_cons_succ]
  refine take7 (i := 10) (d := 27) (v := .bool true) rfl rfl (by kernel_rfl) (by kernel_rfl) (by kernel_rfl) (fun _ _ _ h => h) (Or.inl ⟨by rfl, ?_⟩) (by assumption) ?_
  · intro X hSw
    go_simp
  simp only [Act.put, List.setIfInBounds_toArray, List.set_cons_zero, List.set_cons_succ]
  refine take7 (i := 11) (d := 28) (v := .pointer (some ⟨bm, 3, none⟩)) rfl rfl (by kernel_rfl) (by kernel_rfl) (by kernel_rfl) (fun _ _ _ h => h) (Or.inl ⟨by rfl, ?_⟩) (by assumption) ?_
  · intro X hSw
    go_simp
  simp only [Act.put, List.setIfInBounds_toArray, List.set_cons_zero, List.set_cons_succ]
  refine take7 (i := 12) (d := 29) (v := .int .i64 ((s.id : Int))) rfl rfl (by kernel_rfl) (by kernel_rfl) (by kernel_rfl) (fun _ _ _ h => h) (Or.inl ⟨by rfl, ?_⟩) (by assumption) ?_
  · intro X hSw
    go_simp
  simp only [Act.put, List.setIfInBounds_toArray, List.set_cons_zero, List.set_cons_succ]
  refine take7 (i := 13) (d := 30) (v := .pointer (some ⟨B, 0, none⟩)) rfl rfl (by kernel_rfl) (by kernel_rfl) (by kernel_rfl) (fun _ _ _ h => h) (Or.inl ⟨by rfl, ?_⟩) (by assumption) ?_
  · intro X hSw
    go_simp
  simp only [Act.put, List.setIfInBounds_toArray, List.set_cons_zero, List.set_cons_succ]
  refine take7 (i := 14) (d := 31) (v := .pointer (some ⟨B, 0, none⟩)) rfl rfl (by kernel_rfl) (by kernel_rfl) (by kernel_rfl) (fun _ _ _ h => h) (Or.inl ⟨by rfl, ?_⟩) (by assumption) ?_
  · intro X hSw
    go_simp
  simp only [Act.put, List.setIfInBounds_toArray, List.set_cons_zero, List.set_cons_succ]
  refine take7 (i := 15) (d := 32) (v := .pointer (some ⟨B, 1, none⟩)) rfl rfl (by kernel_rfl) (by kernel_rfl) (by kernel_rfl) (fun _ _ _ h => h) (Or.inl ⟨by rfl, ?_⟩) (by assumption) ?_
  · intro X hSw
    go_simp
  simp only [Act.put, List.setIfInBounds_toArray, List.set_cons_zero, List.set_cons_succ]
  refine take7 (i := 16) (d := 33) (v := .int .i64 ((s.id : Int))) rfl rfl (by kernel_rfl) (by kernel_rfl) (by kernel_rfl) (fun _ _ _ h => h) (Or.inl ⟨by rfl, ?_⟩) (by assumption) ?_
  · intro X hSw
    go_simp
  simp only [Act.put, List.setIfInBounds_toArray, List.set_cons_zero, List.set_cons_succ]
  refine take7 (i := 17) (d := 34) (v := .bool true) rfl rfl (by kernel_rfl) (by kernel_rfl) (by kernel_rfl) (fun _ _ _ h => h) (Or.inl ⟨by rfl, ?_⟩) (by assumption) ?_
  · intro X hSw
    go_simp
  simp only [Act.put, List.setIfInBounds_toArray, List.set_cons_zero, List.set_cons_succ]
  refine take7 (i := 18) (d := 35) (v := .bool true) rfl rfl (by kernel_rfl) (by kernel_rfl) (by kernel_rfl) (fun _ _ _ h => h) (Or.inl ⟨by rfl, ?_⟩) (by assumption) ?_
  · intro X hSw
    go_simp
  simp only [Act.put, List.setIfInBounds_toArray, List.set_cons_zero, List.set_cons_succ]
  refine take7 (i := 19) (d := 36) (v := .bool true) rfl rfl (by kernel_rfl) (by kernel_rfl) (by kernel_rfl) (fun _ _ _ h => h) (Or.inl ⟨by rfl, ?_⟩) (by assumption) ?_
  · intro X hSw
    go_simp
  simp only [Act.put, List.setIfInBounds_toArray, List.set_cons_zero, List.set_cons_succ]
  refine take7 (i := 20) (d := 37) (v := .pointer (some ⟨bm, 2, none⟩)) rfl rfl (by kernel_rfl) (by kernel_rfl) (by kernel_rfl) (fun _ _ _ h => h) (Or.inl ⟨by rfl, ?_⟩) (by assumption) ?_
  · intro X hSw
    go_simp
  simp only [Act.put, List.setIfInBounds_toArray, List.set_cons_zero, List.set_cons_succ]
  refine take7 (i := 21) (d := 38) (v := .int .i64 m.frm) rfl rfl (by kernel_rfl) (by kernel_rfl) (by kernel_rfl) (fun _ _ _ h => h) (Or.inl ⟨by rfl, ?_⟩) (by assumption) ?_
  · intro X hSw
    go_simp
  simp only [Act.put, List.setIfInBounds_toArray, List.set_cons_zero, List.set_cons_succ]
  refine take7 (i := 22) (d := 39) (v := .bool true) rfl rfl (by kernel_rfl) (by kernel_rfl) (by kernel_rfl) (fun _ _ _ h => h) (Or.inl ⟨by rfl, ?_⟩) (by assumption) ?_
  · intro X hSw
    go_simp
  simp only [Act.put, List.setIfInBounds_toArray, List.set_cons_zero, List.set_cons_succ]
  refine take7 (i := 23) (d := 40) (v := .bool true) rfl rfl (by kernel_rfl) (by kernel_rfl) (by kernel_rfl) (fun _ _ _ h => h) (Or.inl ⟨by rfl, ?_⟩) (by assumption) ?_
  · intro X hSw
    go_simp
  simp only [Act.put, List.setIfInBounds_toArray, List.set_cons_zero, List.set_cons_succ]
  refine take7 (i := 24) (d := 41) (v := .bool true) rfl rfl (by kernel_rfl) (by kernel_rfl) (by kernel_rfl) (fun _ _ _ h => h) (Or.inl ⟨by rfl, ?_⟩) (by assumption) ?_
  · intro X hSw
    go_simp
  simp only [Act.put, List.setIfInBounds_toArray, List.set_cons_zero, List.set_cons_succ]
  refine take7 (i := 25) (d := 42) (v := .pointer (some ⟨bm, 2, none⟩)) rfl rfl (by kernel_rfl) (by kernel_rfl) (by kernel_rfl) (fun _ _ _ h => h) (Or.inl ⟨by rfl, ?_⟩) (by assumption) ?_
  · intro X hSw
    go_simp
  simp only [Act.put, List.setIfInBounds_toArray, List.set_cons_zero, List.set_cons_succ]
  refine take7 (i := 26) (d := 43) (v := .int .i64 m.frm) rfl rfl (by kernel_rfl) (by kernel_rfl) (by kernel_rfl) (fun _ _ _ h => h) (Or.inl ⟨by rfl, ?_⟩) (by assumption) ?_
  · intro X hSw
    go_simp
  simp only [Act.put, List.setIfInBounds_toArray, List.set_cons_zero, List.set_cons_succ]
  refine take7 (i := 27) (d := 44) (v := .pointer (some ⟨B, 0, none⟩)) rfl rfl (by kernel_rfl) (by kernel_rfl) (by kernel_rfl) (fun _ _ _ h => h) (Or.inl ⟨by rfl, ?_⟩) (by assumption) ?_
  · intro X hSw
    go_simp
  simp only [Act.put, List.setIfInBounds_toArray, List.set_cons_zero, List.set_cons_succ]
  refine take7 (i := 28) (d := 45) (v := .pointer (some ⟨B, 0, none⟩)) rfl rfl (by kernel_rfl) (by kernel_rfl) (by kernel_rfl) (fun _ _ _ h => h) (Or.inl ⟨by rfl, ?_⟩) (by assumption) ?_
  · intro X hSw
    go_simp
  simp only [Act.put, List.setIfInBounds_toArray, List.set_cons_zero, List.set_cons_succ]
  refine take7 (i := 29) (d := 46) (v := .pointer (some ⟨B, 2, none⟩)) rfl rfl (by kernel_rfl) (by kernel_rfl) (by kernel_rfl) (fun _ _ _ h => h) (Or.inl ⟨by rfl, ?_⟩) (by assumption) ?_
  · intro X hSw
    go_simp
  simp only [Act.put, List.setIfInBounds_toArray, List.set_cons_zero, List.set_cons_succ]
  refine take7 (i := 30) (d := 47) (v := .int .i64 ((s.nodes : Int))) rfl rfl (by kernel_rfl) (by kernel_rfl) (by kernel_rfl) (fun _ _ _ h => h) (Or.inl ⟨by rfl, ?_⟩) (by assumption) ?_
  · intro X hSw
    go_simp
  simp only [Act.put, List.setIfInBounds_toArray, List.set_cons_zero, List.set_cons_succ]
  refine take7 (i := 31) (d := 48) (v := .bool true) rfl rfl (by kernel_rfl) (by kernel_rfl) (by kernel_rfl) (fun _ _ _ h => h) (Or.inl ⟨by rfl, ?_⟩) (by assumption) ?_
  · intro X hSw
    go_simp
  simp only [Act.put, List.setIfInBounds_toArray, List.set_cons_zero, List.set_cons_succ]
  refine take7 (i := 32) (d := 49) (v := .bool true) rfl rfl (by kernel_rfl) (by kernel_rfl) (by kernel_rfl) (fun _ _ _ h => h) (Or.inl ⟨by rfl, ?_⟩) (by assumption) ?_
  · intro X hSw
    go_simp
  simp only [Act.put, List.setIfInBounds_toArray, List.set_cons_zero, List.set_cons_succ]
  refine take7 (i := 33) (d := 50) (v := .bool true) rfl rfl (by kernel_rfl) (by kernel_rfl) (by kernel_rfl) (fun _ _ _ h => h) (Or.inl ⟨by rfl, ?_⟩) (by assumption) ?_
  · intro X hSw
    go_simp
  simp only [Act.put, List.setIfInBounds_toArray, List.set_cons_zero, List.set_cons_succ]
  refine take7 (i := 34) (d := 51) (v := .pointer (some ⟨bm, 2, none⟩)) rfl rfl (by kernel_rfl) (by kernel_rfl) (by kernel_rfl) (fun _ _ _ h => h) (Or.inl ⟨by rfl, ?_⟩) (by assumption) ?_
  · intro X hSw
    go_simp
  simp only [Act.put, List.setIfInBounds_toArray, List.set_cons_zero, List.set_cons_succ]
  refine take7 (i := 35) (d := 52) (v := .int .i64 m.frm) rfl rfl (by kernel_rfl) (by kernel_rfl) (by kernel_rfl) (fun _ _ _ h => h) (Or.inl ⟨by rfl, ?_⟩) (by assumption) ?_
  · intro X hSw
    go_simp
  simp only [Act.put, List.setIfInBounds_toArray, List.set_cons_zero, List.set_cons_succ]
  refine take7 (i := 36) (d := 53) (v := .pointer (some ⟨B, 0, none⟩)) rfl rfl (by kernel_rfl) (by kernel_rfl) (by kernel_rfl) (fun _ _ _ h => h) (Or.inl ⟨by rfl, ?_⟩) (by assumption) ?_
  · intro X hSw
    go_simp
  simp only [Act.put, List.setIfInBounds_toArray, List.set_cons_zero, List.set_cons_succ]
  refine take7 (i := 37) (d := 54) (v := .pointer (some ⟨B, 0, none⟩)) rfl rfl (by kernel_rfl) (by kernel_rfl) (by kernel_rfl) (fun _ _ _ h => h) (Or.inl ⟨by rfl, ?_⟩) (by assumption) ?_
  · intro X hSw
    go_simp
  simp only [Act.put, List.setIfInBounds_toArray, List.set_cons_zero, List.set_cons_succ]
  refine take7 (i := 38) (d := 55) (v := .pointer (some ⟨B, 1, none⟩)) rfl rfl (by kernel_rfl) (by kernel_rfl) (by kernel_rfl) (fun _ _ _ h => h) (Or.inl ⟨by rfl, ?_⟩) (by assumption) ?_
  · intro X hSw
    go_simp
  simp only [Act.put, List.setIfInBounds_toArray, List.set_cons_zero, List.set_cons_succ]
  refine take7 (i := 39) (d := 56) (v := .int .i64 ((s.id : Int))) rfl rfl (by kernel_rfl) (by kernel_rfl) (by kernel_rfl) (fun _ _ _ h => h) (Or.inl ⟨by rfl, ?_⟩) (by assumption) ?_
  · intro X hSw
    go_simp
  simp only [Act.put, List.setIfInBounds_toArray, List.set_cons_zero, List.set_cons_succ]
  refine take7 (i := 40) (d := 57) (v := .bool true) rfl rfl (by kernel_rfl) (by kernel_rfl) (by kernel_rfl) (fun _ _ _ h => h) (Or.inl ⟨by rfl, ?_⟩) (by assumption) ?_
  · intro X hSw
    go_simp
  simp only [Act.put, List.setIfInBounds_toArray, List.set_cons_zero, List.set_cons_succ]
  refine take7 (i := 41) (d := 58) (v := .bool true) rfl rfl (by kernel_rfl) (by kernel_rfl) (by kernel_rfl) (fun _ _ _ h => h) (Or.inl ⟨by rfl, ?_⟩) (by assumption) ?_
  · intro X hSw
    go_simp
  simp only [Act.put, List.setIfInBounds_toArray, List.set_cons_zero, List.set_cons_succ]
  refine take7 (i := 42) (d := 59) (v := .bool true) rfl rfl (by kernel_rfl) (by kernel_rfl) (by kernel_rfl) (fun _ _ _ h => h) (Or.inl ⟨by rfl, ?_⟩) (by assumption) ?_
  · intro X hSw
    go_simp
  simp only [Act.put, List.setIfInBounds_toArray, List.set_cons_zero, List.set_cons_succ]
  refine take7 (i := 43) (d := 60) (v := .pointer (some ⟨bm, 4, none⟩)) rfl rfl (by kernel_rfl) (by kernel_rfl) (by kernel_rfl) (fun _ _ _ h => h) (Or.inl ⟨by rfl, ?_⟩) (by assumption) ?_
  · intro X hSw
    go_simp
  simp only [Act.put, List.setIfInBounds_toArray, List.set_cons_zero, List.set_cons_succ]
  refine take7 (i := 44) (d := 61) (v := .int .i64 m.term) rfl rfl (by kernel_rfl) (by kernel_rfl) (by kernel_rfl) (fun _ _ _ h => h) (Or.inl ⟨by rfl, ?_⟩) (by assumption) ?_
  · intro X hSw
    go_simp
  simp only [Act.put, List.setIfInBounds_toArray, List.set_cons_zero, List.set_cons_succ]
  refine take7 (i := 45) (d := 62) (v := .bool true) rfl rfl (by kernel_rfl) (by kernel_rfl) (by kernel_rfl) (fun _ _ _ h => h) (Or.inl ⟨by rfl, ?_⟩) (by assumption) ?_
  · intro X hSw
    go_simp
  simp only [Act.put, List.setIfInBounds_toArray, List.set_cons_zero, List.set_cons_succ]
  refine take7 (i := 46) (d := 63) (v := .bool true) rfl rfl (by kernel_rfl) (by kernel_rfl) (by kernel_rfl) (fun _ _ _ h => h) (Or.inl ⟨by rfl, ?_⟩) (by assumption) ?_
  · intro X hSw
    go_simp
  simp only [Act.put, List.setIfInBounds_toArray, List.set_cons_zero, List.set_cons_succ]
  refine take7 (i := 47) (d := 64) (v := .bool true) rfl rfl (by kernel_rfl) (by kernel_rfl) (by kernel_rfl) (fun _ _ _ h => h) (Or.inl ⟨by rfl, ?_⟩) (by assumption) ?_
  · intro X hSw
    go_simp
  simp only [Act.put, List.setIfInBounds_toArray, List.set_cons_zero, List.set_cons_succ]
  refine take7 (i := 48) (d := 65) (v := .pointer (some ⟨bm, 4, none⟩)) rfl rfl (by kernel_rfl) (by kernel_rfl) (by kernel_rfl) (fun _ _ _ h => h) (Or.inl ⟨by rfl, ?_⟩) (by assumption) ?_
  · intro X hSw
    go_simp
  simp only [Act.put, List.setIfInBounds_toArray, List.set_cons_zero, List.set_cons_succ]
  refine take7 (i := 49) (d := 66) (v := .int .i64 m.term) rfl rfl (by kernel_rfl) (by kernel_rfl) (by kernel_rfl) (fun _ _ _ h => h) (Or.inl ⟨by rfl, ?_⟩) (by assumption) ?_
  · intro X hSw
    go_simp
  simp only [Act.put, List.setIfInBounds_toArray, List.set_cons_zero, List.set_cons_succ]
  refine wpAnyH_ready (rs := [50]) (by kernel_rfl) (by simp) ?_
  refine AllReadyH.cons rfl (fun K hK => ?_) AllReadyH.nil
  go_simp
  go_wp2_with fail
  refine Calls.mono (HX.out _ (by simp) _) ?_
  rintro e w1 ⟨rfl, hw⟩
  subst hw
  have hD1 := hD0
  go_wp2
  refine hK.out _ _ (HC.out _ hD1) (fun hH1 => ?_)
  clear hK K hH0 hD0
  refine take7 (i := 51) (d := 68) (v := .bool true) rfl rfl (by kernel_rfl) (by kernel_rfl) (by kernel_rfl) (fun _ _ _ h => h) (Or.inl ⟨by rfl, ?_⟩) (by assumption) ?_
  · intro X hSw
    go_simp
  simp only [Act.put, List.setIfInBounds_toArray, List.set_cons_zero, List.set_cons_succ]
  refine take7 (i := 52) (d := 69) (v := .bool true) rfl rfl (by kernel_rfl) (by kernel_rfl) (by kernel_rfl) (fun _ _ _ h => h) (Or.inl ⟨by rfl, ?_⟩) (by assumption) ?_
  · intro X hSw
    go_simp
  simp only [Act.put, List.setIfInBounds_toArray, List.set_cons_zero, List.set_cons_succ]
  refine take7 (i := 53) (d := 70) (v := .pointer (some ⟨bm, 5, none⟩)) rfl rfl (by kernel_rfl) (by kernel_rfl) (by kernel_rfl) (fun _ _ _ h => h) (Or.inl ⟨by rfl, ?_⟩) (by assumption) ?_
  · intro X hSw
    go_simp
  simp only [Act.put, List.setIfInBounds_toArray, List.set_cons_zero, List.set_cons_succ]
  refine take7 (i := 54) (d := 71) (v := .int .i64 m.index) rfl rfl (by kernel_rfl) (by kernel_rfl) (by kernel_rfl) (fun _ _ _ h => h) (Or.inl ⟨by rfl, ?_⟩) (by assumption) ?_
  · intro X hSw
    go_simp
  simp only [Act.put, List.setIfInBounds_toArray, List.set_cons_zero, List.set_cons_succ]
  refine wpAnyH_ready (rs := [55]) (by kernel_rfl) (by simp) ?_
  refine AllReadyH.cons rfl (fun K hK => ?_) AllReadyH.nil
  go_simp
  go_wp2_with fail
  refine Calls.mono (HX.out _ (by simp) _) ?_
  rintro e w2 ⟨rfl, hw⟩
  subst hw
  have hD2 := hD1
  go_wp2
  refine hK.out _ _ (HC.out _ hD2) (fun hH2 => ?_)
  clear hK K hH1 hD1
  refine take7 (i := 56) (d := 73) (v := .bool true) rfl rfl (by kernel_rfl) (by kernel_rfl) (by kernel_rfl) (fun _ _ _ h => h) (Or.inl ⟨by rfl, ?_⟩) (by assumption) ?_
  · intro X hSw
    go_simp
  simp only [Act.put, List.setIfInBounds_toArray, List.set_cons_zero, List.set_cons_succ]
  refine take7 (i := 57) (d := 74) (v := .bool true) rfl rfl (by kernel_rfl) (by kernel_rfl) (by kernel_rfl) (fun _ _ _ h => h) (Or.inl ⟨by rfl, ?_⟩) (by assumption) ?_
  · intro X hSw
    go_simp
  simp only [Act.put, List.setIfInBounds_toArray, List.set_cons_zero, List.set_cons_succ]
  refine take7 (i := 58) (d := 75) (v := .pointer (some ⟨bm, 6, none⟩)) rfl rfl (by kernel_rfl) (by kernel_rfl) (by kernel_rfl) (fun _ _ _ h => h) (Or.inl ⟨by rfl, ?_⟩) (by assumption) ?_
  · intro X hSw
    go_simp
  simp only [Act.put, List.setIfInBounds_toArray, List.set_cons_zero, List.set_cons_succ]
  refine take7 (i := 59) (d := 76) (v := .int .i64 m.at_) rfl rfl (by kernel_rfl) (by kernel_rfl) (by kernel_rfl) (fun _ _ _ h => h) (Or.inl ⟨by rfl, ?_⟩) (by assumption) ?_
  · intro X hSw
    go_simp
  simp only [Act.put, List.setIfInBounds_toArray, List.set_cons_zero, List.set_cons_succ]
  refine wpAnyH_ready (rs := [60]) (by kernel_rfl) (by simp) ?_
  refine AllReadyH.cons rfl (fun K hK => ?_) AllReadyH.nil
  go_simp
  go_wp2_with fail
  refine Calls.mono (HX.out _ (by simp) _) ?_
  rintro e w3 ⟨rfl, hw⟩
  subst hw
  have hD3 := hD2
  go_wp2
  refine hK.out _ _ (HC.out _ hD3) (fun hH3 => ?_)
  clear hK K hH2 hD2
  refine take7 (i := 61) (d := 78) (v := .bool true) rfl rfl (by kernel_rfl) (by kernel_rfl) (by kernel_rfl) (fun _ _ _ h => h) (Or.inl ⟨by rfl, ?_⟩) (by assumption) ?_
  · intro X hSw
    go_simp
  simp only [Act.put, List.setIfInBounds_toArray, List.set_cons_zero, List.set_cons_succ]
  refine take7 (i := 62) (d := 79) (v := .bool true) rfl rfl (by kernel_rfl) (by kernel_rfl) (by kernel_rfl) (fun _ _ _ h => h) (Or.inl ⟨by rfl, ?_⟩) (by assumption) ?_
  · intro X hSw
    go_simp
  simp only [Act.put, List.setIfInBounds_toArray, List.set_cons_zero, List.set_cons_succ]
  refine take7 (i := 63) (d := 80) (v := .pointer (some ⟨bm, 8, none⟩)) rfl rfl (by kernel_rfl) (by kernel_rfl) (by kernel_rfl) (fun _ _ _ h => h) (Or.inl ⟨by rfl, ?_⟩) (by assumption) ?_
  · intro X hSw
    go_simp
  simp only [Act.put, List.setIfInBounds_toArray, List.set_cons_zero, List.set_cons_succ]
  refine take7 (i := 64) (d := 81) (v := .int .i64 m.commit) rfl rfl (by kernel_rfl) (by kernel_rfl) (by kernel_rfl) (fun _ _ _ h => h) (Or.inl ⟨by rfl, ?_⟩) (by assumption) ?_
  · intro X hSw
    go_simp
  simp only [Act.put, List.setIfInBounds_toArray, List.set_cons_zero, List.set_cons_succ]
  refine wpAnyH_ready (rs := [65]) (by kernel_rfl) (by simp) ?_
  refine AllReadyH.cons rfl (fun K hK => ?_) AllReadyH.nil
  go_simp
  go_wp2_with fail
  refine Calls.mono (HX.out _ (by simp) _) ?_
  rintro e w4 ⟨rfl, hw⟩
  subst hw
  have hD4 := hD3
  go_wp2
  refine hK.out _ _ (HC.out _ hD4) (fun hH4 => ?_)
  clear hK K hH3 hD3
  refine take7 (i := 66) (d := 83) (v := .bool true) rfl rfl (by kernel_rfl) (by kernel_rfl) (by kernel_rfl) (fun _ _ _ h => h) (Or.inl ⟨by rfl, ?_⟩) (by assumption) ?_
  · intro X hSw
    go_simp
  simp only [Act.put, List.setIfInBounds_toArray, List.set_cons_zero, List.set_cons_succ]
  refine take7 (i := 67) (d := 84) (v := .bool true) rfl rfl (by kernel_rfl) (by kernel_rfl) (by kernel_rfl) (fun _ _ _ h => h) (Or.inl ⟨by rfl, ?_⟩) (by assumption) ?_
  · intro X hSw
    go_simp
  simp only [Act.put, List.setIfInBounds_toArray, List.set_cons_zero, List.set_cons_succ]
  refine take7 (i := 68) (d := 85) (v := .agg #[.int .i64 m.kind, .int .i64 s.group, .int .i64 m.frm, .int .i64 (s.id : Int), .int .i64 m.term, .int .i64 m.index, .int .i64 m.at_, .slice p n c, .int .i64 m.commit, .bool m.ok, .string m.data]) rfl rfl (by kernel_rfl) (by kernel_rfl) (by kernel_rfl) (fun _ _ _ h => h) (Or.inl ⟨by rfl, ?_⟩) (by assumption) ?_
  · intro X hSw
    go_simp
  simp only [Act.put, List.setIfInBounds_toArray, List.set_cons_zero, List.set_cons_succ]
  refine wpAnyH_ready (rs := [69]) (by kernel_rfl) (by simp) ?_
  refine AllReadyH.cons rfl (fun K hK => ?_) AllReadyH.nil
  go_simp
  go_wp2_with fail
  refine Calls.mono (HME.out _ hD4) ?_
  rintro e w5 ⟨rfl, hD5⟩
  go_wp2
  refine hK.out _ _ (HC.out _ hD5) (fun hH5 => ?_)
  clear hK K hH4 hD4
  refine take7 (i := 70) (d := 87) (v := .bool true) rfl rfl (by kernel_rfl) (by kernel_rfl) (by kernel_rfl) (fun _ _ _ h => h) (Or.inl ⟨by rfl, ?_⟩) (by assumption) ?_
  · intro X hSw
    go_simp
  simp only [Act.put, List.setIfInBounds_toArray, List.set_cons_zero, List.set_cons_succ]
  refine take7 (i := 71) (d := 88) (v := .bool true) rfl rfl (by kernel_rfl) (by kernel_rfl) (by kernel_rfl) (fun _ _ _ h => h) (Or.inl ⟨by rfl, ?_⟩) (by assumption) ?_
  · intro X hSw
    go_simp
  simp only [Act.put, List.setIfInBounds_toArray, List.set_cons_zero, List.set_cons_succ]
  refine take7 (i := 72) (d := 89) (v := .pointer (some ⟨bm, 10, none⟩)) rfl rfl (by kernel_rfl) (by kernel_rfl) (by kernel_rfl) (fun _ _ _ h => h) (Or.inl ⟨by rfl, ?_⟩) (by assumption) ?_
  · intro X hSw
    go_simp
  simp only [Act.put, List.setIfInBounds_toArray, List.set_cons_zero, List.set_cons_succ]
  refine take7 (i := 73) (d := 90) (v := .string m.data) rfl rfl (by kernel_rfl) (by kernel_rfl) (by kernel_rfl) (fun _ _ _ h => h) (Or.inl ⟨by rfl, ?_⟩) (by assumption) ?_
  · intro X hSw
    go_simp
  simp only [Act.put, List.setIfInBounds_toArray, List.set_cons_zero, List.set_cons_succ]
  refine take7 (i := 74) (d := 91) (v := .int .i64 ((m.data.size : Int))) rfl rfl (by kernel_rfl) (by kernel_rfl) (by kernel_rfl) (fun _ _ _ h => h) (Or.inl ⟨by rfl, ?_⟩) (by assumption) ?_
  · intro X hSw
    go_simp
  simp only [Act.put, List.setIfInBounds_toArray, List.set_cons_zero, List.set_cons_succ]
  refine take7 (i := 75) (d := 92) (v := .bool true) rfl rfl (by kernel_rfl) (by kernel_rfl) (by kernel_rfl) (fun _ _ _ h => h) (Or.inl ⟨by rfl, ?_⟩) (by assumption) ?_
  · intro X hSw
    go_simp
  simp only [Act.put, List.setIfInBounds_toArray, List.set_cons_zero, List.set_cons_succ]
  refine take7 (i := 76) (d := 93) (v := .bool true) rfl rfl (by kernel_rfl) (by kernel_rfl) (by kernel_rfl) (fun _ _ _ h => h) (Or.inl ⟨by rfl, ?_⟩) (by assumption) ?_
  · intro X hSw
    go_simp
  simp only [Act.put, List.setIfInBounds_toArray, List.set_cons_zero, List.set_cons_succ]
  refine take7 (i := 77) (d := 4) (v := .bool true) rfl rfl (by kernel_rfl) (by kernel_rfl) (by kernel_rfl) (fun _ _ _ h => h) (Or.inl ⟨by rfl, ?_⟩) (by assumption) ?_
  · intro X hSw
    go_simp
  simp only [Act.put, List.setIfInBounds_toArray, List.set_cons_zero, List.set_cons_succ]
  refine wpAnyH_done (by kernel_rfl) ?_ _
  clear hH5
  go_wp2
  go_ret
  exact ⟨rfl, hD5.old⟩

end
end Go.Proofs.Yteaopnhjndnpnaa
