/-
  A channel's members, and how many posts it has; two lists of texts held against one another.
-/
import Derived.Test.YtkioeahlajjmiaaMoUpd
import Derived.Test.YtkioeahlajjmiaaMoSort
namespace Go.Proofs.Ytkioeahlajjmiaa
open Go.RowKit Go.Sort

/-- The slice v holds these texts. -/
def StrV (w : World) (v : Value) (l : List ByteArray) : Prop := ∃ p c, v = .slice p l.length c ∧ l.length ≤ c ∧ c ≤ maxLen ∧ (l = [] ∨ ∃ g off, p = some ⟨g, off, none⟩ ∧ ∀ j x, l[j]? = some x → w.cell? ⟨g, off + j, none⟩ = some (.string x))
theorem StrV.below {w W : World} {v : Value} {l : List ByteArray} (h : StrV w v l) (hb : Below w.heap.size w W) : StrV W v l := by
  obtain ⟨p, c, h1, h2, h3, h4 | ⟨g, off, h5, h6⟩⟩ := h
  · exact ⟨p, c, h1, h2, h3, .inl h4⟩
  · exact ⟨p, c, h1, h2, h3, .inr ⟨g, off, h5, fun j x hx => (hb.cell (p := ⟨g, off + j, none⟩) (World.block_lt_of_cell? _ _ (h6 j x hx))).trans (h6 j x hx)⟩⟩

/-- Rising. -/
def risen (T : List ByteArray) : List ByteArray := ((T.map (·.data.toList)).mergeSort (fun x y => decide (x ≤ y))).map (fun l => ⟨l.toArray⟩)

theorem back (a : ByteArray) : (⟨a.data.toList.toArray⟩ : ByteArray) = a := by cases a; simp
theorem strv_of {w : World} {base n : Nat} {e : TypeId} {v : Value} {ls : List (List UInt8)} (h : w.ownsRow base e 1 v n (ls.map encStr)) (hn : n = ls.length) : StrV w v (ls.map fun l => ⟨l.toArray⟩) := by
  subst hn
  have h0 := h
  obtain ⟨h1, h2 | ⟨g, cap, cur, hv, _, _, q1, q2, _, _⟩⟩ := h
  · have hl : ls = [] := List.eq_nil_of_length_eq_zero h2.2
    subst hl
    exact ⟨none, 0, by rw [h2.1]; rfl, Nat.le_refl _, by unfold maxLen; omega, .inl rfl⟩
  · subst hv
    refine ⟨_, cap, by rw [List.length_map], by rw [List.length_map]; exact q1, q2, .inr ⟨g, 0, rfl, fun j x hx => ?_⟩⟩
    have hj := (List.getElem?_eq_some_iff.1 hx).1
    rw [List.length_map] at hj
    rw [Nat.zero_add, h0.cellAt j (by omega), List.getElem?_map]
    rw [List.getElem?_map] at hx
    obtain ⟨y, hy, rfl⟩ := Option.map_eq_some_iff.1 hx
    rw [hy]
    rfl

/-- What a set's names are. -/
theorem keys_perm {w : World} {b n : Nat} {D : DataW Unit} {g : ByteArray → Bool} (hown : w.ownsMap Try.prog 9 unitElem b n D) (hat : ∀ x, Ok x → Maps.has D (sl x) = g x) {T : List ByteArray} (hnd : T.Nodup) (hT : ∀ a, a ∈ T ↔ (Ok a ∧ g a = true)) :
    (T.map (·.data.toList)).Perm (strKeys D) := by
  obtain ⟨es, rfl, hap, _⟩ := hown.entries stKeyed
  have hks : ∀ p ∈ es, ∃ x : ByteArray, p.1 = sl x ∧ Ok x := by
    obtain ⟨es', clock, _, F, _, hD⟩ := hown
    injection hD with hD
    intro p hp
    rw [hD] at hp
    have hp := mem_sorted.1 hp
    obtain ⟨x, hx, rfl⟩ := List.mem_map.1 hp
    obtain ⟨y, hy⟩ := F.reads x hx
    have hk := WideElems.rd_key hy
    obtain ⟨a, _, ha, hl⟩ := sl_inv hk
    exact ⟨a, by rw [WideElems.rg_of hy]; exact hl, ha⟩
  refine (List.perm_ext_iff_of_nodup ?_ ?_).2 (fun l => ?_)
  · rw [List.nodup_iff_pairwise_ne, List.pairwise_map]
    refine List.Pairwise.imp_of_mem ?_ (List.nodup_iff_pairwise_ne.1 hnd)
    intro a b _ _ hab e
    exact hab (sl_inj (by unfold sl; rw [e]))
  · show (es.map fun p => strOf p.1).Nodup
    rw [List.nodup_iff_pairwise_ne, List.pairwise_map]
    refine List.Pairwise.imp_of_mem ?_ hap
    intro a b ha hb hab e
    obtain ⟨x, hx, _⟩ := hks a ha
    obtain ⟨y, hy, _⟩ := hks b hb
    rw [hx, hy] at e
    have e : x.data.toList = y.data.toList := e
    exact hab (by rw [hx, hy]; unfold sl; rw [e])
  · have hin : ∀ a : ByteArray, Ok a → (a.data.toList ∈ strKeys (.map es : DataW Unit) ↔ g a = true) := fun a ha => by
      rw [← hat a ha, Maps.has_eq, List.any_eq_true]
      constructor
      · intro h
        obtain ⟨p, hp, e⟩ := List.mem_map.1 h
        obtain ⟨x, hx, _⟩ := hks p hp
        rw [hx] at e
        have e : x.data.toList = a.data.toList := e
        exact ⟨p, hp, by rw [hx, show sl x = sl a by unfold sl; rw [e]]; exact WideAt.sameKey_self (sl_key a)⟩
      · rintro ⟨p, hp, e⟩
        obtain ⟨x, hx, _⟩ := hks p hp
        by_cases q : x = a
        · exact List.mem_map.2 ⟨p, hp, by rw [hx, q]; rfl⟩
        · rw [hx, sl_same q] at e
          cases e
    constructor
    · intro h
      obtain ⟨a, ha, rfl⟩ := List.mem_map.1 h
      exact (hin a ((hT a).1 ha).1).2 ((hT a).1 ha).2
    · intro h
      have h' := h
      obtain ⟨p, hp, rfl⟩ := List.mem_map.1 h'
      obtain ⟨x, hx, hox⟩ := hks p hp
      rw [hx] at h ⊢
      exact List.mem_map.2 ⟨x, (hT x).2 ⟨hox, (hin x hox).1 h⟩, rfl⟩

section
variable {w W : World} {B : Nat} {s : Mo.St} {who : Nat → Nat} {n bc bo : Nat} {f : ByteArray → ByteArray → Option Nat} {cs : Nat → Mo.Ch}

set_option maxHeartbeats 800000 in
theorem Members_c (h : MdV w B s who n bc bo f cs) (hn : n < 1099511627776) {x y : ByteArray} {k : Nat} (hx : Ok x) (hy : Ok y) (hf : f x y = some k) {T : List ByteArray} (hnd : T.Nodup) (hT : ∀ a, a ∈ T ↔ (Ok a ∧ (cs k).mem a = true)) :
    Calls Try.prog 12 #[.pointer (some ⟨B, 0, none⟩), .string x, .string y] w fun e w' => ∃ p m c, e = .returned (.tuple #[.slice p m c, .int .i64 0]) ∧ StrV w' (.slice p m c) (risen T) ∧ (∀ a, p = some a → w.heap.size ≤ a.block) ∧ Below w.heap.size w w' := by
  have HFi : Hid _ := find_some h hx hy hf
  obtain ⟨bm, v, hc, w4, wm, wr⟩ := h.one _ _ k hf
  have hc0 := hc.c0
  obtain ⟨D, hown, hat⟩ := hc.mem
  have hsz := hown.size_le
  have HK : Hid _ := keys_c (some bm) w
  have HS : Hid _ := sorted_c bm n D unitElem w hown (by unfold maxLen; omega) (by omega)
  have HP : Hid ((T.map (·.data.toList)).Perm (strKeys D)) := keys_perm hown hat hnd hT
  clear h hn hx hy hf hnd hT hc w4 wm wr hown hat hsz
  go_enter Try.func12, Try.ntmps12
  go_wp2_with fail
  refine Calls.mono HFi.out ?_
  rintro e w1 ⟨rfl, hw1⟩
  have hw1 := hw1.symm
  subst hw1
  go_wp2_with fail
  refine Calls.mono HK.out ?_
  rintro e w2 ⟨rfl, hw2⟩
  subst hw2
  go_wp2_with fail
  refine Calls.mono HS.out ?_
  rintro e w3 ⟨v3, ss, rfl, hS, hrow, _, hb⟩
  have hnw : ∀ p m c, v3 = .slice p m c → ∀ a, p = some a → w.heap.size ≤ a.block := fun p m c hv a ha => by
    obtain ⟨_, q | ⟨g, cap, cur, hv', hg, _⟩⟩ := hrow
    · rw [q.1] at hv
      injection hv with hv
      rw [← hv] at ha
      cases ha
    · rw [hv'] at hv
      injection hv with hv
      rw [← hv] at ha
      injection ha with ha
      rw [← ha]
      exact hg
  have hst : StrV w3 v3 (risen T) := by
    have e1 : ss.mergeSort (fun x y => decide (x ≤ y)) = (T.map (·.data.toList)).mergeSort (fun x y => decide (x ≤ y)) := mergeSort_of_perm (hS.trans HP.out.symm)
    rw [e1] at hrow
    exact strv_of hrow (by rw [List.length_mergeSort]; exact (hS.trans HP.out.symm).length_eq)
  have HSt : Hid (StrV w3 v3 (risen T) ∧ (∀ p m c, v3 = .slice p m c → ∀ a, p = some a → w.heap.size ≤ a.block) ∧ Below w.heap.size w w3) := ⟨hst, hnw, hb⟩
  obtain ⟨p3, c3, hv3, _⟩ := hst
  subst hv3
  clear hS hrow hb hnw
  go_wp2
  go_ret2
  exact ⟨_, _, _, rfl, HSt.out.1, HSt.out.2.1 _ _ _ rfl, HSt.out.2.2⟩

theorem Members_none (h : MdV w B s who n bc bo f cs) {x y : ByteArray} (hx : Ok x) (hy : Ok y) (hf : f x y = none) :
    Calls Try.prog 12 #[.pointer (some ⟨B, 0, none⟩), .string x, .string y] w fun e w' => e = .returned (.tuple #[.slice none 0 0, .int .i64 3]) ∧ w' = w := by
  have HFi : Hid _ := find_none h hx hy hf
  clear h hx hy hf
  go_enter Try.func12, Try.ntmps12
  go_wp2_with fail
  refine Calls.mono HFi.out ?_
  rintro e w1 ⟨rfl, rfl⟩
  go_wp2
  go_ret2
  exact ⟨rfl, rfl⟩

theorem Len_c (h : MdV w B s who n bc bo f cs) {x y : ByteArray} {k : Nat} (hx : Ok x) (hy : Ok y) (hf : f x y = some k) :
    Calls Try.prog 17 #[.pointer (some ⟨B, 0, none⟩), .string x, .string y] w fun e w' => e = .returned (.tuple #[.int .i64 ((cs k).posts.length : Int), .int .i64 0]) ∧ w' = w := by
  have HFi : Hid _ := find_some h hx hy hf
  obtain ⟨bm, v, hc, w4, wm, wr⟩ := h.one _ _ k hf
  have hc1 := hc.c1
  obtain ⟨p, c, hv, _, _⟩ := hc.row.form
  subst hv
  clear h hx hy hf hc w4 wm wr
  go_enter Try.func17, Try.ntmps17
  go_wp2_with fail
  refine Calls.mono HFi.out ?_
  rintro e w1 ⟨rfl, hw1⟩
  have hw1 := hw1.symm
  subst hw1
  go_wp2
  go_ret2
  exact ⟨rfl, rfl⟩
theorem Len_none (h : MdV w B s who n bc bo f cs) {x y : ByteArray} (hx : Ok x) (hy : Ok y) (hf : f x y = none) :
    Calls Try.prog 17 #[.pointer (some ⟨B, 0, none⟩), .string x, .string y] w fun e w' => e = .returned (.tuple #[.int .i64 0, .int .i64 3]) ∧ w' = w := by
  have HFi : Hid _ := find_none h hx hy hf
  clear h hx hy hf
  go_enter Try.func17, Try.ntmps17
  go_wp2_with fail
  refine Calls.mono HFi.out ?_
  rintro e w1 ⟨rfl, rfl⟩
  go_wp2
  go_ret2
  exact ⟨rfl, rfl⟩
end

set_option maxHeartbeats 800000 in
set_option maxRecDepth 20000 in
theorem sameTexts_c {w : World} {u v : Value} {l : List ByteArray} (hu : StrV w u l) (hv : StrV w v l) : Calls Try.prog 14 #[u, v] w fun e w' => e = .returned (.bool true) ∧ Below w.heap.size w w' := by
  obtain ⟨p, c, rfl, q1, q2, q3⟩ := hu
  obtain ⟨p', c', rfl, r1, r2, r3⟩ := hv
  obtain ⟨m, hm⟩ : ∃ m, m = l.length := ⟨_, rfl⟩
  have HX : Hid (∀ k, k < m → ∃ x g off g' off', p = some ⟨g, off, none⟩ ∧ p' = some ⟨g', off', none⟩ ∧ ∀ X, Below w.heap.size w X → X.cell? ⟨g, off + k, none⟩ = some (.string x) ∧ X.cell? ⟨g', off' + k, none⟩ = some (.string x)) := fun k hk => by
    have hl : l ≠ [] := fun e => by rw [e] at hm; simp at hm; omega
    rcases q3 with q3 | ⟨g, off, hp, hc⟩
    · exact absurd q3 hl
    rcases r3 with r3 | ⟨g', off', hp', hc'⟩
    · exact absurd r3 hl
    have a1 := hc k _ (List.getElem?_eq_getElem (by omega))
    have a2 := hc' k _ (List.getElem?_eq_getElem (by omega))
    exact ⟨_, g, off, g', off', hp, hp', fun X hX => ⟨(hX.cell (p := ⟨g, off + k, none⟩) (World.block_lt_of_cell? _ _ a1)).trans a1, (hX.cell (p := ⟨g', off' + k, none⟩) (World.block_lt_of_cell? _ _ a2)).trans a2⟩⟩
  rw [← hm] at q1 r1 ⊢
  unfold maxLen at q2 r2
  clear q3 r3 hm
  go_enter Try.func14, Try.ntmps14
  go_wp2
  go_loopw [5] (fun iv wr => ∃ k : Nat, iv = .int .i64 (k : Int) ∧ k ≤ m ∧ Hid (Below w.heap.size w wr)) (fun iv _ => m - (intOf iv).toNat)
  case atStart => exact ⟨0, rfl, Nat.zero_le _, Below.refl _ _⟩
  case round =>
    obtain ⟨k, rfl, hk, HB⟩ := hrel
    by_cases hlt : k < m
    · obtain ⟨x, g, off, g', off', hp, hp', hc⟩ := HX.out k hlt
      subst hp hp'
      have hk0 : (0 : Int) ≤ (k : Int) := by omega
      have hk1 : (k : Int) < (m : Int) := by omega
      have HS := hc wr.drew HB.out.drew
      have hne : ∀ X : World, (binOp .neq 9 (.string x) (.string x)).run Try.prog X = .ok (.bool false) X := fun X => by go_simp
      go_wp2
      refine wp_region_held_drew (S := fun X => X.cell? ⟨g, off + k, none⟩ = some (.string x) ∧ X.cell? ⟨g', off' + k, none⟩ = some (.string x)) (by kernel_rfl) HS (fun hHeld => ?_)
      refine take7 (i := 0) (d := 17) (v := .slice (some ⟨g, off, none⟩) m c) rfl rfl (by kernel_rfl) (by kernel_rfl) (by kernel_rfl) (fun _ _ _ h => h) (Or.inl ⟨by rfl, ?_⟩) (by assumption) ?_
      · intro X hSw
        go_simp
      simp only [Act.put, List.setIfInBounds_toArray, List.set_cons_zero, List.set_cons_succ]
      refine take7 (i := 1) (d := 18) (v := .int .i64 (k : Int)) rfl rfl (by kernel_rfl) (by kernel_rfl) (by kernel_rfl) (fun _ _ _ h => h) (Or.inl ⟨by rfl, ?_⟩) (by assumption) ?_
      · intro X hSw
        go_simp
      simp only [Act.put, List.setIfInBounds_toArray, List.set_cons_zero, List.set_cons_succ]
      refine take7 (i := 2) (d := 19) (v := .pointer (some ⟨g, off + k, none⟩)) rfl rfl (by kernel_rfl) (by kernel_rfl) (by kernel_rfl) (fun _ _ _ h => h) (Or.inl ⟨by rfl, ?_⟩) (by assumption) ?_
      · intro X hSw
        go_simp
      simp only [Act.put, List.setIfInBounds_toArray, List.set_cons_zero, List.set_cons_succ]
      refine take7 (i := 3) (d := 20) (v := .string x) rfl rfl (by kernel_rfl) (by kernel_rfl) (by kernel_rfl) (fun _ _ _ h => h) (Or.inl ⟨by rfl, ?_⟩) (by assumption) ?_
      · intro X hSw
        go_simp
      simp only [Act.put, List.setIfInBounds_toArray, List.set_cons_zero, List.set_cons_succ]
      refine take7 (i := 4) (d := 21) (v := .slice (some ⟨g', off', none⟩) m c') rfl rfl (by kernel_rfl) (by kernel_rfl) (by kernel_rfl) (fun _ _ _ h => h) (Or.inl ⟨by rfl, ?_⟩) (by assumption) ?_
      · intro X hSw
        go_simp
      simp only [Act.put, List.setIfInBounds_toArray, List.set_cons_zero, List.set_cons_succ]
      refine take7 (i := 5) (d := 22) (v := .int .i64 (k : Int)) rfl rfl (by kernel_rfl) (by kernel_rfl) (by kernel_rfl) (fun _ _ _ h => h) (Or.inl ⟨by rfl, ?_⟩) (by assumption) ?_
      · intro X hSw
        go_simp
      simp only [Act.put, List.setIfInBounds_toArray, List.set_cons_zero, List.set_cons_succ]
      refine take7 (i := 6) (d := 23) (v := .pointer (some ⟨g', off' + k, none⟩)) rfl rfl (by kernel_rfl) (by kernel_rfl) (by kernel_rfl) (fun _ _ _ h => h) (Or.inl ⟨by rfl, ?_⟩) (by assumption) ?_
      · intro X hSw
        go_simp
      simp only [Act.put, List.setIfInBounds_toArray, List.set_cons_zero, List.set_cons_succ]
      refine take7 (i := 7) (d := 24) (v := .string x) rfl rfl (by kernel_rfl) (by kernel_rfl) (by kernel_rfl) (fun _ _ _ h => h) (Or.inl ⟨by rfl, ?_⟩) (by assumption) ?_
      · intro X hSw
        go_simp
      simp only [Act.put, List.setIfInBounds_toArray, List.set_cons_zero, List.set_cons_succ]
      refine take7 (i := 8) (d := 25) (v := .bool false) rfl rfl (by kernel_rfl) (by kernel_rfl) (by kernel_rfl) (fun _ _ _ h => h) (Or.inl ⟨by rfl, ?_⟩) (by assumption) ?_
      · intro X hSw
        go_simp
      simp only [Act.put, List.setIfInBounds_toArray, List.set_cons_zero, List.set_cons_succ]
      refine wpAnyH_done (by kernel_rfl) ?_ _
      clear hHeld HS hc
      have HB2 : Hid (Below w.heap.size w wr.drew) := HB.out.drew
      go_wp2
      go_roundw
      case rel => exact ⟨k + 1, by go_num, by omega, HB2⟩
      case measure => simp [intOf]; omega
    · go_wp2
      go_ret
      exact ⟨rfl, HB.out⟩

end Go.Proofs.Ytkioeahlajjmiaa
