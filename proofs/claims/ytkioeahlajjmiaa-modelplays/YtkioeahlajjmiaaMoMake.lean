/-
  A model is made; a channel is made.
-/
import Derived.Test.YtkioeahlajjmiaaMoUpd
namespace Go.Proofs.Ytkioeahlajjmiaa
open Go.RowKit

/-- New. -/
theorem New_c (w : World) : Calls Try.prog 9 #[] w fun e w' => e = .returned (.pointer (some ⟨w.heap.size + 2, 0, none⟩)) ∧ ∃ who, Md w' (w.heap.size + 2) Mo.new who 0 ∧ (∀ k, who k ≠ 0 → w.heap.size ≤ k) ∧ Below w.heap.size w w' := by
  obtain ⟨u, hu⟩ : ∃ u, u = ((w.alloc (.map #[] 0)).alloc (.map #[] 0)).alloc (.cells #[.map (some w.heap.size), .map (some (w.heap.size + 1))] 63) := ⟨_, rfl⟩
  have hb1 : Below w.heap.size w (w.alloc (.map #[] 0)) := below_alloc w _
  have hb2 := below_alloc (w.alloc (.map #[] 0)) (.map #[] 0)
  have hb3 : Below ((w.alloc (.map #[] 0)).alloc (.map #[] 0)).heap.size ((w.alloc (.map #[] 0)).alloc (.map #[] 0)) u := by rw [hu]; exact below_alloc _ _
  have s1 : (w.alloc (.map #[] 0)).heap.size = w.heap.size + 1 := by simp
  have s2 : ((w.alloc (.map #[] 0)).alloc (.map #[] 0)).heap.size = w.heap.size + 2 := by simp
  have hus : u.heap.size = w.heap.size + 3 := by rw [hu]; simp
  have hcu : ∀ j, u.cell? ⟨w.heap.size + 2, j, none⟩ = (#[.map (some w.heap.size), .map (some (w.heap.size + 1))] : Array Value)[j]? := fun j => by rw [hu, ← s2]; exact World.cell?_alloc_mark _ _ _ _ j
  have hbu : Below w.heap.size w u := (hb1.trans (hb2.mono hb1.size)).trans (hb3.mono (by rw [s2]; omega))
  have m0 : u.heap[w.heap.size]? = some (.map #[] 0) := (hb3.block _ (by rw [s2]; omega)).trans ((hb2.block _ (by rw [s1]; omega)).trans (MapKept.heap_alloc w _).1)
  have m1 : u.heap[w.heap.size + 1]? = some (.map #[] 0) := by
    have q := (MapKept.heap_alloc (w.alloc (.map #[] 0)) (.map #[] 0)).1
    rw [s1] at q
    exact (hb3.block _ (by rw [s2]; omega)).trans q
  have HF : Hid (∃ who, Md u (w.heap.size + 2) Mo.new who 0 ∧ (∀ k, who k ≠ 0 → w.heap.size ≤ k) ∧ Below w.heap.size w u) := by
    refine ⟨fun k => if k = w.heap.size + 2 then 1 else if k = w.heap.size then 2 else if k = w.heap.size + 1 then 3 else 0, ⟨w.heap.size, w.heap.size + 1, fun _ _ => none, fun _ => Mo.newC, hcu 0, hcu 1, Mc.ofNew m0, Ms.ofNew m1, fun _ _ => rfl, fun _ _ _ e => (by cases e), fun _ _ _ _ _ e => (by cases e), fun _ _ _ e => (by cases e), ?_, ?_, ?_, fun k hk => ?_⟩, fun k hk => ?_, hbu⟩
    · simp
    · simp
    · simp
    · rw [hus]
      by_cases e1 : k = w.heap.size + 2
      · omega
      · by_cases e2 : k = w.heap.size
        · omega
        · by_cases e3 : k = w.heap.size + 1
          · omega
          · simp [e1, e2, e3] at hk
    · by_cases e1 : k = w.heap.size + 2
      · omega
      · by_cases e2 : k = w.heap.size
        · omega
        · by_cases e3 : k = w.heap.size + 1
          · omega
          · simp [e1, e2, e3] at hk
  have hmm := @run_makeMap Try.prog
  clear hb1 hb2 hb3 s1 s2 hus hcu hbu m0 m1
  go_enter Try.func9, Try.ntmps9
  go_wp2
  rw [← hu]
  go_ret
  exact ⟨rfl, HF.out⟩

section
variable {w : World} {B : Nat} {s : Mo.St} {who : Nat → Nat} {n bc bo : Nat} {f : ByteArray → ByteArray → Option Nat} {cs : Nat → Mo.Ch}

theorem make_there (h : MdV w B s who n bc bo f cs) (o : Mo.Op) (hx : Ok o.space) (hy : Ok o.channel) {k : Nat} (hf : f o.space o.channel = some k) :
    Calls Try.prog 26 #[.pointer (some ⟨B, 0, none⟩), .agg #[.int .i64 o.kind, .string o.space, .string o.channel, .string o.user, .string o.text, .string o.toSpace, .string o.to, .int .i64 o.frm, .int .i64 o.most]] w fun e w' => e = .returned (.int .i64 90) ∧ Below w.heap.size w w' := by
  obtain ⟨u, hu⟩ : ∃ u, u = w.alloc (.cells #[.int .i64 o.kind, .string o.space, .string o.channel, .string o.user, .string o.text, .string o.toSpace, .string o.to, .int .i64 o.frm, .int .i64 o.most] 32) := ⟨_, rfl⟩
  have hbu : Below w.heap.size w u := by rw [hu]; exact below_alloc w _
  have hcu : ∀ j, u.cell? ⟨w.heap.size, j, none⟩ = (#[.int .i64 o.kind, .string o.space, .string o.channel, .string o.user, .string o.text, .string o.toSpace, .string o.to, .int .i64 o.frm, .int .i64 o.most] : Array Value)[j]? := fun j => by rw [hu]; exact World.cell?_alloc_mark w _ _ _ j
  have HH : Hid _ := has_c (h.below hbu) hx hy
  rw [hf] at HH
  have HB : Hid _ := hbu
  have u1 := hcu 1
  have u2 := hcu 2
  clear h hx hy hf hcu hbu
  go_enter Try.func26, Try.ntmps26
  go_wp2_with fail
  rw [← hu]
  refine Calls.mono HH.out ?_
  rintro e w1 ⟨rfl, hw1⟩
  have hw1 := hw1.symm
  subst hw1
  clear hu
  go_wp2
  go_ret
  exact ⟨rfl, HB.out⟩

set_option maxHeartbeats 1600000 in
set_option maxRecDepth 20000 in
theorem make_new (h : MdV w B s who n bc bo f cs) (hn : n < 1099511627776) (o : Mo.Op) (hx : Ok o.space) (hy : Ok o.channel) (hxs : o.space.size ≤ 16) (hys : o.channel.size ≤ 16) (hf : f o.space o.channel = none) :
    Calls Try.prog 26 #[.pointer (some ⟨B, 0, none⟩), .agg #[.int .i64 o.kind, .string o.space, .string o.channel, .string o.user, .string o.text, .string o.toSpace, .string o.to, .int .i64 o.frm, .int .i64 o.most]] w fun e w' => e = .returned (.int .i64 0) ∧ ∃ who', AftM who w w' B (Mo.setC s o.space o.channel (some Mo.newC)) (n + 1) who' := by
  obtain ⟨u, hu⟩ : ∃ u, u = w.alloc (.cells #[.int .i64 o.kind, .string o.space, .string o.channel, .string o.user, .string o.text, .string o.toSpace, .string o.to, .int .i64 o.frm, .int .i64 o.most] 32) := ⟨_, rfl⟩
  have hbu : Below w.heap.size w u := by rw [hu]; exact below_alloc w _
  have hV := h.below hbu
  have hlx : w.heap.size < u.heap.size := by rw [hu]; simp
  have hcu : ∀ j, u.cell? ⟨w.heap.size, j, none⟩ = (#[.int .i64 o.kind, .string o.space, .string o.channel, .string o.user, .string o.text, .string o.toSpace, .string o.to, .int .i64 o.frm, .int .i64 o.most] : Array Value)[j]? := fun j => by rw [hu]; exact World.cell?_alloc_mark w _ _ _ j
  have hBl : B < u.heap.size := hV.here B (by rw [h.wB]; decide)
  have HH : Hid _ := has_c hV hx hy
  rw [hf] at HH
  have HS : Hid (∀ X, Below u.heap.size u X → X.cell? ⟨B, 0, none⟩ = some (.map (some bc)) ∧ X.cell? ⟨w.heap.size, 1, none⟩ = some (.string o.space) ∧ X.cell? ⟨w.heap.size, 2, none⟩ = some (.string o.channel)) := fun X hX =>
    ⟨(hX.cell (p := ⟨B, 0, none⟩) hBl).trans hV.c0, (hX.cell (p := ⟨w.heap.size, 1, none⟩) hlx).trans (hcu 1), (hX.cell (p := ⟨w.heap.size, 2, none⟩) hlx).trans (hcu 2)⟩
  have hBc : B ≠ bc := fun e => by have := h.wc; rw [← e, h.wB] at this; cases this
  have hbc : bc < w.heap.size := h.here bc (by rw [h.wc]; decide)
  have HS3 : Hid (∀ X Y, Below u.heap.size u X → X.grownBy Y (some bc) → Y.cell? ⟨B, 0, none⟩ = some (.map (some bc)) ∧ Y.cell? ⟨w.heap.size, 1, none⟩ = some (.string o.space) ∧ Y.cell? ⟨w.heap.size, 2, none⟩ = some (.string o.channel)) := fun X Y hX hY => by
    obtain ⟨a0, a1, a2⟩ := HS.out X hX
    have hs := hX.size
    have eB : Y.heap[B]? = X.heap[B]? := hY.block B (by omega) (fun e => hBc (by injection e))
    have ex : Y.heap[w.heap.size]? = X.heap[w.heap.size]? := hY.block w.heap.size (by omega) (fun e => by injection e with e; omega)
    exact ⟨(World.cell?_of_block (a := ⟨B, 0, none⟩) eB).trans a0, (World.cell?_of_block (a := ⟨w.heap.size, 1, none⟩) ex).trans a1, (World.cell?_of_block (a := ⟨w.heap.size, 2, none⟩) ex).trans a2⟩
  have HMade : Hid (∀ W bm bb, Below u.heap.size u W → u.heap.size ≤ bm → u.heap.size ≤ bb → bm ≠ bb → W.heap[bm]? = some (.map #[] 0) → W.cell? ⟨bb, 0, none⟩ = some (.map (some bm)) → W.cell? ⟨bb, 1, none⟩ = some (.slice none 0 0) → (∀ j, W.frozen? ⟨bb, j, none⟩ = false) →
      ∃ w3 who', (Instr.mapUpdate 60 (.map (some bc)) (.agg #[.string o.space, .string o.channel]) (.pointer (some ⟨bb, 0, none⟩))).run Try.prog W = .ok () w3 ∧ W.grownBy w3 (some bc) ∧ Hid (AftM who w w3 B (Mo.setC s o.space o.channel (some Mo.newC)) (n + 1) who')) := fun W bm bb a1 a2 a3 a4 a5 a6 a7 a8 => by
    obtain ⟨w3, who', b1, b2, b3⟩ := hV.made a1 (by unfold maxLen; omega) hx hy a2 a3 a4 a5 a6 a7 a8
    exact ⟨w3, who', b1, b2, b3.from hbu⟩
  have HKn : Hid (∀ X, Calls Try.prog 51 #[.string o.space, .string o.channel] X fun e w' => e = .returned (.agg #[.string o.space, .string o.channel]) ∧ Below X.heap.size X w') := fun X => keptName_c _ _ (by omega) (by omega) X
  have HU0 : Hid (Below u.heap.size u u.drew) := (Below.refl _ _).drew
  have u1 := hcu 1
  have u2 := hcu 2
  have hmm := @run_makeMap Try.prog
  clear h hV hx hy hxs hys hn hf hBl hbc hBc hcu hlx hbu
  go_enter Try.func26, Try.ntmps26
  go_wp2_with fail
  rw [← hu]
  refine Calls.mono HH.out ?_
  rintro e w1 ⟨rfl, hw1⟩
  have hw1 := hw1.symm
  subst hw1
  clear hu
  go_wp2
  refine wp_region_held_drew (S := fun X => X.cell? ⟨B, 0, none⟩ = some (.map (some bc)) ∧ X.cell? ⟨w.heap.size, 1, none⟩ = some (.string o.space) ∧ X.cell? ⟨w.heap.size, 2, none⟩ = some (.string o.channel)) (by kernel_rfl) (HS.out _ HU0.out) (fun hHeld => ?_)
  clear u1 u2
  refine take7 (i := 0) (d := 11) (v := .pointer (some ⟨B, 0, none⟩)) rfl rfl (by kernel_rfl) (by kernel_rfl) (by kernel_rfl) (fun _ _ _ h => h) (Or.inl ⟨by rfl, ?_⟩) (by assumption) ?_
  · intro X hSw
    go_simp
  simp only [Act.put, List.setIfInBounds_toArray, List.set_cons_zero, List.set_cons_succ]
  refine take7 (i := 1) (d := 12) (v := .pointer (some ⟨B, 0, none⟩)) rfl rfl (by kernel_rfl) (by kernel_rfl) (by kernel_rfl) (fun _ _ _ h => h) (Or.inl ⟨by rfl, ?_⟩) (by assumption) ?_
  · intro X hSw
    go_simp
  simp only [Act.put, List.setIfInBounds_toArray, List.set_cons_zero, List.set_cons_succ]
  refine take7 (i := 2) (d := 13) (v := .pointer (some ⟨B, 0, none⟩)) rfl rfl (by kernel_rfl) (by kernel_rfl) (by kernel_rfl) (fun _ _ _ h => h) (Or.inl ⟨by rfl, ?_⟩) (by assumption) ?_
  · intro X hSw
    go_simp
  simp only [Act.put, List.setIfInBounds_toArray, List.set_cons_zero, List.set_cons_succ]
  refine take7 (i := 3) (d := 14) (v := .map (some bc)) rfl rfl (by kernel_rfl) (by kernel_rfl) (by kernel_rfl) (fun _ _ _ h => h) (Or.inl ⟨by rfl, ?_⟩) (by assumption) ?_
  · intro X hSw
    go_simp
  simp only [Act.put, List.setIfInBounds_toArray, List.set_cons_zero, List.set_cons_succ]
  refine take7 (i := 4) (d := 15) (v := .pointer (some ⟨w.heap.size, 1, none⟩)) rfl rfl (by kernel_rfl) (by kernel_rfl) (by kernel_rfl) (fun _ _ _ h => h) (Or.inl ⟨by rfl, ?_⟩) (by assumption) ?_
  · intro X hSw
    go_simp
  simp only [Act.put, List.setIfInBounds_toArray, List.set_cons_zero, List.set_cons_succ]
  refine take7 (i := 5) (d := 16) (v := .string o.space) rfl rfl (by kernel_rfl) (by kernel_rfl) (by kernel_rfl) (fun _ _ _ h => h) (Or.inl ⟨by rfl, ?_⟩) (by assumption) ?_
  · intro X hSw
    go_simp
  simp only [Act.put, List.setIfInBounds_toArray, List.set_cons_zero, List.set_cons_succ]
  refine take7 (i := 6) (d := 17) (v := .pointer (some ⟨w.heap.size, 2, none⟩)) rfl rfl (by kernel_rfl) (by kernel_rfl) (by kernel_rfl) (fun _ _ _ h => h) (Or.inl ⟨by rfl, ?_⟩) (by assumption) ?_
  · intro X hSw
    go_simp
  simp only [Act.put, List.setIfInBounds_toArray, List.set_cons_zero, List.set_cons_succ]
  refine take7 (i := 7) (d := 18) (v := .string o.channel) rfl rfl (by kernel_rfl) (by kernel_rfl) (by kernel_rfl) (fun _ _ _ h => h) (Or.inl ⟨by rfl, ?_⟩) (by assumption) ?_
  · intro X hSw
    go_simp
  simp only [Act.put, List.setIfInBounds_toArray, List.set_cons_zero, List.set_cons_succ]
  have hU0 := HU0.out
  obtain ⟨U, hU⟩ : ∃ U, U = u.drew := ⟨_, rfl⟩
  rw [← hU] at hU0 hHeld ⊢
  have HUs : Hid (U.heap.size = u.heap.size) := by rw [hU]; show _ = _; rfl
  clear hU
  refine wpAnyH_ready (rs := [8, 9]) (by kernel_rfl) (by simp) ?_
  refine AllReadyH.cons rfl (fun K hK => ?_) (AllReadyH.cons rfl (fun K hK => ?_) AllReadyH.nil)
  · go_wp2_with fail
    refine (HKn.out _).mono ?_
    rintro e Y ⟨rfl, hbY⟩
    have hY : Below u.heap.size u Y := hU0.trans (hbY.mono hU0.size)
    refine hK.out _ _ (HS.out _ hY) (fun hHeld => ?_)
    clear hK K
    try simp only [Act.put, List.setIfInBounds_toArray, List.set_cons_zero, List.set_cons_succ]
    refine wpAnyH_ready (rs := [9]) (by kernel_rfl) (by simp) ?_
    refine AllReadyH.cons rfl (fun K hK => ?_) AllReadyH.nil
    go_simp
    obtain ⟨Z, eZ⟩ : ∃ z, z = World.alloc Y (.map #[] 0) := ⟨_, rfl⟩
    have hbZ : Below (Y).heap.size Y Z := by rw [eZ]; exact below_alloc _ _
    have hmZ : Z.heap[(Y).heap.size]? = some (.map #[] 0) := by rw [eZ]; exact (MapKept.heap_alloc Y _).1
    have HsZ : Hid (Z.heap.size = (Y).heap.size + 1) := by rw [eZ]; show _ = _; simp
    have hZ : Below u.heap.size u Z := hY.trans (hbZ.mono hY.size)
    rw [← eZ]
    refine hK.out _ _ (HS.out _ hZ) (fun hHeld => ?_)
    clear hK K eZ
    try simp only [Act.put, List.setIfInBounds_toArray, List.set_cons_zero, List.set_cons_succ]
    refine take7 (i := 10) (d := 21) (v := .agg #[.map (some Y.heap.size), .slice none 0 0]) rfl rfl (by kernel_rfl) (by kernel_rfl) (by kernel_rfl) (fun _ _ _ h => h) (Or.inl ⟨by rfl, ?_⟩) (by assumption) ?_
    · intro X hSw
      go_simp
    simp only [Act.put, List.setIfInBounds_toArray, List.set_cons_zero, List.set_cons_succ]
    refine wpAnyH_ready (rs := [11]) (by kernel_rfl) (by simp) ?_
    refine AllReadyH.cons rfl (fun K hK => ?_) AllReadyH.nil
    go_simp
    obtain ⟨V, eV⟩ : ∃ z, z = World.alloc Z (.cells #[.map (some Y.heap.size), .slice none 0 0] 76) := ⟨_, rfl⟩
    have hbV : Below (Z).heap.size Z V := by rw [eV]; exact below_alloc _ _
    have hcV : ∀ j, V.cell? ⟨(Z).heap.size, j, none⟩ = (#[.map (some Y.heap.size), .slice none 0 0] : Array Value)[j]? := fun j => by rw [eV]; exact World.cell?_alloc_mark Z _ _ _ j
    have hfV : ∀ j, V.frozen? ⟨(Z).heap.size, j, none⟩ = false := fun j => by rw [eV, World.frozen?_alloc_mark]; simp
    have HsV : Hid (V.heap.size = (Z).heap.size + 1) := by rw [eV]; show _ = _; simp
    have hV : Below u.heap.size u V := hZ.trans (hbV.mono hZ.size)
    rw [← eV]
    refine hK.out _ _ (HS.out _ hV) (fun hHeld => ?_)
    clear hK K eV
    try simp only [Act.put, List.setIfInBounds_toArray, List.set_cons_zero, List.set_cons_succ]
    have q1 := hY.size
    refine wpAnyH_ready (rs := [12]) (by kernel_rfl) (by simp) ?_
    refine AllReadyH.cons rfl (fun K hK => ?_) AllReadyH.nil
    have hUs := HUs.out
    have hsZ := HsZ.out
    have hsV := HsV.out
    obtain ⟨w3, who', r3, g3, HA⟩ := HMade.out V Y.heap.size Z.heap.size hV (by omega) (by omega) (by omega) ((hbV.block _ (by omega)).trans hmZ) (hcV 0) (hcV 1) hfV
    clear hUs hsZ hsV
    refine stepUpdate rfl rfl 60 (.tmp 14) (.tmp 19) (.tmp 22) rfl (by simp [Act.eval]) (by simp [Act.eval]) (by simp [Act.eval]) r3 ?_
    refine hK.out _ _ (HS3.out _ _ hV g3) (fun hHeld => ?_)
    clear hK K hHeld r3 g3
    refine wpAnyH_done (by kernel_rfl) ?_ _
    clear hHeld
    go_wp2
    go_ret
    exact ⟨rfl, who', HA.out⟩
  · go_simp
    obtain ⟨Z, eZ⟩ : ∃ z, z = World.alloc U (.map #[] 0) := ⟨_, rfl⟩
    have hbZ : Below (U).heap.size U Z := by rw [eZ]; exact below_alloc _ _
    have hmZ : Z.heap[(U).heap.size]? = some (.map #[] 0) := by rw [eZ]; exact (MapKept.heap_alloc U _).1
    have HsZ : Hid (Z.heap.size = (U).heap.size + 1) := by rw [eZ]; show _ = _; simp
    have hZ : Below u.heap.size u Z := hU0.trans (hbZ.mono hU0.size)
    rw [← eZ]
    refine hK.out _ _ (HS.out _ hZ) (fun hHeld => ?_)
    clear hK K eZ
    try simp only [Act.put, List.setIfInBounds_toArray, List.set_cons_zero, List.set_cons_succ]
    refine take7 (i := 10) (d := 21) (v := .agg #[.map (some U.heap.size), .slice none 0 0]) rfl rfl (by kernel_rfl) (by kernel_rfl) (by kernel_rfl) (fun _ _ _ h => h) (Or.inl ⟨by rfl, ?_⟩) (by assumption) ?_
    · intro X hSw
      go_simp
    simp only [Act.put, List.setIfInBounds_toArray, List.set_cons_zero, List.set_cons_succ]
    refine wpAnyH_ready (rs := [8, 11]) (by kernel_rfl) (by simp) ?_
    refine AllReadyH.cons rfl (fun K hK => ?_) (AllReadyH.cons rfl (fun K hK => ?_) AllReadyH.nil)
    · go_wp2_with fail
      refine (HKn.out _).mono ?_
      rintro e Y ⟨rfl, hbY⟩
      have hY : Below u.heap.size u Y := hZ.trans (hbY.mono hZ.size)
      refine hK.out _ _ (HS.out _ hY) (fun hHeld => ?_)
      clear hK K
      try simp only [Act.put, List.setIfInBounds_toArray, List.set_cons_zero, List.set_cons_succ]
      refine wpAnyH_ready (rs := [11]) (by kernel_rfl) (by simp) ?_
      refine AllReadyH.cons rfl (fun K hK => ?_) AllReadyH.nil
      go_simp
      obtain ⟨V, eV⟩ : ∃ z, z = World.alloc Y (.cells #[.map (some U.heap.size), .slice none 0 0] 76) := ⟨_, rfl⟩
      have hbV : Below (Y).heap.size Y V := by rw [eV]; exact below_alloc _ _
      have hcV : ∀ j, V.cell? ⟨(Y).heap.size, j, none⟩ = (#[.map (some U.heap.size), .slice none 0 0] : Array Value)[j]? := fun j => by rw [eV]; exact World.cell?_alloc_mark Y _ _ _ j
      have hfV : ∀ j, V.frozen? ⟨(Y).heap.size, j, none⟩ = false := fun j => by rw [eV, World.frozen?_alloc_mark]; simp
      have HsV : Hid (V.heap.size = (Y).heap.size + 1) := by rw [eV]; show _ = _; simp
      have hV : Below u.heap.size u V := hY.trans (hbV.mono hY.size)
      rw [← eV]
      refine hK.out _ _ (HS.out _ hV) (fun hHeld => ?_)
      clear hK K eV
      try simp only [Act.put, List.setIfInBounds_toArray, List.set_cons_zero, List.set_cons_succ]
      have q1 := hbY.size
      refine wpAnyH_ready (rs := [12]) (by kernel_rfl) (by simp) ?_
      refine AllReadyH.cons rfl (fun K hK => ?_) AllReadyH.nil
      have hUs := HUs.out
      have hsZ := HsZ.out
      have hsV := HsV.out
      obtain ⟨w3, who', r3, g3, HA⟩ := HMade.out V U.heap.size Y.heap.size hV (by omega) (by omega) (by omega) ((hbV.block _ (by omega)).trans ((hbY.block _ (by omega)).trans hmZ)) (hcV 0) (hcV 1) hfV
      clear hUs hsZ hsV
      refine stepUpdate rfl rfl 60 (.tmp 14) (.tmp 19) (.tmp 22) rfl (by simp [Act.eval]) (by simp [Act.eval]) (by simp [Act.eval]) r3 ?_
      refine hK.out _ _ (HS3.out _ _ hV g3) (fun hHeld => ?_)
      clear hK K hHeld r3 g3
      refine wpAnyH_done (by kernel_rfl) ?_ _
      clear hHeld
      go_wp2
      go_ret
      exact ⟨rfl, who', HA.out⟩
    · go_simp
      obtain ⟨V, eV⟩ : ∃ z, z = World.alloc Z (.cells #[.map (some U.heap.size), .slice none 0 0] 76) := ⟨_, rfl⟩
      have hbV : Below (Z).heap.size Z V := by rw [eV]; exact below_alloc _ _
      have hcV : ∀ j, V.cell? ⟨(Z).heap.size, j, none⟩ = (#[.map (some U.heap.size), .slice none 0 0] : Array Value)[j]? := fun j => by rw [eV]; exact World.cell?_alloc_mark Z _ _ _ j
      have hfV : ∀ j, V.frozen? ⟨(Z).heap.size, j, none⟩ = false := fun j => by rw [eV, World.frozen?_alloc_mark]; simp
      have HsV : Hid (V.heap.size = (Z).heap.size + 1) := by rw [eV]; show _ = _; simp
      have hV : Below u.heap.size u V := hZ.trans (hbV.mono hZ.size)
      rw [← eV]
      refine hK.out _ _ (HS.out _ hV) (fun hHeld => ?_)
      clear hK K eV
      try simp only [Act.put, List.setIfInBounds_toArray, List.set_cons_zero, List.set_cons_succ]
      refine wpAnyH_ready (rs := [8]) (by kernel_rfl) (by simp) ?_
      refine AllReadyH.cons rfl (fun K hK => ?_) AllReadyH.nil
      go_wp2_with fail
      refine (HKn.out _).mono ?_
      rintro e Y ⟨rfl, hbY⟩
      have hY : Below u.heap.size u Y := hV.trans (hbY.mono hV.size)
      refine hK.out _ _ (HS.out _ hY) (fun hHeld => ?_)
      clear hK K
      try simp only [Act.put, List.setIfInBounds_toArray, List.set_cons_zero, List.set_cons_succ]
      have q1 := hbY.size
      have hcY : ∀ j, Y.cell? ⟨Z.heap.size, j, none⟩ = V.cell? ⟨Z.heap.size, j, none⟩ := fun j => hbY.cell (p := ⟨Z.heap.size, j, none⟩) (show Z.heap.size < V.heap.size by have := HsV.out; omega)
      have hfY : ∀ j, Y.frozen? ⟨Z.heap.size, j, none⟩ = V.frozen? ⟨Z.heap.size, j, none⟩ := fun j => hbY.frozen (p := ⟨Z.heap.size, j, none⟩) (show Z.heap.size < V.heap.size by have := HsV.out; omega)
      refine wpAnyH_ready (rs := [12]) (by kernel_rfl) (by simp) ?_
      refine AllReadyH.cons rfl (fun K hK => ?_) AllReadyH.nil
      have hUs := HUs.out
      have hsZ := HsZ.out
      have hsV := HsV.out
      obtain ⟨w3, who', r3, g3, HA⟩ := HMade.out Y U.heap.size Z.heap.size hY (by omega) (by omega) (by omega) ((hbY.block _ (by omega)).trans ((hbV.block _ (by omega)).trans hmZ)) ((hcY 0).trans (hcV 0)) ((hcY 1).trans (hcV 1)) (fun j => (hfY j).trans (hfV j))
      clear hUs hsZ hsV
      refine stepUpdate rfl rfl 60 (.tmp 14) (.tmp 19) (.tmp 22) rfl (by simp [Act.eval]) (by simp [Act.eval]) (by simp [Act.eval]) r3 ?_
      refine hK.out _ _ (HS3.out _ _ hY g3) (fun hHeld => ?_)
      clear hK K hHeld r3 g3
      refine wpAnyH_done (by kernel_rfl) ?_ _
      clear hHeld
      go_wp2
      go_ret
      exact ⟨rfl, who', HA.out⟩

end
end Go.Proofs.Ytkioeahlajjmiaa
