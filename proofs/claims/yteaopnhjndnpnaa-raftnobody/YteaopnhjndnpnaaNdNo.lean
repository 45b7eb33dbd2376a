/-
  A raft node that nobody made.
-/
import Derived.Test.YteaopnhjndnpnaaNdArgs
namespace Go.Proofs.Yteaopnhjndnpnaa
open Go.RowKit

/-- No node, or one that New did not give. -/
def NoN (w : World) (v : Value) : Prop := v = .pointer none ∨ ∃ B, v = .pointer (some ⟨B, 0, none⟩) ∧ w.cell? ⟨B, 4, none⟩ = some (.pointer none)

theorem NoN.below {w w' : World} {v : Value} (h : NoN w v) (hb : Below w.heap.size w w') : NoN w' v := by
  rcases h with h | ⟨B, h1, h2⟩
  · exact .inl h
  · exact .inr ⟨B, h1, (hb.cell (World.block_lt_of_cell? _ _ h2)).trans h2⟩
theorem NoN.form {w : World} {v : Value} (h : NoN w v) : ∃ p, v = .pointer p := by
  rcases h with h | ⟨B, h1, _⟩
  · exact ⟨_, h⟩
  · exact ⟨_, h1⟩

section
variable {w : World} {v : Value}

theorem made_no (h : NoN w v) : Calls Try.prog 28 #[v] w fun e w' => e = .returned (.bool false) ∧ w' = w := by
  rcases h with h | ⟨B, h1, h2⟩
  · subst h
    go_enter Try.func28, Try.ntmps28
    go_wp2
    go_ret
    exact ⟨rfl, rfl⟩
  · subst h1
    go_enter Try.func28, Try.ntmps28
    go_wp2
    go_ret
    exact ⟨rfl, rfl⟩

theorem Role_no (h : NoN w v) : Calls Try.prog 11 #[v] w fun e w' => e = .returned (.int .i64 0) ∧ w' = w := by
  have HM : Hid _ := made_no h
  clear h
  go_enter Try.func11, Try.ntmps11
  go_wp2_with fail
  refine Calls.mono HM.out ?_
  rintro e w1 ⟨rfl, hw⟩
  subst hw
  go_wp2
  go_ret
  exact ⟨rfl, rfl⟩

theorem CommitN_no (h : NoN w v) : Calls Try.prog 12 #[v] w fun e w' => e = .returned (.int .i64 0) ∧ w' = w := by
  have HM : Hid _ := made_no h
  clear h
  go_enter Try.func12, Try.ntmps12
  go_wp2_with fail
  refine Calls.mono HM.out ?_
  rintro e w1 ⟨rfl, hw⟩
  subst hw
  go_wp2
  go_ret
  exact ⟨rfl, rfl⟩

theorem Left_no (h : NoN w v) : Calls Try.prog 22 #[v] w fun e w' => e = .returned (.int .i64 0) ∧ w' = w := by
  have HM : Hid _ := made_no h
  clear h
  go_enter Try.func22, Try.ntmps22
  go_wp2_with fail
  refine Calls.mono HM.out ?_
  rintro e w1 ⟨rfl, hw⟩
  subst hw
  go_wp2
  go_ret
  exact ⟨rfl, rfl⟩

theorem Records_no (h : NoN w v) : Calls Try.prog 19 #[v] w fun e w' => e = .returned (.slice none 0 0) ∧ w' = w := by
  have HM : Hid _ := made_no h
  clear h
  go_enter Try.func19, Try.ntmps19
  go_wp2_with fail
  refine Calls.mono HM.out ?_
  rintro e w1 ⟨rfl, hw⟩
  subst hw
  go_wp2
  go_ret
  exact ⟨rfl, rfl⟩

theorem LeadN_no (h : NoN w v) : Calls Try.prog 21 #[v] w fun e w' => e = .returned (.int .i64 0) ∧ w' = w := by
  have HM : Hid _ := made_no h
  clear h
  go_enter Try.func21, Try.ntmps21
  go_wp2_with fail
  refine Calls.mono HM.out ?_
  rintro e w1 ⟨rfl, hw⟩
  subst hw
  go_wp2
  go_ret
  exact ⟨rfl, rfl⟩

theorem Propose_no (h : NoN w v) (d : ByteArray) : Calls Try.prog 16 #[v, .string d] w fun e w' => e = .returned (.tuple #[.int .i64 0, .int .i64 0, .slice none 0 0, .int .i64 1]) ∧ w' = w := by
  have HM : Hid _ := made_no h
  clear h
  go_enter Try.func16, Try.ntmps16
  go_wp2_with fail
  refine Calls.mono HM.out ?_
  rintro e w1 ⟨rfl, hw⟩
  subst hw
  go_wp2
  refine bodyPost_ret (v := .tuple #[.int .i64 0, .int .i64 0, .slice none 0 0, .int .i64 1]) ?qres rfl ⟨rfl, rfl⟩
  case qres => simp [results, Try.results16, go_sem]

theorem CompactN_no (h : NoN w v) (i : Int) (d : ByteArray) : Calls Try.prog 13 #[v, .int .i64 i, .string d] w fun e w' => e = .returned (.int .i64 1) ∧ w' = w := by
  have HM : Hid _ := made_no h
  clear h
  go_enter Try.func13, Try.ntmps13
  go_wp2_with fail
  refine Calls.mono HM.out ?_
  rintro e w1 ⟨rfl, hw⟩
  subst hw
  go_wp2
  go_ret
  exact ⟨rfl, rfl⟩

theorem Tick_no (h : NoN w v) (n : Int) : Calls Try.prog 18 #[v, .int .i64 n] w fun e w' => e = .returned (.slice none 0 0) ∧ Below w.heap.size w w' := by
  obtain ⟨p, hp⟩ := h.form
  subst hp
  obtain ⟨u, hu⟩ : ∃ u, u = (w.alloc (.cells #[.pointer p] 38)).alloc (.cells #[.int .i64 n] 3) := ⟨_, rfl⟩
  have hb : Below w.heap.size w u := by rw [hu]; exact (below_alloc _ _).trans ((below_alloc _ _).mono (by simp))
  have HB : Hid _ := hb
  have HM : Hid _ := made_no (h.below hb)
  clear h hb
  go_enter Try.func18, Try.ntmps18
  go_wp2_with fail
  rw [← hu]
  clear hu
  refine Calls.mono HM.out ?_
  rintro e w1 ⟨rfl, hw⟩
  subst hw
  go_wp2
  go_ret
  exact ⟨rfl, HB.out⟩

theorem Receive_no (h : NoN w v) (m : MsgA) : Calls Try.prog 17 #[v, msgAV m] w fun e w' => e = .returned (.slice none 0 0) ∧ Below w.heap.size w w' := by
  obtain ⟨p, hp⟩ := h.form
  subst hp
  obtain ⟨u, hu⟩ : ∃ u, u = (w.alloc (.cells #[.pointer p] 38)).alloc (.cells #[.int .i64 m.kind, .int .i64 m.group, .int .i64 m.frm, .int .i64 m.to, .int .i64 m.term, .int .i64 m.index, .int .i64 m.at_, .slice m.p m.n m.c, .int .i64 m.commit, .bool m.ok, .string m.data] 48) := ⟨_, rfl⟩
  have hb : Below w.heap.size w u := by rw [hu]; exact (below_alloc _ _).trans ((below_alloc _ _).mono (by simp))
  have HB : Hid _ := hb
  have HM : Hid _ := made_no (h.below hb)
  unfold msgAV
  clear h hb
  go_enter Try.func17, Try.ntmps17
  go_wp2_with fail
  rw [← hu]
  clear hu
  refine Calls.mono HM.out ?_
  rintro e w1 ⟨rfl, hw⟩
  subst hw
  go_wp2
  go_ret
  exact ⟨rfl, HB.out⟩

theorem Saved_no (h : NoN w v) : Calls Try.prog 15 #[v] w fun e w' => e = .returned (.agg #[.int .i64 0, .int .i64 0, .int .i64 0, .int .i64 0, .string ⟨#[]⟩, .slice none 0 0]) ∧ Below w.heap.size w w' := by
  obtain ⟨p, hp⟩ := h.form
  subst hp
  obtain ⟨u, hu⟩ : ∃ u, u = w.alloc (.cells #[.int .i64 0, .int .i64 0, .int .i64 0, .int .i64 0, .string ⟨#[]⟩, .slice none 0 0] 44) := ⟨_, rfl⟩
  have hb : Below w.heap.size w u := by rw [hu]; exact below_alloc _ _
  have HB : Hid _ := hb
  have HM : Hid _ := made_no (h.below hb)
  obtain ⟨br, hbr⟩ : ∃ br, br = w.heap.size := ⟨_, rfl⟩
  have HBr : Hid (br = w.heap.size) := hbr
  have hc : ∀ j, u.cell? ⟨br, j, none⟩ = (#[.int .i64 0, .int .i64 0, .int .i64 0, .int .i64 0, .string ⟨#[]⟩, .slice none 0 0] : Array Value)[j]? := fun j => by rw [hu, hbr]; exact World.cell?_alloc_mark w _ _ _ j
  have hfz : ∀ j, u.frozen? ⟨br, j, none⟩ = false := fun j => by rw [hu, hbr, World.frozen?_alloc_mark]; simp
  have z0 := hc 0
  have z1 := hc 1
  have z2 := hc 2
  have z3 := hc 3
  have z4 := hc 4
  have z5 := hc 5
  have f0 := hfz 0
  have f1 := hfz 1
  have f2 := hfz 2
  have f3 := hfz 3
  have f4 := hfz 4
  have f5 := hfz 5
  clear h hb hc hfz
  go_enter Try.func15, Try.ntmps15
  go_wp2_with fail
  rw [← hu]
  refine Calls.mono HM.out ?_
  rintro e w1 ⟨rfl, hw⟩
  subst hw
  rw [← hbr]
  clear hu hbr
  go_wp2
  refine bodyPost_ret (v := .agg #[.int .i64 0, .int .i64 0, .int .i64 0, .int .i64 0, .string ⟨#[]⟩, .slice none 0 0]) ?qres rfl ⟨rfl, ?_⟩
  case qres => simp [results, Try.results15, go_sem, z0, z1, z2, z3, z4, z5]
  have e := HBr.out
  iterate 6 refine Below.setCell ?_ (by show _ ≤ br; omega) _
  exact HB.out

end
end Go.Proofs.Yteaopnhjndnpnaa
