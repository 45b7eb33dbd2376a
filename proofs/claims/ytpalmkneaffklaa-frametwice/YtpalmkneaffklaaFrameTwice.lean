/-
  For every text s: FrameTwice answers true: what is scanned, put again one behind the other, is the bytes that were scanned; the argument reads afterwards as before. No condition.
-/
import Derived.Test.YtpalmkneaffklaaFrAwake
import Derived.ProofKit
import Derived.OpenShut
import Derived.ShutString
import Derived.SizedLaws
namespace Go.Proofs.Ytpalmkneaffklaa.frameTwice
open Go.ChangeShapes Go.WideShapes Go.ChangeAt Go.RowKit
open Go.ChangeMaps (open_string shut_string)

set_option maxHeartbeats 400000 in
theorem walk_long (a0 : ByteArray) (w : World) (h : decide ((8192 : Int) < (a0.size : Int)) = true) :
    Calls Try.prog 8 #[.string a0] w fun e w' => e = .returned (.bool true) ∧ Below w.heap.size w w' := by
  go_enter Try.func8, Try.ntmps8
  go_wp2_with fail
  refine (awake4 _).mono ?_
  rintro e w1 ⟨rfl, hb1⟩
  go_wp2
  go_ret
  exact ⟨rfl, hb1⟩

set_option maxHeartbeats 800000 in
set_option maxRecDepth 20000 in
theorem walk_main (a0 : ByteArray) (w : World) (b0 : a0.size ≤ 8192) :
    Calls Try.prog 8 #[.string a0] w fun e w' => e = .returned (.bool true) ∧ Below w.heap.size w w' := by
  have d0 : decide ((8192 : Int) < (a0.size : Int)) = false := decide_eq_false (by omega)
  obtain ⟨h1, h2, h3⟩ := F.scan_back a0
  obtain ⟨ts, n, hx⟩ : ∃ ts n, F.scan a0 = (ts, n) := ⟨_, _, rfl⟩
  have hsc : ∀ W, Calls Try.prog 14 #[.string a0] W fun e w' => ∃ v, e = .returned (.tuple #[v, .int .i64 (n : Int)]) ∧ Strs w' v ts ∧ Below W.heap.size W w' := by
    intro W
    have := frame_Scan a0 W (by omega)
    rw [hx] at this
    exact this
  rw [hx] at h1 h2 h3
  simp only at h1 h2 h3
  have HS : Hid _ := hsc
  have H2 : Hid (∀ t ∈ ts, t.size ≤ 262144) := h2
  have H3 : Hid (F.all ts = a0.extract 0 n) := h3
  have HZ : Hid ((F.all ts).size ≤ 8192) := by
    unfold Hid
    rw [h3, ← F.toL_length, F.toL_extract, List.length_take]; omega
  have hn0 : decide ((0 : Int) ≤ (n : Int)) = true := decide_eq_true (by omega)
  clear hsc h2 h3 hx
  go_enter Try.func8, Try.ntmps8
  go_wp2_with fail
  refine (HS.out _).mono ?_
  rintro e w1 ⟨v, rfl, ⟨ao, c, rfl, hlc, hcm, hts, hcells⟩, hb1⟩
  have HC : Hid _ := hcells
  have HB1 : Hid (Below w.heap.size w w1) := hb1
  have hmx : ts.length ≤ 9223372036854775807 := by unfold maxLen at hcm; omega
  clear hcells hb1 hts HS hcm
  go_wp2
  go_loopw [5, 6] (fun x i wr => ∃ k : Nat, k ≤ ts.length ∧ i = .int .i64 (k : Int) ∧ x = .string (F.all (ts.take k)) ∧ Hid (Below w1.heap.size w1 wr)) (fun _ i _ => ts.length - (intOf i).toNat)
  case atStart => exact ⟨0, Nat.zero_le _, rfl, rfl, Below.refl _ _⟩
  case round =>
    obtain ⟨k, hk, rfl, rfl, hb⟩ := hrel
    by_cases hlt : k < ts.length
    · obtain ⟨g, o, e, hg, hcl⟩ : ∃ g o, ao = some ⟨g, o, none⟩ ∧ g < w1.heap.size ∧ ∀ j (h : j < ts.length), w1.cell? ⟨g, o + j, none⟩ = some (.string ts[j]) := by
        rcases HC.out with h | h
        · rw [h] at hlt; simp at hlt
        · exact h
      subst e
      have hc : wr.cell? ⟨g, o + k, none⟩ = some (.string ts[k]) := by rw [hb.out.cell (p := ⟨g, o + k, none⟩) hg]; exact hcl k hlt
      obtain ⟨t, ht⟩ : ∃ t, t = ts[k] := ⟨_, rfl⟩
      rw [← ht] at hc
      have HP : Hid _ := frame_Put_yes t wr (by rw [ht]; exact H2.out _ (List.getElem_mem hlt))
      obtain ⟨r, hr⟩ : ∃ r, r = F.record t := ⟨_, rfl⟩
      obtain ⟨x, hx⟩ : ∃ x, x = F.all (ts.take k) := ⟨_, rfl⟩
      have HN : Hid (x ++ r = F.all (ts.take (k + 1))) := by
        unfold Hid
        rw [hx, hr, ht, List.take_succ_eq_append_getElem hlt, F.all_snoc]
      have hrs : r.size ≤ 262153 := by
        have := H2.out _ (List.getElem_mem hlt)
        rw [hr, F.record_size, ht]; omega
      have hxs : x.size ≤ 8192 := by
        have := F.all_take_size ts k
        have := HZ.out
        rw [hx]; omega
      rw [← hr] at HP
      rw [← hx]
      clear hr hx ht hcl
      go_wp2_with fail
      refine Calls.mono HP.out ?_
      rintro e w2 ⟨rfl, hb2⟩
      have HB2 : Hid (Below w1.heap.size w1 w2) := hb.out.trans (hb2.mono hb.out.size)
      clear hb2
      go_wp2
      go_roundw
      case rel => exact ⟨k + 1, by omega, by go_num, by rw [HN.out], HB2⟩
      case measure => simp [intOf]; omega
    · obtain rfl : k = ts.length := by omega
      rw [List.take_length]
      have HE := H3.out
      obtain ⟨x, hx⟩ : ∃ x, x = F.all ts := ⟨_, rfl⟩
      have hE : a0.extract 0 n = x := by rw [hx, HE]
      rw [← hx]
      clear hx HE
      go_wp2_with fail
      refine (awake4 _).mono ?_
      rintro e w3 ⟨rfl, hb3⟩
      have HB3 : Hid _ := hb3
      clear hb3
      go_wp2
      go_ret
      exact ⟨rfl, HB1.out.trans ((hb.out.trans (HB3.out.mono hb.out.size)).mono HB1.out.size)⟩

theorem walk (a0 : ByteArray) (w : World) (_b0 : a0.size ≤ 140737488351232) :
    Calls Try.prog 8 #[.string a0] w fun e w' => e = .returned (.bool true) ∧ Below w.heap.size w w' := by
  by_cases h0 : a0.size ≤ 8192
  · exact walk_main a0 w h0
  · exact walk_long a0 w (decide_eq_true (by omega))

theorem own : ownKnob Try.prog.godebug = none := by kernel_rfl

set_option maxRecDepth 100000 in
theorem lifted (os : Os) (started : os.Started) (H : Type) (enc : TypeId × Value → H) :
    ReturnsInHanded {} Try.checked os 8 .any (Rows.frameTwiceSpec.pre6 enc Try.prog Try.f8 Rows.frameTwiceRow.domain false) (Rows.frameTwiceSpec.post enc Try.prog Try.f8 false true false false) := by
  refine returnsInHanded_of_change_sized (C := Try.checked) own started (by kernel_rfl) Try.func8
    (ChangeSpec.witness6 (enc := enc) (C := Try.checked) false ⟨#[], #[.string ByteArray.empty], []⟩ 8 (by kernel_rfl) (by kernel_rfl) (by kernel_rfl) (by kernel_rfl)) ?_
  intro W base args ds gs before hval0 hW _ hsz0 _
  have hsz : (DataW.weightsEach Try.prog (Try.f8.params.toList ++ Rows.frameTwiceSpec.plain.varTypes Try.prog) (ds ++ gs)).all (· ≤ reachBytes) = true := hsz0
  have hval : ∀ (j : Nat) t v, Try.f8.params[j]? = some t → args[j]? = some v → Value.okWide Try.prog W .any base t v := hval0
  have hW' := hW
  obtain ⟨p, q, hA0, hV, rfl, hfz, hnd⟩ := hW
  have hA : DataW.TrodAll enc Try.prog W 0 (fun _ => true) true Try.f8.params.toList args.toList ds p := hA0
  rw [Try.params8] at hA hval hsz
  obtain ⟨v0, vs0, d0, ds0, p0, q0, hargs, rfl, rfl, h0, r0⟩ := trodAll_cons hA
  obtain ⟨rfl, rfl, rfl⟩ := trodAll_nil r0
  obtain rfl : args = #[v0] := by cases args; simp_all
  obtain ⟨rfl, rfl⟩ := trodVars_none hV
  obtain ⟨a0, rfl, rfl, rfl, w0⟩ := open_string Try.underlying9 (hval 0 9 v0 rfl rfl) h0
  have b0 : a0.size ≤ 140737488351232 := by have := sized_string hsz (j := 0) (t := 9) rfl rfl; simpa [reachBytes] using this
  clear hA0 hval0 hsz0
  refine (walk a0 W b0).mono fun e W' ⟨he, bel⟩ => ?_
  subst he
  exact ⟨_, rfl, _, _, _, [], _, [], hW', trodAll_mk1 (shut_bool Try.underlying4 _), (trodAll_cons_mk (shut_string Try.underlying9 w0) trodAll_mk0), rfl, bel.frame _, fun h => by cases h⟩

theorem over : Rows.frameTwiceRow.holds Try.pinned (OpenSpec.ofChange Rows.frameTwiceSpec) :=
  OpenClaim.holds_of_wide 8 Try.f8 rfl rfl rfl rfl rfl rfl rfl ⟨rfl, rfl, rfl, rfl, rfl⟩ rfl rfl rfl rfl rfl (by kernel_rfl) Try.func8 (by kernel_rfl)
    (of_decide_eq_true (by kernel_rfl)) (by unfold Func.isWrapper; first | (rw [if_pos (by decide +kernel)]; kernel_rfl) | (rw [if_neg (by decide +kernel)]; exact ⟨rfl, rfl⟩))
    (fun os started H enc _ => lifted os started H enc)


end Go.Proofs.Ytpalmkneaffklaa.frameTwice
namespace Go.Proofs.Ytpalmkneaffklaa
/-- The statement. -/
theorem frameTwice_holds : Rows.FrameTwiceSaid := frameTwice.over
end Go.Proofs.Ytpalmkneaffklaa
