/-
  For every number: ModelFull answers true: a channel takes 1024 posts and refuses every further one; the argument reads afterwards as before. No condition.
-/
import Derived.Test.YtpopanfefpehnabMoLaw
import Derived.ProofKit
import Derived.OpenShut
import Derived.ShutString
import Derived.SizedLaws
namespace Go.Proofs.Ytpopanfefpehnab.modelFull
open Go.ChangeShapes Go.WideShapes Go.ChangeAt Go.RowKit
open Go.ChangeMaps (open_string shut_string)

set_option maxHeartbeats 1600000 in
set_option maxRecDepth 20000 in
theorem walk (a0 : Int) (w : World) (_b0 : -9223372036854775808 ≤ a0 ∧ a0 ≤ 9223372036854775807) :
    Calls Try.prog 3 #[.int .i64 a0] w fun e w' => e = .returned (.bool true) ∧ Below w.heap.size w w' := by
  have HNew : Hid _ := New_fresh (w := w) w (Below.refl _ w)
  obtain ⟨B, hB⟩ : ∃ B, B = w.heap.size + 2 := ⟨_, rfl⟩
  rw [← hB] at HNew
  have HA : Hid (∀ u : World, Calls Try.prog 10 #[] u fun e w' => e = .returned (.bool true) ∧ Below u.heap.size u w') := awake_c
  have HD1 : Hid (∀ X, Mb w X B Mo.new 0 [] → Calls Try.prog 8 #[.pointer (some ⟨B, 0, none⟩), .agg #[.int .i64 1, .string ⟨#[119]⟩, .string ⟨#[99]⟩, .string ⟨#[]⟩, .string ⟨#[]⟩, .string ⟨#[]⟩, .string ⟨#[]⟩, .int .i64 0, .int .i64 0]] X fun e Y => ∃ p m c, e = .returned (.agg #[.int .i64 0, .int .i64 0, .slice p m c]) ∧ Mb w Y B (Mo.setC Mo.new ⟨#[119]⟩ ⟨#[99]⟩ (some Mo.newC)) 1 []) := fun X h => h.first (by omega)
  have HD2 : Hid (∀ X, Mb w X B (Mo.setC Mo.new ⟨#[119]⟩ ⟨#[99]⟩ (some Mo.newC)) 1 [] → Calls Try.prog 8 #[.pointer (some ⟨B, 0, none⟩), .agg #[.int .i64 2, .string ⟨#[119]⟩, .string ⟨#[99]⟩, .string ⟨#[97, 110, 110]⟩, .string ⟨#[]⟩, .string ⟨#[]⟩, .string ⟨#[]⟩, .int .i64 0, .int .i64 0]] X fun e Y => ∃ p m c s', e = .returned (.agg #[.int .i64 0, .int .i64 0, .slice p m c]) ∧ Gd s' ⟨#[99]⟩ [] ∧ Mb w Y B s' 2 []) := fun X h => h.second (by omega)
  clear hB
  have HPo : Hid (∀ X, Calls Try.prog 9 #[.string ⟨#[]⟩] X fun e w' => e = .returned (.agg #[.int .i64 3, .string ⟨#[119]⟩, .string ⟨#[99]⟩, .string ⟨#[97, 110, 110]⟩, .string ⟨#[]⟩, .string ⟨#[]⟩, .string ⟨#[]⟩, .int .i64 0, .int .i64 0]) ∧ Below X.heap.size X w') := fun X => post_op _ X
  have HY : Hid (∀ X s k posts, Mb w X B s (2 + k) [] → Gd s ⟨#[99]⟩ posts → posts.length = k → k < 1024 → Calls Try.prog 8 #[.pointer (some ⟨B, 0, none⟩), .agg #[.int .i64 3, .string ⟨#[119]⟩, .string ⟨#[99]⟩, .string ⟨#[97, 110, 110]⟩, .string ⟨#[]⟩, .string ⟨#[]⟩, .string ⟨#[]⟩, .int .i64 0, .int .i64 0]] X fun e Y => ∃ p m c s' posts', e = .returned (.agg #[.int .i64 0, .int .i64 (k : Int), .slice p m c]) ∧ Gd s' ⟨#[99]⟩ posts' ∧ posts'.length = k + 1 ∧ Mb w Y B s' (2 + (k + 1)) []) := fun X s k posts h hg hl hk => by
    refine (h.postA (by omega) ⟨#[99]⟩ ⟨#[]⟩ (by decide) (by decide) hg (by omega) (by decide)).mono ?_
    rintro e Y ⟨p, m, c, he, g, hM⟩
    rw [hl] at he
    exact ⟨p, m, c, _, _, he, g, by simp [hl], hM⟩
  have HN : Hid (∀ X s k posts, Mb w X B s (2 + k) [] → Gd s ⟨#[99]⟩ posts → posts.length = 1024 → k < 2000 → Calls Try.prog 8 #[.pointer (some ⟨B, 0, none⟩), .agg #[.int .i64 3, .string ⟨#[119]⟩, .string ⟨#[99]⟩, .string ⟨#[97, 110, 110]⟩, .string ⟨#[]⟩, .string ⟨#[]⟩, .string ⟨#[]⟩, .int .i64 0, .int .i64 0]] X fun e Y => ∃ p m c s' posts', e = .returned (.agg #[.int .i64 2, .int .i64 0, .slice p m c]) ∧ Gd s' ⟨#[99]⟩ posts' ∧ posts'.length = 1024 ∧ Mb w Y B s' (2 + (k + 1)) []) := fun X s k posts h hg hl hk => by
    refine (h.postF (by omega) ⟨#[99]⟩ ⟨#[]⟩ (by decide) (by decide) hg (by omega) (by decide)).mono ?_
    rintro e Y ⟨p, m, c, he, g, hM⟩
    exact ⟨p, m, c, _, _, he, g, hl, hM⟩
  obtain ⟨m, hm⟩ : ∃ m : Nat, m = (a0 % 8).toNat := ⟨_, rfl⟩
  have hmask : bits .and .i64 a0 7 = (m : Int) := by rw [and_7, hm]; omega
  obtain ⟨t, ht⟩ : ∃ t : Nat, t = 1020 + m := ⟨_, rfl⟩
  have hwr : IntKind.i64.wrap (1020 + (m : Int)) = (t : Int) := by rw [ht]; rw [wraps_i64 _ (by omega) (by omega)]; omega
  have HT : Hid (t ≤ 1027) := by show _ ≤ _; omega
  clear hm ht _b0
  go_enter Try.func3, Try.ntmps3
  go_wp2_with fail
  refine Calls.mono HNew.out ?_
  rintro e w0 ⟨rfl, hM, _⟩
  have H0 : Hid (Mb w w0 B Mo.new 0 []) := ⟨_, hM, fun q hq => (by cases hq)⟩
  clear hM
  go_wp2_with fail
  refine (HD1.out _ H0.out).mono ?_
  rintro e w1 ⟨p1, m1, c1, rfl, hM⟩
  have H1 : Hid _ := hM
  clear hM
  go_wp2_with fail
  refine (HD2.out _ H1.out).mono ?_
  rintro e w2 ⟨p2, m2, c2, s2, rfl, hg, hM⟩
  have H2 : Hid (Gd s2 ⟨#[99]⟩ [] ∧ Mb w w2 B s2 2 []) := ⟨hg, hM⟩
  clear hg hM
  go_wp2
  go_loopw [4] (fun iv wr => ∃ (k : Nat) (s : Mo.St) (posts : List Mo.Po), iv = .int .i64 (k : Int) ∧ k ≤ t ∧ Hid (Gd s ⟨#[99]⟩ posts ∧ posts.length = min k 1024 ∧ Mb w wr B s (2 + k) [])) (fun iv _ => t - (intOf iv).toNat)
  case atStart => exact ⟨0, s2, [], rfl, Nat.zero_le _, ⟨H2.out.1, rfl, H2.out.2⟩⟩
  case round =>
    obtain ⟨k, s, posts, rfl, hkt, HS⟩ := hrel
    by_cases hlt : k < t
    · by_cases hk : k < 1024
      · have hkd : decide ((k : Int) < 1024) = true := by simp; omega
        have hkd' : decide ((1024 : Int) ≤ (k : Int)) = false := by simp; omega
        have hkb : (k : Int) ≤ 1100 := by omega
        have HC := HY.out
        have HK : Hid (k < 1024) := hk
        clear hk
        go_wp2_with fail
        refine (HPo.out _).mono ?_
        rintro e w3 ⟨rfl, hb3⟩
        have HS3 : Hid (Mb w w3 B s (2 + k) []) := HS.out.2.2.below hb3
        clear hb3
        go_wp2_with fail
        refine (HC w3 s k posts HS3.out HS.out.1 (by have := HS.out.2.1; have := HK.out; omega) HK.out).mono ?_
        rintro e w4 ⟨p4, m4, c4, s4, posts4, rfl, hg, hl, hM⟩
        have HS4 : Hid (Gd s4 ⟨#[99]⟩ posts4 ∧ posts4.length = k + 1 ∧ Mb w w4 B s4 (2 + (k + 1)) []) := ⟨hg, hl, hM⟩
        have HB4 : Hid (∀ o, Below w4.heap.size w4 (w4.alloc o)) := fun o => below_alloc w4 o
        clear hg hl hM HC
        go_wp2
        go_roundw
        case rel => exact ⟨k + 1, s4, posts4, by go_num, by omega, ⟨HS4.out.1, by have := HS4.out.2.1; have := HK.out; omega, HS4.out.2.2.below (HB4.out _)⟩⟩
        case measure => simp [intOf]; omega
      · have hkd : decide ((k : Int) < 1024) = false := by simp; omega
        have hkd' : decide ((1024 : Int) ≤ (k : Int)) = true := by simp; omega
        have hkb : (k : Int) ≤ 1100 := by have := HT.out; omega
        have HC := HN.out
        have HK : Hid (1024 ≤ k) := by show _ ≤ _; omega
        clear hk
        go_wp2_with fail
        refine (HPo.out _).mono ?_
        rintro e w3 ⟨rfl, hb3⟩
        have HS3 : Hid (Mb w w3 B s (2 + k) []) := HS.out.2.2.below hb3
        clear hb3
        go_wp2_with fail
        refine (HC w3 s k posts HS3.out HS.out.1 (by have := HS.out.2.1; have := HK.out; omega) (by have := HT.out; omega)).mono ?_
        rintro e w4 ⟨p4, m4, c4, s4, posts4, rfl, hg, hl, hM⟩
        have HS4 : Hid (Gd s4 ⟨#[99]⟩ posts4 ∧ posts4.length = 1024 ∧ Mb w w4 B s4 (2 + (k + 1)) []) := ⟨hg, hl, hM⟩
        have HB4 : Hid (∀ o, Below w4.heap.size w4 (w4.alloc o)) := fun o => below_alloc w4 o
        clear hg hl hM HC
        go_wp2
        go_roundw
        case rel => exact ⟨k + 1, s4, posts4, by go_num, by omega, ⟨HS4.out.1, by have := HS4.out.2.1; have := HK.out; omega, HS4.out.2.2.below (HB4.out _)⟩⟩
        case measure => simp [intOf]; omega
    · have HO : Hid (Below w.heap.size w wr) := HS.out.2.2.old
      go_wp2_with fail
      refine (HA.out _).mono ?_
      rintro e w3 ⟨rfl, hb3⟩
      have HB3 : Hid _ := hb3
      clear hb3
      go_wp2
      go_ret
      exact ⟨rfl, HO.out.trans (HB3.out.mono HO.out.size)⟩

theorem own : ownKnob Try.prog.godebug = none := by kernel_rfl

set_option maxRecDepth 100000 in
theorem lifted (os : Os) (started : os.Started) (H : Type) (enc : TypeId × Value → H) :
    ReturnsInHanded {} Try.checked os 3 .any (Rows.modelFullSpec.pre6 enc Try.prog Try.f3 Rows.modelFullRow.domain false) (Rows.modelFullSpec.post enc Try.prog Try.f3 false true false false) := by
  refine returnsInHanded_of_change_sized (C := Try.checked) own started (by kernel_rfl) Try.func3
    (ChangeSpec.witness6 (enc := enc) (C := Try.checked) false ⟨#[], #[.int .i64 0], []⟩ 8 (by kernel_rfl) (by kernel_rfl) (by kernel_rfl) (by kernel_rfl)) ?_
  intro W base args ds gs before hval0 hW _ hsz0 _
  have hsz : (DataW.weightsEach Try.prog (Try.f3.params.toList ++ Rows.modelFullSpec.plain.varTypes Try.prog) (ds ++ gs)).all (· ≤ reachBytes) = true := hsz0
  have hval : ∀ (j : Nat) t v, Try.f3.params[j]? = some t → args[j]? = some v → Value.okWide Try.prog W .any base t v := hval0
  have hW' := hW
  obtain ⟨p, q, hA0, hV, rfl, hfz, hnd⟩ := hW
  have hA : DataW.TrodAll enc Try.prog W 0 (fun _ => true) true Try.f3.params.toList args.toList ds p := hA0
  rw [Try.params3] at hA hval hsz
  obtain ⟨v0, vs0, d0, ds0, p0, q0, hargs, rfl, rfl, h0, r0⟩ := trodAll_cons hA
  obtain ⟨rfl, rfl, rfl⟩ := trodAll_nil r0
  obtain rfl : args = #[v0] := by cases args; simp_all
  obtain ⟨rfl, rfl⟩ := trodVars_none hV
  obtain ⟨a0, rfl, rfl, rfl, w0⟩ := open_int Try.underlying3 (hval 0 3 v0 rfl rfl) h0
  have b0 : -9223372036854775808 ≤ a0 ∧ a0 ≤ 9223372036854775807 := by simpa [Lit.wf, IntKind.min, IntKind.max, IntKind.signed, IntKind.bits] using w0
  clear hA0 hval0 hsz0
  refine (walk a0 W b0).mono fun e W' ⟨he, bel⟩ => ?_
  subst he
  exact ⟨_, rfl, _, _, _, [], _, [], hW', trodAll_mk1 (shut_bool Try.underlying4 _), (trodAll_cons_mk (shut_int Try.underlying3 w0) trodAll_mk0), rfl, bel.frame _, fun h => by cases h⟩

theorem over : Rows.modelFullRow.holds Try.pinned (OpenSpec.ofChange Rows.modelFullSpec) :=
  OpenClaim.holds_of_wide 3 Try.f3 rfl rfl rfl rfl rfl rfl rfl ⟨rfl, rfl, rfl, rfl, rfl⟩ rfl rfl rfl rfl rfl (by kernel_rfl) Try.func3 (by kernel_rfl)
    (of_decide_eq_true (by kernel_rfl)) (by unfold Func.isWrapper; first | (rw [if_pos (by decide +kernel)]; kernel_rfl) | (rw [if_neg (by decide +kernel)]; exact ⟨rfl, rfl⟩))
    (fun os started H enc _ => lifted os started H enc)


end Go.Proofs.Ytpopanfefpehnab.modelFull
namespace Go.Proofs.Ytpopanfefpehnab
/-- The statement. -/
theorem modelFull_holds : Rows.ModelFullSaid := modelFull.over
end Go.Proofs.Ytpopanfefpehnab
