/-
  For every list of numbers and every number: ModelUsers answers true: a channel's members are those who joined it, rising, each once, and who is off is none of any; the arguments read afterwards as before. No condition.
-/
import Derived.Test.YtkioeahlajjmiaaMoUsers
import Derived.Test.YtkioeahlajjmiaaMoArgs
import Derived.Deep.CutRange
import Derived.ProofKit
import Derived.OpenShut
import Derived.ShutString
import Derived.SizedLaws
namespace Go.Proofs.Ytkioeahlajjmiaa.modelUsers
open Go.ChangeShapes Go.WideShapes Go.ChangeAt Go.RowKit
open Go.ChangeMaps (open_string shut_string)

theorem run_err (E A : Int) (p : Option Addr) (m c : Nat) (X : World) : (Instr.field 29 (.agg #[.int .i64 E, .int .i64 A, .slice p m c]) 0).run Try.prog X = .ok (.int .i64 E) X := by kernel_rfl
theorem mod16 (x : Int) : ∃ a : Nat, bits .and .i64 x 15 = (a : Int) ∧ a < 16 := ⟨(x % 16).toNat, by rw [and_15]; omega, by omega⟩

set_option maxHeartbeats 4000000 in
set_option maxRecDepth 20000 in
theorem walk (v0 : Value) (a0 : List Int) (a1 : Int) (w : World) (_b0 : Elems w 1 i1Cells In64 v0 a0) (_b1 : -9223372036854775808 ≤ a1 ∧ a1 ≤ 9223372036854775807) :
    Calls Try.prog 5 #[v0, .int .i64 a1] w fun e w' => e = .returned (.bool true) ∧ Below w.heap.size w w' := by
  have HNew : Hid _ := New_fresh (w := w) w (Below.refl _ w)
  obtain ⟨B, hB⟩ : ∃ B, B = w.heap.size + 2 := ⟨_, rfl⟩
  rw [← hB] at HNew
  have HA : Hid (∀ u : World, Calls Try.prog 11 #[] u fun e w' => e = .returned (.bool true) ∧ Below u.heap.size u w') := awake_c
  have HD1 : Hid (∀ X, Mb w X B Mo.new 0 [] → Calls Try.prog 10 #[.pointer (some ⟨B, 0, none⟩), .agg #[.int .i64 1, .string ⟨#[119]⟩, .string ⟨#[99]⟩, .string ⟨#[]⟩, .string ⟨#[]⟩, .string ⟨#[]⟩, .string ⟨#[]⟩, .int .i64 0, .int .i64 0]] X fun e Y => ∃ p m c, e = .returned (.agg #[.int .i64 0, .int .i64 0, .slice p m c]) ∧ Mb w Y B (Mo.setC Mo.new ⟨#[119]⟩ ⟨#[99]⟩ (some Mo.newC)) 1 []) := fun X h => h.first (by omega)
  have HJ : Hid (∀ (X : World) (s : Mo.St) (T : Nat → Bool) (k n bt : Nat), Us s T → s.off = (fun _ => false) → Mw w X B s n bt T → k < 16 → n < 1000 → Calls Try.prog 10 #[.pointer (some ⟨B, 0, none⟩), .agg #[.int .i64 2, .string ⟨#[119]⟩, .string ⟨#[99]⟩, .string (nmB k), .string ⟨#[]⟩, .string ⟨#[]⟩, .string ⟨#[]⟩, .int .i64 0, .int .i64 0]] X fun e Y => ∃ p m c s', e = .returned (.agg #[.int .i64 (if T k = true then 90 else 0), .int .i64 0, .slice p m c]) ∧ Us s' (upT T k true) ∧ s'.off = (fun _ => false) ∧ Mw w Y B s' (n + 1) bt T) := fun X s T k n bt hu ho hM hk hn => by
    obtain ⟨q1, q2, q3⟩ := hu.join ho hk
    refine (hM.do6 (by omega) ⟨2, ⟨#[119]⟩, ⟨#[99]⟩, nmB k, ⟨#[]⟩, ⟨#[]⟩, ⟨#[]⟩, 0, 0⟩ ⟨okW, Ok.of (by show (⟨#[99]⟩ : ByteArray).size ≤ 2000; decide), nmB_ok k, okE, okE, okE⟩).mono ?_
    rintro e Y ⟨p, m, c, rfl, hM'⟩
    rw [q1]
    exact ⟨p, m, c, _, rfl, q2, q3, hM'⟩
  have HOf : Hid (∀ (X : World) (s : Mo.St) (T T' : Nat → Bool) (k n bt : Nat), Us s T → s.off = (fun _ => false) → Mw w X B s n bt T' → k < 16 → n < 1000 → Calls Try.prog 10 #[.pointer (some ⟨B, 0, none⟩), .agg #[.int .i64 7, .string ⟨#[]⟩, .string ⟨#[]⟩, .string (nmB k), .string ⟨#[]⟩, .string ⟨#[]⟩, .string ⟨#[]⟩, .int .i64 0, .int .i64 0]] X fun e Y => ∃ p m c s', e = .returned (.agg #[.int .i64 0, .int .i64 0, .slice p m c]) ∧ Us s' (upT T k false) ∧ Mw w Y B s' (n + 1) bt T') := fun X s T T' k n bt hu ho hM hk hn => by
    obtain ⟨q1, q2⟩ := hu.off ho hk
    refine (hM.do6 (by omega) ⟨7, ⟨#[]⟩, ⟨#[]⟩, nmB k, ⟨#[]⟩, ⟨#[]⟩, ⟨#[]⟩, 0, 0⟩ ⟨okE, okE, nmB_ok k, okE, okE, okE⟩).mono ?_
    rintro e Y ⟨p, m, c, rfl, hM'⟩
    rw [q1]
    exact ⟨p, m, c, _, rfl, q2, hM'⟩
  have HMe : Hid (∀ (X : World) (s : Mo.St) (T T' : Nat → Bool) (n bt : Nat), Us s T → Mw w X B s n bt T' → n < 1000 → Calls Try.prog 12 #[.pointer (some ⟨B, 0, none⟩), .string ⟨#[119]⟩, .string ⟨#[99]⟩] X fun e Y => ∃ p c, e = .returned (.tuple #[.slice p (nms T).length c, .int .i64 0]) ∧ StrV Y (.slice p (nms T).length c) (nms T) ∧ Below X.heap.size X Y) := fun X s T T' n bt hu hM hn => by
    obtain ⟨mem, h1, h2⟩ := hu
    refine (hM.mb.members (by omega) okW (Ok.of (by show (⟨#[99]⟩ : ByteArray).size ≤ 2000; decide)) h1 (nms_nodup T) (fun a => ?_)).mono ?_
    · rw [h2]
      constructor
      · intro ha
        obtain ⟨k, _, _, e⟩ := nms_mem.1 ha
        exact ⟨by rw [e]; exact nmB_ok k, ha⟩
      · exact fun ha => ha.2
    · rintro e Y ⟨p, m, c, rfl, q1, _, q3⟩
      rw [nms_risen] at q1
      obtain ⟨p', c', hv, hrest⟩ := q1
      injection hv with e1 e2 e3
      subst e1 e2 e3
      exact ⟨p, c, rfl, ⟨p, c, rfl, hrest⟩, q3⟩
  obtain ⟨p0, c0, hv0, hc1, hc2, hgood, hcells⟩ := _b0
  obtain ⟨n0, hn0⟩ : ∃ n0, n0 = a0.length := ⟨_, rfl⟩
  rw [← hn0] at hv0 hc1
  have HI : Hid (∀ k, k < n0 → ∃ q g o, p0 = some ⟨g, o, none⟩ ∧ ∀ X, Below w.heap.size w X → X.cell? ⟨g, o + k, none⟩ = some (.int .i64 q)) := by
    intro k hk
    obtain ⟨q, hq⟩ : ∃ q, a0[k]? = some q := ⟨_, List.getElem?_eq_getElem (by omega)⟩
    rcases hcells with h | ⟨g, o, hp, hg, hcs⟩
    · rw [h] at hq
      simp at hq
    · refine ⟨q, g, o, hp, fun X hX => ?_⟩
      rw [hX.cell (p := ⟨g, o + k, none⟩) hg]
      have := hcs k q hq 0 _ rfl
      rw [Nat.mul_one, Nat.add_zero] at this
      exact this
  subst hv0
  have hcm := hc2
  unfold maxLen at hcm
  obtain ⟨ko, hmo, hko⟩ := mod16 a1
  have HKo : Hid (ko < 16) := hko
  have ho0 : (0 : Int) ≤ (ko : Int) := by omega
  have ho1 : (ko : Int) < 16 := by omega
  obtain ⟨ow1, ow2⟩ := nums97 (k := ko) (by omega)
  have hmk := run_make16
  clear hko _b1 hn0 hgood hcells hc2 hB
  go_enter Try.func5, Try.ntmps5
  go_wp2_with fail
  refine Calls.mono HNew.out ?_
  rintro e w0 ⟨rfl, hM, _⟩
  have H0 : Hid (Mb w w0 B Mo.new 0 []) := ⟨_, hM, fun q hq => (by cases hq)⟩
  clear hM
  go_wp2_with fail
  refine (HD1.out _ H0.out).mono ?_
  rintro e w1 ⟨p1, m1, c1, rfl, hM⟩
  have H1 : Hid (Mb w w1 B (Mo.setC Mo.new ⟨#[119]⟩ ⟨#[99]⟩ (some Mo.newC)) 1 []) := hM
  clear hM
  obtain ⟨X0, hX0⟩ : ∃ X0, X0 = w1.alloc (.cells no16 4) := ⟨_, rfl⟩
  obtain ⟨bt, hbt⟩ : ∃ bt, bt = w1.heap.size := ⟨_, rfl⟩
  obtain ⟨s0, hs0⟩ : ∃ s0, s0 = Mo.setC Mo.new ⟨#[119]⟩ ⟨#[99]⟩ (some Mo.newC) := ⟨_, rfl⟩
  have HS0 : Hid (Us s0 (fun _ => false) ∧ s0.off = (fun _ => false) ∧ Mw w X0 B s0 (1 + 0) bt (fun _ => false)) := by
    rw [hX0, hbt, hs0]
    exact ⟨Us.made (by simp [Mo.setC]), rfl, Mw.begin H1.out⟩
  clear hs0
  go_wp2
  rw [← hX0, ← hbt]
  clear hX0 hbt hmk
  go_loopw [7] (fun iv wr => ∃ (i : Nat) (s : Mo.St) (T : Nat → Bool), iv = .int .i64 (i : Int) ∧ i ≤ n0 ∧ i ≤ 40 ∧ Hid (Us s T ∧ s.off = (fun _ => false) ∧ Mw w wr B s (1 + i) bt T)) (fun iv _ => 40 - (intOf iv).toNat)
  case atStart => exact ⟨0, _, _, rfl, by omega, by omega, HS0⟩
  case round =>
    clear HS0
    obtain ⟨i, s, T, rfl, hin, hi40, HS⟩ := hrel
    by_cases hlt : i < n0 ∧ i < 40
    · obtain ⟨hlt, hlt2⟩ := hlt
      obtain ⟨q, g, o, hp, hX⟩ := HI.out i hlt
      subst hp
      have y0 := hX wr HS.out.2.2.old
      obtain ⟨k, hmk, hk16⟩ := mod16 q
      obtain ⟨kw1, kw2⟩ := nums97 (k := k) (by omega)
      have HK : Hid (k < 16) := hk16
      have hk0 : (0 : Int) ≤ (k : Int) := by omega
      have hk1 : (k : Int) < 16 := by omega
      have hi0 : (0 : Int) ≤ (i : Int) := by omega
      have hi1 : (i : Int) < (n0 : Int) := by omega
      have hi2 : (i : Int) < 40 := by omega
      have hcv := convN k hk16 wr
      have hMx : Mw w (wr.alloc (.cells #[.int .u8 117, .int .u8 (97 + (k : Int))] 5)) B s (1 + i) bt T := HS.out.2.2.below (below_alloc _ _)
      have HC : Hid _ := HJ.out _ s T k (1 + i) bt HS.out.1 HS.out.2.1 hMx hk16 (by omega)
      obtain ⟨E, hE⟩ : ∃ E : Int, E = if T k = true then 90 else 0 := ⟨_, rfl⟩
      rw [← hE] at HC
      have HE : Hid (E = if T k = true then 90 else 0) := hE
      clear hX hMx hk16 hE
      go_wp2_with fail
      refine Calls.mono HC.out ?_
      rintro e w2 ⟨p, m, c, s', rfl, hU, hOf, hM2⟩
      obtain ⟨w3, hw3⟩ : ∃ w3, w3 = w2.alloc (.cells #[.int .i64 E, .int .i64 0, .slice p m c] 29) := ⟨_, rfl⟩
      obtain ⟨b9, hb9⟩ : ∃ b9, b9 = w2.heap.size := ⟨_, rfl⟩
      have h23 : Below w2.heap.size w2 w3 := by rw [hw3]; exact below_alloc _ _
      have hl9 : b9 < w3.heap.size := by rw [hw3, hb9]; simp
      have H3 : Hid (Us s' (upT T k true) ∧ s'.off = (fun _ => false) ∧ Mw w w3 B s' (1 + (i + 1)) bt T) := ⟨hU, hOf, hM2.below h23⟩
      have HSc : Hid (∀ X, Below w3.heap.size w3 X → X.cell? ⟨b9, 0, none⟩ = some (.int .i64 E) ∧ X.cell? ⟨bt, k, none⟩ = some (.bool (T k))) := fun X hX => by
        rw [hX.cell (p := ⟨b9, 0, none⟩) hl9]
        exact ⟨by rw [hw3, hb9]; exact World.cell?_alloc_mark w2 _ _ _ 0, ((H3.out.2.2.below hX).at HK.out).1⟩
      have H4 : Hid (Us s' (upT T k true) ∧ s'.off = (fun _ => false) ∧ Mw w (w3.drew.setCell ⟨bt, k, none⟩ (.bool true)) B s' (1 + (i + 1)) bt (upT T k true)) := ⟨hU, hOf, (H3.out.2.2.below (Below.refl _ _).drew).set HK.out true⟩
      have HFz : Hid (w3.drew.frozen? ⟨bt, k, none⟩ = false) := ((H3.out.2.2.below (Below.refl _ _).drew).at HK.out).2
      have hdz : Below w3.heap.size w3 w3.drew := (Below.refl _ _).drew
      clear hU hOf hM2 h23 hl9 y0 hcv
      go_upto_region 11 with fail
      rw [← hw3, ← hb9]
      clear hw3 hb9
      cases hT : T k with
      | true =>
        rw [hT] at HSc
        have hE : E = 90 := by rw [HE.out, hT]; rfl
        subst hE
        have hS0 := HSc.out _ hdz
        refine wp_region_held_drew (S := fun X => X.cell? ⟨b9, 0, none⟩ = some (.int .i64 90) ∧ X.cell? ⟨bt, k, none⟩ = some (.bool true)) (by kernel_rfl) hS0 (fun hHeld => ?_)
        clear hS0
        refine take7 (i := 0) (d := 44) (v := .pointer (some ⟨b9, 0, none⟩)) rfl rfl (by kernel_rfl) (by kernel_rfl) (by kernel_rfl) (fun _ _ _ h => h) (Or.inl ⟨by rfl, ?_⟩) (by assumption) ?_
        · intro X hSw
          go_simp
        simp only [Act.put, List.setIfInBounds_toArray, List.set_cons_zero, List.set_cons_succ]
        refine take7 (i := 1) (d := 45) (v := .int .i64 90) rfl rfl (by kernel_rfl) (by kernel_rfl) (by kernel_rfl) (fun _ _ _ h => h) (Or.inl ⟨by rfl, ?_⟩) (by assumption) ?_
        · intro X hSw
          go_simp
        simp only [Act.put, List.setIfInBounds_toArray, List.set_cons_zero, List.set_cons_succ]
        refine take7 (i := 2) (d := 46) (v := .bool true) rfl rfl (by kernel_rfl) (by kernel_rfl) (by kernel_rfl) (fun _ _ _ h => h) (Or.inl ⟨by rfl, ?_⟩) (by assumption) ?_
        · intro X hSw
          go_simp
        simp only [Act.put, List.setIfInBounds_toArray, List.set_cons_zero, List.set_cons_succ]
        refine take7 (i := 3) (d := 47) (v := .slice (some ⟨bt, 0, none⟩) 16 16) rfl rfl (by kernel_rfl) (by kernel_rfl) (by kernel_rfl) (fun _ _ _ h => h) (Or.inl ⟨by rfl, ?_⟩) (by assumption) ?_
        · intro X hSw
          go_simp
        simp only [Act.put, List.setIfInBounds_toArray, List.set_cons_zero, List.set_cons_succ]
        refine take7 (i := 4) (d := 48) (v := .int .i64 (k : Int)) rfl rfl (by kernel_rfl) (by kernel_rfl) (by kernel_rfl) (fun _ _ _ h => h) (Or.inl ⟨by rfl, ?_⟩) (by assumption) ?_
        · intro X hSw
          go_simp
        simp only [Act.put, List.setIfInBounds_toArray, List.set_cons_zero, List.set_cons_succ]
        refine take7 (i := 5) (d := 49) (v := .pointer (some ⟨bt, k, none⟩)) rfl rfl (by kernel_rfl) (by kernel_rfl) (by kernel_rfl) (fun _ _ _ h => h) (Or.inl ⟨by rfl, ?_⟩) (by assumption) ?_
        · intro X hSw
          go_simp
        simp only [Act.put, List.setIfInBounds_toArray, List.set_cons_zero, List.set_cons_succ]
        refine take7 (i := 6) (d := 50) (v := .bool true) rfl rfl (by kernel_rfl) (by kernel_rfl) (by kernel_rfl) (fun _ _ _ h => h) (Or.inl ⟨by rfl, ?_⟩) (by assumption) ?_
        · intro X hSw
          go_simp
        simp only [Act.put, List.setIfInBounds_toArray, List.set_cons_zero, List.set_cons_succ]
        refine take7 (i := 7) (d := 51) (v := .bool false) rfl rfl (by kernel_rfl) (by kernel_rfl) (by kernel_rfl) (fun _ _ _ h => h) (Or.inl ⟨by rfl, ?_⟩) (by assumption) ?_
        · intro X hSw
          go_simp
        simp only [Act.put, List.setIfInBounds_toArray, List.set_cons_zero, List.set_cons_succ]
        refine take7 (i := 8) (d := 52) (v := .bool false) rfl rfl (by kernel_rfl) (by kernel_rfl) (by kernel_rfl) (fun _ _ _ h => h) (Or.inl ⟨by rfl, ?_⟩) (by assumption) ?_
        · intro X hSw
          go_simp
        simp only [Act.put, List.setIfInBounds_toArray, List.set_cons_zero, List.set_cons_succ]
        refine take7 (i := 9) (d := 53) (v := .pointer (some ⟨b9, 0, none⟩)) rfl rfl (by kernel_rfl) (by kernel_rfl) (by kernel_rfl) (fun _ _ _ h => h) (Or.inl ⟨by rfl, ?_⟩) (by assumption) ?_
        · intro X hSw
          go_simp
        simp only [Act.put, List.setIfInBounds_toArray, List.set_cons_zero, List.set_cons_succ]
        refine take7 (i := 10) (d := 54) (v := .int .i64 90) rfl rfl (by kernel_rfl) (by kernel_rfl) (by kernel_rfl) (fun _ _ _ h => h) (Or.inl ⟨by rfl, ?_⟩) (by assumption) ?_
        · intro X hSw
          go_simp
        simp only [Act.put, List.setIfInBounds_toArray, List.set_cons_zero, List.set_cons_succ]
        refine take7 (i := 11) (d := 55) (v := .bool true) rfl rfl (by kernel_rfl) (by kernel_rfl) (by kernel_rfl) (fun _ _ _ h => h) (Or.inl ⟨by rfl, ?_⟩) (by assumption) ?_
        · intro X hSw
          go_simp
        simp only [Act.put, List.setIfInBounds_toArray, List.set_cons_zero, List.set_cons_succ]
        refine take7 (i := 12) (d := 56) (v := .bool true) rfl rfl (by kernel_rfl) (by kernel_rfl) (by kernel_rfl) (fun _ _ _ h => h) (Or.inl ⟨by rfl, ?_⟩) (by assumption) ?_
        · intro X hSw
          go_simp
        simp only [Act.put, List.setIfInBounds_toArray, List.set_cons_zero, List.set_cons_succ]
        refine take7 (i := 13) (d := 57) (v := .pointer (some ⟨b9, 0, none⟩)) rfl rfl (by kernel_rfl) (by kernel_rfl) (by kernel_rfl) (fun _ _ _ h => h) (Or.inl ⟨by rfl, ?_⟩) (by assumption) ?_
        · intro X hSw
          go_simp
        simp only [Act.put, List.setIfInBounds_toArray, List.set_cons_zero, List.set_cons_succ]
        refine take7 (i := 14) (d := 58) (v := .int .i64 90) rfl rfl (by kernel_rfl) (by kernel_rfl) (by kernel_rfl) (fun _ _ _ h => h) (Or.inl ⟨by rfl, ?_⟩) (by assumption) ?_
        · intro X hSw
          go_simp
        simp only [Act.put, List.setIfInBounds_toArray, List.set_cons_zero, List.set_cons_succ]
        refine take7 (i := 15) (d := 59) (v := .bool false) rfl rfl (by kernel_rfl) (by kernel_rfl) (by kernel_rfl) (fun _ _ _ h => h) (Or.inl ⟨by rfl, ?_⟩) (by assumption) ?_
        · intro X hSw
          go_simp
        simp only [Act.put, List.setIfInBounds_toArray, List.set_cons_zero, List.set_cons_succ]
        refine take7 (i := 16) (d := 60) (v := .bool false) rfl rfl (by kernel_rfl) (by kernel_rfl) (by kernel_rfl) (fun _ _ _ h => h) (Or.inl ⟨by rfl, ?_⟩) (by assumption) ?_
        · intro X hSw
          go_simp
        simp only [Act.put, List.setIfInBounds_toArray, List.set_cons_zero, List.set_cons_succ]
        refine take7 (i := 17) (d := 61) (v := .bool false) rfl rfl (by kernel_rfl) (by kernel_rfl) (by kernel_rfl) (fun _ _ _ h => h) (Or.inl ⟨by rfl, ?_⟩) (by assumption) ?_
        · intro X hSw
          go_simp
        simp only [Act.put, List.setIfInBounds_toArray, List.set_cons_zero, List.set_cons_succ]
        refine wpAnyH_done (by kernel_rfl) ?_ _
        have hfz := HFz.out
        obtain ⟨hS0, hS1⟩ := hHeld
        clear hdz
        go_wp2
        go_roundw
        case rel => exact ⟨i + 1, _, _, by go_num, by omega, by omega, H4⟩
        case measure => simp [intOf]; omega
      | false =>
        rw [hT] at HSc
        have hE : E = 0 := by rw [HE.out, hT]; rfl
        subst hE
        have hS0 := HSc.out _ hdz
        refine wp_region_held_drew (S := fun X => X.cell? ⟨b9, 0, none⟩ = some (.int .i64 0) ∧ X.cell? ⟨bt, k, none⟩ = some (.bool false)) (by kernel_rfl) hS0 (fun hHeld => ?_)
        clear hS0
        refine take7 (i := 0) (d := 44) (v := .pointer (some ⟨b9, 0, none⟩)) rfl rfl (by kernel_rfl) (by kernel_rfl) (by kernel_rfl) (fun _ _ _ h => h) (Or.inl ⟨by rfl, ?_⟩) (by assumption) ?_
        · intro X hSw
          go_simp
        simp only [Act.put, List.setIfInBounds_toArray, List.set_cons_zero, List.set_cons_succ]
        refine take7 (i := 1) (d := 45) (v := .int .i64 0) rfl rfl (by kernel_rfl) (by kernel_rfl) (by kernel_rfl) (fun _ _ _ h => h) (Or.inl ⟨by rfl, ?_⟩) (by assumption) ?_
        · intro X hSw
          go_simp
        simp only [Act.put, List.setIfInBounds_toArray, List.set_cons_zero, List.set_cons_succ]
        refine take7 (i := 2) (d := 46) (v := .bool false) rfl rfl (by kernel_rfl) (by kernel_rfl) (by kernel_rfl) (fun _ _ _ h => h) (Or.inl ⟨by rfl, ?_⟩) (by assumption) ?_
        · intro X hSw
          go_simp
        simp only [Act.put, List.setIfInBounds_toArray, List.set_cons_zero, List.set_cons_succ]
        refine take7 (i := 3) (d := 47) (v := .slice (some ⟨bt, 0, none⟩) 16 16) rfl rfl (by kernel_rfl) (by kernel_rfl) (by kernel_rfl) (fun _ _ _ h => h) (Or.inl ⟨by rfl, ?_⟩) (by assumption) ?_
        · intro X hSw
          go_simp
        simp only [Act.put, List.setIfInBounds_toArray, List.set_cons_zero, List.set_cons_succ]
        refine take7 (i := 4) (d := 48) (v := .int .i64 (k : Int)) rfl rfl (by kernel_rfl) (by kernel_rfl) (by kernel_rfl) (fun _ _ _ h => h) (Or.inl ⟨by rfl, ?_⟩) (by assumption) ?_
        · intro X hSw
          go_simp
        simp only [Act.put, List.setIfInBounds_toArray, List.set_cons_zero, List.set_cons_succ]
        refine take7 (i := 5) (d := 49) (v := .pointer (some ⟨bt, k, none⟩)) rfl rfl (by kernel_rfl) (by kernel_rfl) (by kernel_rfl) (fun _ _ _ h => h) (Or.inl ⟨by rfl, ?_⟩) (by assumption) ?_
        · intro X hSw
          go_simp
        simp only [Act.put, List.setIfInBounds_toArray, List.set_cons_zero, List.set_cons_succ]
        refine take7 (i := 6) (d := 50) (v := .bool false) rfl rfl (by kernel_rfl) (by kernel_rfl) (by kernel_rfl) (fun _ _ _ h => h) (Or.inl ⟨by rfl, ?_⟩) (by assumption) ?_
        · intro X hSw
          go_simp
        simp only [Act.put, List.setIfInBounds_toArray, List.set_cons_zero, List.set_cons_succ]
        refine take7 (i := 7) (d := 51) (v := .bool false) rfl rfl (by kernel_rfl) (by kernel_rfl) (by kernel_rfl) (fun _ _ _ h => h) (Or.inl ⟨by rfl, ?_⟩) (by assumption) ?_
        · intro X hSw
          go_simp
        simp only [Act.put, List.setIfInBounds_toArray, List.set_cons_zero, List.set_cons_succ]
        refine take7 (i := 8) (d := 52) (v := .bool false) rfl rfl (by kernel_rfl) (by kernel_rfl) (by kernel_rfl) (fun _ _ _ h => h) (Or.inl ⟨by rfl, ?_⟩) (by assumption) ?_
        · intro X hSw
          go_simp
        simp only [Act.put, List.setIfInBounds_toArray, List.set_cons_zero, List.set_cons_succ]
        refine take7 (i := 9) (d := 53) (v := .pointer (some ⟨b9, 0, none⟩)) rfl rfl (by kernel_rfl) (by kernel_rfl) (by kernel_rfl) (fun _ _ _ h => h) (Or.inl ⟨by rfl, ?_⟩) (by assumption) ?_
        · intro X hSw
          go_simp
        simp only [Act.put, List.setIfInBounds_toArray, List.set_cons_zero, List.set_cons_succ]
        refine take7 (i := 10) (d := 54) (v := .int .i64 0) rfl rfl (by kernel_rfl) (by kernel_rfl) (by kernel_rfl) (fun _ _ _ h => h) (Or.inl ⟨by rfl, ?_⟩) (by assumption) ?_
        · intro X hSw
          go_simp
        simp only [Act.put, List.setIfInBounds_toArray, List.set_cons_zero, List.set_cons_succ]
        refine take7 (i := 11) (d := 55) (v := .bool false) rfl rfl (by kernel_rfl) (by kernel_rfl) (by kernel_rfl) (fun _ _ _ h => h) (Or.inl ⟨by rfl, ?_⟩) (by assumption) ?_
        · intro X hSw
          go_simp
        simp only [Act.put, List.setIfInBounds_toArray, List.set_cons_zero, List.set_cons_succ]
        refine take7 (i := 12) (d := 56) (v := .bool false) rfl rfl (by kernel_rfl) (by kernel_rfl) (by kernel_rfl) (fun _ _ _ h => h) (Or.inl ⟨by rfl, ?_⟩) (by assumption) ?_
        · intro X hSw
          go_simp
        simp only [Act.put, List.setIfInBounds_toArray, List.set_cons_zero, List.set_cons_succ]
        refine take7 (i := 13) (d := 57) (v := undef) rfl rfl (by kernel_rfl) (by kernel_rfl) (by kernel_rfl) (fun _ _ _ h => h) (Or.inr ⟨by rfl, rfl⟩) (by assumption) ?_
        simp only [Act.put, List.setIfInBounds_toArray, List.set_cons_zero, List.set_cons_succ]
        refine take7 (i := 14) (d := 58) (v := undef) rfl rfl (by kernel_rfl) (by kernel_rfl) (by kernel_rfl) (fun _ _ _ h => h) (Or.inr ⟨by rfl, rfl⟩) (by assumption) ?_
        simp only [Act.put, List.setIfInBounds_toArray, List.set_cons_zero, List.set_cons_succ]
        refine take7 (i := 15) (d := 59) (v := undef) rfl rfl (by kernel_rfl) (by kernel_rfl) (by kernel_rfl) (fun _ _ _ h => h) (Or.inr ⟨by rfl, rfl⟩) (by assumption) ?_
        simp only [Act.put, List.setIfInBounds_toArray, List.set_cons_zero, List.set_cons_succ]
        refine take7 (i := 16) (d := 60) (v := .bool false) rfl rfl (by kernel_rfl) (by kernel_rfl) (by kernel_rfl) (fun _ _ _ h => h) (Or.inl ⟨by rfl, ?_⟩) (by assumption) ?_
        · intro X hSw
          go_simp
        simp only [Act.put, List.setIfInBounds_toArray, List.set_cons_zero, List.set_cons_succ]
        refine take7 (i := 17) (d := 61) (v := .bool false) rfl rfl (by kernel_rfl) (by kernel_rfl) (by kernel_rfl) (fun _ _ _ h => h) (Or.inl ⟨by rfl, ?_⟩) (by assumption) ?_
        · intro X hSw
          go_simp
        simp only [Act.put, List.setIfInBounds_toArray, List.set_cons_zero, List.set_cons_succ]
        refine wpAnyH_done (by kernel_rfl) ?_ _
        have hfz := HFz.out
        obtain ⟨hS0, hS1⟩ := hHeld
        clear hdz
        go_wp2
        go_roundw
        case rel => exact ⟨i + 1, _, _, by go_num, by omega, by omega, H4⟩
        case measure => simp [intOf]; omega
    · by_cases hA : i < n0
      · have h1 : (i : Int) < (n0 : Int) := by omega
        have h2 : ¬ (i : Int) < 40 := by omega
        clear hlt
        have H5 : Hid (Us s T ∧ s.off = (fun _ => false) ∧ Mw w (wr.setCell ⟨bt, ko, none⟩ (.bool false)) B s (1 + i) bt (upT T ko false)) := ⟨HS.out.1, HS.out.2.1, HS.out.2.2.set HKo.out false⟩
        obtain ⟨d0, f0⟩ := HS.out.2.2.at HKo.out
        have HI1 : Hid (1 + i < 100) := by show _ < _; omega
        go_upto_region 15 with fail
        obtain ⟨z, hz⟩ : ∃ z, z = wr.setCell ⟨bt, ko, none⟩ (.bool false) := ⟨_, rfl⟩
        rw [← hz] at H5 ⊢
        clear hz d0 f0
        have hcv := convN ko HKo.out z
        have hMx : Mw w (z.alloc (.cells #[.int .u8 117, .int .u8 (97 + (ko : Int))] 5)) B s (1 + i) bt (upT T ko false) := H5.out.2.2.below (below_alloc _ _)
        have HC : Hid _ := HOf.out _ s T (upT T ko false) ko (1 + i) bt H5.out.1 H5.out.2.1 hMx HKo.out (by have := HI1.out; omega)
        clear hMx
        go_wp2_with fail
        refine Calls.mono HC.out ?_
        rintro e w2 ⟨p, m, c, s', rfl, hU, hM2⟩
        have H6 : Hid (Us s' (upT T ko false) ∧ Mw w w2 B s' (1 + i + 1) bt (upT T ko false)) := ⟨hU, hM2⟩
        clear hU hM2 hcv
        have hfd := run_err 0 0 p m c w2
        obtain ⟨T2, hT2⟩ : ∃ T2, T2 = upT T ko false := ⟨_, rfl⟩
        rw [← hT2] at H6
        clear hT2
        have HC2 : Hid _ := HMe.out w2 s' T2 T2 (1 + i + 1) bt H6.out.1 H6.out.2 (by have := HI1.out; omega)
        go_wp2_with fail
        refine Calls.mono HC2.out ?_
        rintro e w6 ⟨pl, cl, rfl, hst, hb6⟩
        have HM6 : Hid (Mw w w6 B s' (1 + i + 1) bt T2) := H6.out.2.below hb6
        have HSt : Hid (StrV w6 (.slice pl (nms T2).length cl) (nms T2)) := hst
        have HTa : Hid (∀ k, k < 16 → ∀ X, Below w6.heap.size w6 X → X.cell? ⟨bt, k, none⟩ = some (.bool (T2 k))) := fun k hk X hX => ((HM6.out.below hX).at hk).1
        have HNl : Hid ((nms T2).length = cntT T2 16 ∧ (nms T2).length ≤ 16) := by rw [← cntT_all]; exact ⟨rfl, cntT_le T2 16⟩
        obtain ⟨nl, hnl⟩ : ∃ nl, nl = (nms T2).length := ⟨_, rfl⟩
        rw [← hnl] at HSt HNl ⊢
        have HNe : Hid (nl = (nms T2).length) := hnl
        clear hst hb6 hnl
        go_wp2
        go_loopw [12, 13] (fun nv kv wr => ∃ (k n : Nat), nv = .int .i64 (n : Int) ∧ kv = .int .i64 (k : Int) ∧ k ≤ 16 ∧ n = cntT T2 k ∧ Hid (Below w6.heap.size w6 wr)) (fun _ kv _ => 16 - (intOf kv).toNat)
        case atStart => exact ⟨0, 0, rfl, rfl, by omega, rfl, Below.refl _ _⟩
        case round =>
          obtain ⟨k, n, rfl, rfl, hk16, hcn, HJ2⟩ := hrel
          have HCn : Hid (n = cntT T2 k) := hcn
          clear hcn
          by_cases hk : k < 16
          · have HK2 : Hid (k < 16) := hk
            have hk0 : (0 : Int) ≤ (k : Int) := by omega
            have hk1 : (k : Int) < 16 := by omega
            have t0 := HTa.out k hk wr HJ2.out
            cases hT2 : T2 k with
            | false =>
              rw [hT2] at t0
              have HCs : Hid (n = cntT T2 (k + 1)) := by show _ = _; rw [cntT_succ, hT2, HCn.out]; rfl
              clear hT2
              go_wp2
              go_roundw
              case rel => exact ⟨k + 1, n, rfl, by go_num, by omega, HCs.out, HJ2⟩
              case measure => simp [intOf]; omega
            | true =>
              rw [hT2] at t0
              have HCs : Hid (n + 1 = cntT T2 (k + 1)) := by show _ = _; rw [cntT_succ, hT2, HCn.out]; rfl
              have hat := nms_at hk hT2
              rw [← HCn.out] at hat
              have hnl1 : n < nl := by rw [HNe.out]; exact (List.getElem?_eq_some_iff.1 hat).1
              obtain ⟨gl, ol, hpl, hlc⟩ : ∃ gl ol, pl = some ⟨gl, ol, none⟩ ∧ ∀ X, Below w6.heap.size w6 X → X.cell? ⟨gl, ol + n, none⟩ = some (.string (nmB k)) := by
                obtain ⟨p', c', hv, _, _, hl | ⟨gl, ol, e, hcs⟩⟩ := HSt.out
                · rw [hl] at hat
                  simp at hat
                · injection hv with e1 _ _
                  refine ⟨gl, ol, by rw [e1]; exact e, fun X hX => ?_⟩
                  have := hcs n _ hat
                  rw [hX.cell (p := ⟨gl, ol + n, none⟩) (World.block_lt_of_cell? _ _ this)]
                  exact this
              subst hpl
              have HLc : Hid (∀ X, Below w6.heap.size w6 X → X.cell? ⟨gl, ol + n, none⟩ = some (.string (nmB k))) := hlc
              obtain ⟨kw1, kw2⟩ := nums97 (k := k) (by omega)
              have hn0' : (0 : Int) ≤ (n : Int) := by omega
              have hn1' : (n : Int) < (nl : Int) := by omega
              have hn2' : ¬ (n : Int) ≥ (nl : Int) := by omega
              have hn3' : decide ((n : Int) ≥ (nl : Int)) = false := decide_eq_false hn2'
              have hnb : (n : Int) ≤ 16 := by have := HNl.out.2; omega
              have hS0 : wr.drew.cell? ⟨gl, ol + n, none⟩ = some (.string (nmB k)) := hlc _ HJ2.out.drew
              clear hT2 hat hlc
              go_upto_region 23 with fail
              clear t0
              refine wp_region_held_drew (S := fun X => X.cell? ⟨gl, ol + n, none⟩ = some (.string (nmB k))) (by kernel_rfl) hS0 (fun hHeld => ?_)
              clear hS0
              refine take7 (i := 0) (d := 94) (v := .int .i64 (n : Int)) rfl rfl (by kernel_rfl) (by kernel_rfl) (by kernel_rfl) (fun _ _ _ h => h) (Or.inl ⟨by rfl, ?_⟩) (by assumption) ?_
              · intro X hSw
                go_simp
              simp only [Act.put, List.setIfInBounds_toArray, List.set_cons_zero, List.set_cons_succ]
              refine take7 (i := 1) (d := 95) (v := .slice (some ⟨gl, ol, none⟩) nl cl) rfl rfl (by kernel_rfl) (by kernel_rfl) (by kernel_rfl) (fun _ _ _ h => h) (Or.inl ⟨by rfl, ?_⟩) (by assumption) ?_
              · intro X hSw
                go_simp
              simp only [Act.put, List.setIfInBounds_toArray, List.set_cons_zero, List.set_cons_succ]
              refine take7 (i := 2) (d := 96) (v := .int .i64 (nl : Int)) rfl rfl (by kernel_rfl) (by kernel_rfl) (by kernel_rfl) (fun _ _ _ h => h) (Or.inl ⟨by rfl, ?_⟩) (by assumption) ?_
              · intro X hSw
                go_simp
              simp only [Act.put, List.setIfInBounds_toArray, List.set_cons_zero, List.set_cons_succ]
              refine take7 (i := 3) (d := 97) (v := .bool false) rfl rfl (by kernel_rfl) (by kernel_rfl) (by kernel_rfl) (fun _ _ _ h => h) (Or.inl ⟨by rfl, ?_⟩) (by assumption) ?_
              · intro X hSw
                go_simp
              simp only [Act.put, List.setIfInBounds_toArray, List.set_cons_zero, List.set_cons_succ]
              refine take7 (i := 4) (d := 98) (v := .bool false) rfl rfl (by kernel_rfl) (by kernel_rfl) (by kernel_rfl) (fun _ _ _ h => h) (Or.inl ⟨by rfl, ?_⟩) (by assumption) ?_
              · intro X hSw
                go_simp
              simp only [Act.put, List.setIfInBounds_toArray, List.set_cons_zero, List.set_cons_succ]
              refine take7 (i := 5) (d := 99) (v := .slice (some ⟨gl, ol, none⟩) nl cl) rfl rfl (by kernel_rfl) (by kernel_rfl) (by kernel_rfl) (fun _ _ _ h => h) (Or.inl ⟨by rfl, ?_⟩) (by assumption) ?_
              · intro X hSw
                go_simp
              simp only [Act.put, List.setIfInBounds_toArray, List.set_cons_zero, List.set_cons_succ]
              refine take7 (i := 6) (d := 100) (v := .int .i64 (n : Int)) rfl rfl (by kernel_rfl) (by kernel_rfl) (by kernel_rfl) (fun _ _ _ h => h) (Or.inl ⟨by rfl, ?_⟩) (by assumption) ?_
              · intro X hSw
                go_simp
              simp only [Act.put, List.setIfInBounds_toArray, List.set_cons_zero, List.set_cons_succ]
              refine take7 (i := 7) (d := 101) (v := .pointer (some ⟨gl, ol + n, none⟩)) rfl rfl (by kernel_rfl) (by kernel_rfl) (by kernel_rfl) (fun _ _ _ h => h) (Or.inl ⟨by rfl, ?_⟩) (by assumption) ?_
              · intro X hSw
                go_simp
              simp only [Act.put, List.setIfInBounds_toArray, List.set_cons_zero, List.set_cons_succ]
              refine take7 (i := 8) (d := 102) (v := .string (nmB k)) rfl rfl (by kernel_rfl) (by kernel_rfl) (by kernel_rfl) (fun _ _ _ h => h) (Or.inl ⟨by rfl, ?_⟩) (by assumption) ?_
              · intro X hSw
                go_simp
              simp only [Act.put, List.setIfInBounds_toArray, List.set_cons_zero, List.set_cons_succ]
              refine take7 (i := 9) (d := 103) (v := .int .i64 (k : Int)) rfl rfl (by kernel_rfl) (by kernel_rfl) (by kernel_rfl) (fun _ _ _ h => h) (Or.inl ⟨by rfl, ?_⟩) (by assumption) ?_
              · intro X hSw
                go_simp
              simp only [Act.put, List.setIfInBounds_toArray, List.set_cons_zero, List.set_cons_succ]
              refine take7 (i := 10) (d := 104) (v := .int .i64 (97 + (k : Int))) rfl rfl (by kernel_rfl) (by kernel_rfl) (by kernel_rfl) (fun _ _ _ h => h) (Or.inl ⟨by rfl, ?_⟩) (by assumption) ?_
              · intro X hSw
                go_simp
              simp only [Act.put, List.setIfInBounds_toArray, List.set_cons_zero, List.set_cons_succ]
              refine take7 (i := 11) (d := 105) (v := .int .u8 (97 + (k : Int))) rfl rfl (by kernel_rfl) (by kernel_rfl) (by kernel_rfl) (fun _ _ _ h => h) (Or.inl ⟨by rfl, ?_⟩) (by assumption) ?_
              · intro X hSw
                go_simp
              simp only [Act.put, List.setIfInBounds_toArray, List.set_cons_zero, List.set_cons_succ]
              obtain ⟨X, hX⟩ : ∃ X, X = wr.drew := ⟨_, rfl⟩
              have HX : Hid (Below w6.heap.size w6 X) := by rw [hX]; exact HJ2.out.drew
              rw [← hX] at hHeld ⊢
              have hcv := convN k HK2.out X
              have HbX : Hid (Below w6.heap.size w6 (X.alloc (.cells #[.int .u8 117, .int .u8 (97 + (k : Int))] 5))) := HX.out.trans ((below_alloc _ _).mono HX.out.size)
              have HSx : Hid ((X.alloc (.cells #[.int .u8 117, .int .u8 (97 + (k : Int))] 5)).cell? ⟨gl, ol + n, none⟩ = some (.string (nmB k))) := HLc.out _ HbX.out
              have hnx : ∀ Y : World, (binOp .neq 9 (.string (nmB k)) (.string (nmB k))).run Try.prog Y = .ok (.bool false) Y := fun Y => by go_simp
              clear hX hHeld
              refine wpAnyH_ready (rs := [12]) (by kernel_rfl) (by simp) ?_
              refine AllReadyH.cons rfl (fun K hK => ?_) AllReadyH.nil
              go_simp
              refine hK.out _ _ HSx.out (fun hHeld => ?_)
              clear hK K
              try simp only [Act.put, List.setIfInBounds_toArray, List.set_cons_zero, List.set_cons_succ]
              refine wpAnyH_ready (rs := [13]) (by kernel_rfl) (by simp) ?_
              refine AllReadyH.cons rfl (fun K hK => ?_) AllReadyH.nil
              go_simp
              refine hK.out _ _ HSx.out (fun hHeld => ?_)
              clear hK K
              try simp only [Act.put, List.setIfInBounds_toArray, List.set_cons_zero, List.set_cons_succ]
              refine take7 (i := 14) (d := 108) (v := .bool false) rfl rfl (by kernel_rfl) (by kernel_rfl) (by kernel_rfl) (fun _ _ _ h => h) (Or.inl ⟨by rfl, ?_⟩) (by assumption) ?_
              · intro X hSw
                go_simp
              simp only [Act.put, List.setIfInBounds_toArray, List.set_cons_zero, List.set_cons_succ]
              refine take7 (i := 15) (d := 109) (v := .bool false) rfl rfl (by kernel_rfl) (by kernel_rfl) (by kernel_rfl) (fun _ _ _ h => h) (Or.inl ⟨by rfl, ?_⟩) (by assumption) ?_
              · intro X hSw
                go_simp
              simp only [Act.put, List.setIfInBounds_toArray, List.set_cons_zero, List.set_cons_succ]
              refine wpAnyH_done (by kernel_rfl) ?_ _
              clear hHeld hcv hnx
              go_wp2
              go_roundw
              case rel => exact ⟨k + 1, n + 1, by go_num, by go_num, by omega, HCs.out, HbX⟩
              case measure => simp [intOf]; omega
          · obtain rfl : k = 16 := by omega
            have hnn : n = nl := by rw [HCn.out, HNl.out.1]
            subst hnn
            have HOl : Hid (Below w.heap.size w wr) := HM6.out.old.trans (HJ2.out.mono HM6.out.old.size)
            go_wp2_with fail
            refine (HA.out _).mono ?_
            rintro e w9 ⟨rfl, hb9⟩
            have HB9 : Hid _ := hb9
            clear hb9
            go_wp2
            go_ret
            exact ⟨rfl, HOl.out.trans (HB9.out.mono HOl.out.size)⟩
      · have h1 : ¬ (i : Int) < (n0 : Int) := by omega
        clear hlt
        have H5 : Hid (Us s T ∧ s.off = (fun _ => false) ∧ Mw w (wr.setCell ⟨bt, ko, none⟩ (.bool false)) B s (1 + i) bt (upT T ko false)) := ⟨HS.out.1, HS.out.2.1, HS.out.2.2.set HKo.out false⟩
        obtain ⟨d0, f0⟩ := HS.out.2.2.at HKo.out
        have HI1 : Hid (1 + i < 100) := by show _ < _; omega
        go_upto_region 15 with fail
        obtain ⟨z, hz⟩ : ∃ z, z = wr.setCell ⟨bt, ko, none⟩ (.bool false) := ⟨_, rfl⟩
        rw [← hz] at H5 ⊢
        clear hz d0 f0
        have hcv := convN ko HKo.out z
        have hMx : Mw w (z.alloc (.cells #[.int .u8 117, .int .u8 (97 + (ko : Int))] 5)) B s (1 + i) bt (upT T ko false) := H5.out.2.2.below (below_alloc _ _)
        have HC : Hid _ := HOf.out _ s T (upT T ko false) ko (1 + i) bt H5.out.1 H5.out.2.1 hMx HKo.out (by have := HI1.out; omega)
        clear hMx
        go_wp2_with fail
        refine Calls.mono HC.out ?_
        rintro e w2 ⟨p, m, c, s', rfl, hU, hM2⟩
        have H6 : Hid (Us s' (upT T ko false) ∧ Mw w w2 B s' (1 + i + 1) bt (upT T ko false)) := ⟨hU, hM2⟩
        clear hU hM2 hcv
        have hfd := run_err 0 0 p m c w2
        obtain ⟨T2, hT2⟩ : ∃ T2, T2 = upT T ko false := ⟨_, rfl⟩
        rw [← hT2] at H6
        clear hT2
        have HC2 : Hid _ := HMe.out w2 s' T2 T2 (1 + i + 1) bt H6.out.1 H6.out.2 (by have := HI1.out; omega)
        go_wp2_with fail
        refine Calls.mono HC2.out ?_
        rintro e w6 ⟨pl, cl, rfl, hst, hb6⟩
        have HM6 : Hid (Mw w w6 B s' (1 + i + 1) bt T2) := H6.out.2.below hb6
        have HSt : Hid (StrV w6 (.slice pl (nms T2).length cl) (nms T2)) := hst
        have HTa : Hid (∀ k, k < 16 → ∀ X, Below w6.heap.size w6 X → X.cell? ⟨bt, k, none⟩ = some (.bool (T2 k))) := fun k hk X hX => ((HM6.out.below hX).at hk).1
        have HNl : Hid ((nms T2).length = cntT T2 16 ∧ (nms T2).length ≤ 16) := by rw [← cntT_all]; exact ⟨rfl, cntT_le T2 16⟩
        obtain ⟨nl, hnl⟩ : ∃ nl, nl = (nms T2).length := ⟨_, rfl⟩
        rw [← hnl] at HSt HNl ⊢
        have HNe : Hid (nl = (nms T2).length) := hnl
        clear hst hb6 hnl
        go_wp2
        go_loopw [12, 13] (fun nv kv wr => ∃ (k n : Nat), nv = .int .i64 (n : Int) ∧ kv = .int .i64 (k : Int) ∧ k ≤ 16 ∧ n = cntT T2 k ∧ Hid (Below w6.heap.size w6 wr)) (fun _ kv _ => 16 - (intOf kv).toNat)
        case atStart => exact ⟨0, 0, rfl, rfl, by omega, rfl, Below.refl _ _⟩
        case round =>
          obtain ⟨k, n, rfl, rfl, hk16, hcn, HJ2⟩ := hrel
          have HCn : Hid (n = cntT T2 k) := hcn
          clear hcn
          by_cases hk : k < 16
          · have HK2 : Hid (k < 16) := hk
            have hk0 : (0 : Int) ≤ (k : Int) := by omega
            have hk1 : (k : Int) < 16 := by omega
            have t0 := HTa.out k hk wr HJ2.out
            cases hT2 : T2 k with
            | false =>
              rw [hT2] at t0
              have HCs : Hid (n = cntT T2 (k + 1)) := by show _ = _; rw [cntT_succ, hT2, HCn.out]; rfl
              clear hT2
              go_wp2
              go_roundw
              case rel => exact ⟨k + 1, n, rfl, by go_num, by omega, HCs.out, HJ2⟩
              case measure => simp [intOf]; omega
            | true =>
              rw [hT2] at t0
              have HCs : Hid (n + 1 = cntT T2 (k + 1)) := by show _ = _; rw [cntT_succ, hT2, HCn.out]; rfl
              have hat := nms_at hk hT2
              rw [← HCn.out] at hat
              have hnl1 : n < nl := by rw [HNe.out]; exact (List.getElem?_eq_some_iff.1 hat).1
              obtain ⟨gl, ol, hpl, hlc⟩ : ∃ gl ol, pl = some ⟨gl, ol, none⟩ ∧ ∀ X, Below w6.heap.size w6 X → X.cell? ⟨gl, ol + n, none⟩ = some (.string (nmB k)) := by
                obtain ⟨p', c', hv, _, _, hl | ⟨gl, ol, e, hcs⟩⟩ := HSt.out
                · rw [hl] at hat
                  simp at hat
                · injection hv with e1 _ _
                  refine ⟨gl, ol, by rw [e1]; exact e, fun X hX => ?_⟩
                  have := hcs n _ hat
                  rw [hX.cell (p := ⟨gl, ol + n, none⟩) (World.block_lt_of_cell? _ _ this)]
                  exact this
              subst hpl
              have HLc : Hid (∀ X, Below w6.heap.size w6 X → X.cell? ⟨gl, ol + n, none⟩ = some (.string (nmB k))) := hlc
              obtain ⟨kw1, kw2⟩ := nums97 (k := k) (by omega)
              have hn0' : (0 : Int) ≤ (n : Int) := by omega
              have hn1' : (n : Int) < (nl : Int) := by omega
              have hn2' : ¬ (n : Int) ≥ (nl : Int) := by omega
              have hn3' : decide ((n : Int) ≥ (nl : Int)) = false := decide_eq_false hn2'
              have hnb : (n : Int) ≤ 16 := by have := HNl.out.2; omega
              have hS0 : wr.drew.cell? ⟨gl, ol + n, none⟩ = some (.string (nmB k)) := hlc _ HJ2.out.drew
              clear hT2 hat hlc
              go_upto_region 23 with fail
              clear t0
              refine wp_region_held_drew (S := fun X => X.cell? ⟨gl, ol + n, none⟩ = some (.string (nmB k))) (by kernel_rfl) hS0 (fun hHeld => ?_)
              clear hS0
              refine take7 (i := 0) (d := 94) (v := .int .i64 (n : Int)) rfl rfl (by kernel_rfl) (by kernel_rfl) (by kernel_rfl) (fun _ _ _ h => h) (Or.inl ⟨by rfl, ?_⟩) (by assumption) ?_
              · intro X hSw
                go_simp
              simp only [Act.put, List.setIfInBounds_toArray, List.set_cons_zero, List.set_cons_succ]
              refine take7 (i := 1) (d := 95) (v := .slice (some ⟨gl, ol, none⟩) nl cl) rfl rfl (by kernel_rfl) (by kernel_rfl) (by kernel_rfl) (fun _ _ _ h => h) (Or.inl ⟨by rfl, ?_⟩) (by assumption) ?_
              · intro X hSw
                go_simp
              simp only [Act.put, List.setIfInBounds_toArray, List.set_cons_zero, List.set_cons_succ]
              refine take7 (i := 2) (d := 96) (v := .int .i64 (nl : Int)) rfl rfl (by kernel_rfl) (by kernel_rfl) (by kernel_rfl) (fun _ _ _ h => h) (Or.inl ⟨by rfl, ?_⟩) (by assumption) ?_
              · intro X hSw
                go_simp
              simp only [Act.put, List.setIfInBounds_toArray, List.set_cons_zero, List.set_cons_succ]
              refine take7 (i := 3) (d := 97) (v := .bool false) rfl rfl (by kernel_rfl) (by kernel_rfl) (by kernel_rfl) (fun _ _ _ h => h) (Or.inl ⟨by rfl, ?_⟩) (by assumption) ?_
              · intro X hSw
                go_simp
              simp only [Act.put, List.setIfInBounds_toArray, List.set_cons_zero, List.set_cons_succ]
              refine take7 (i := 4) (d := 98) (v := .bool false) rfl rfl (by kernel_rfl) (by kernel_rfl) (by kernel_rfl) (fun _ _ _ h => h) (Or.inl ⟨by rfl, ?_⟩) (by assumption) ?_
              · intro X hSw
                go_simp
              simp only [Act.put, List.setIfInBounds_toArray, List.set_cons_zero, List.set_cons_succ]
              refine take7 (i := 5) (d := 99) (v := .slice (some ⟨gl, ol, none⟩) nl cl) rfl rfl (by kernel_rfl) (by kernel_rfl) (by kernel_rfl) (fun _ _ _ h => h) (Or.inl ⟨by rfl, ?_⟩) (by assumption) ?_
              · intro X hSw
                go_simp
              simp only [Act.put, List.setIfInBounds_toArray, List.set_cons_zero, List.set_cons_succ]
              refine take7 (i := 6) (d := 100) (v := .int .i64 (n : Int)) rfl rfl (by kernel_rfl) (by kernel_rfl) (by kernel_rfl) (fun _ _ _ h => h) (Or.inl ⟨by rfl, ?_⟩) (by assumption) ?_
              · intro X hSw
                go_simp
              simp only [Act.put, List.setIfInBounds_toArray, List.set_cons_zero, List.set_cons_succ]
              refine take7 (i := 7) (d := 101) (v := .pointer (some ⟨gl, ol + n, none⟩)) rfl rfl (by kernel_rfl) (by kernel_rfl) (by kernel_rfl) (fun _ _ _ h => h) (Or.inl ⟨by rfl, ?_⟩) (by assumption) ?_
              · intro X hSw
                go_simp
              simp only [Act.put, List.setIfInBounds_toArray, List.set_cons_zero, List.set_cons_succ]
              refine take7 (i := 8) (d := 102) (v := .string (nmB k)) rfl rfl (by kernel_rfl) (by kernel_rfl) (by kernel_rfl) (fun _ _ _ h => h) (Or.inl ⟨by rfl, ?_⟩) (by assumption) ?_
              · intro X hSw
                go_simp
              simp only [Act.put, List.setIfInBounds_toArray, List.set_cons_zero, List.set_cons_succ]
              refine take7 (i := 9) (d := 103) (v := .int .i64 (k : Int)) rfl rfl (by kernel_rfl) (by kernel_rfl) (by kernel_rfl) (fun _ _ _ h => h) (Or.inl ⟨by rfl, ?_⟩) (by assumption) ?_
              · intro X hSw
                go_simp
              simp only [Act.put, List.setIfInBounds_toArray, List.set_cons_zero, List.set_cons_succ]
              refine take7 (i := 10) (d := 104) (v := .int .i64 (97 + (k : Int))) rfl rfl (by kernel_rfl) (by kernel_rfl) (by kernel_rfl) (fun _ _ _ h => h) (Or.inl ⟨by rfl, ?_⟩) (by assumption) ?_
              · intro X hSw
                go_simp
              simp only [Act.put, List.setIfInBounds_toArray, List.set_cons_zero, List.set_cons_succ]
              refine take7 (i := 11) (d := 105) (v := .int .u8 (97 + (k : Int))) rfl rfl (by kernel_rfl) (by kernel_rfl) (by kernel_rfl) (fun _ _ _ h => h) (Or.inl ⟨by rfl, ?_⟩) (by assumption) ?_
              · intro X hSw
                go_simp
              simp only [Act.put, List.setIfInBounds_toArray, List.set_cons_zero, List.set_cons_succ]
              obtain ⟨X, hX⟩ : ∃ X, X = wr.drew := ⟨_, rfl⟩
              have HX : Hid (Below w6.heap.size w6 X) := by rw [hX]; exact HJ2.out.drew
              rw [← hX] at hHeld ⊢
              have hcv := convN k HK2.out X
              have HbX : Hid (Below w6.heap.size w6 (X.alloc (.cells #[.int .u8 117, .int .u8 (97 + (k : Int))] 5))) := HX.out.trans ((below_alloc _ _).mono HX.out.size)
              have HSx : Hid ((X.alloc (.cells #[.int .u8 117, .int .u8 (97 + (k : Int))] 5)).cell? ⟨gl, ol + n, none⟩ = some (.string (nmB k))) := HLc.out _ HbX.out
              have hnx : ∀ Y : World, (binOp .neq 9 (.string (nmB k)) (.string (nmB k))).run Try.prog Y = .ok (.bool false) Y := fun Y => by go_simp
              clear hX hHeld
              refine wpAnyH_ready (rs := [12]) (by kernel_rfl) (by simp) ?_
              refine AllReadyH.cons rfl (fun K hK => ?_) AllReadyH.nil
              go_simp
              refine hK.out _ _ HSx.out (fun hHeld => ?_)
              clear hK K
              try simp only [Act.put, List.setIfInBounds_toArray, List.set_cons_zero, List.set_cons_succ]
              refine wpAnyH_ready (rs := [13]) (by kernel_rfl) (by simp) ?_
              refine AllReadyH.cons rfl (fun K hK => ?_) AllReadyH.nil
              go_simp
              refine hK.out _ _ HSx.out (fun hHeld => ?_)
              clear hK K
              try simp only [Act.put, List.setIfInBounds_toArray, List.set_cons_zero, List.set_cons_succ]
              refine take7 (i := 14) (d := 108) (v := .bool false) rfl rfl (by kernel_rfl) (by kernel_rfl) (by kernel_rfl) (fun _ _ _ h => h) (Or.inl ⟨by rfl, ?_⟩) (by assumption) ?_
              · intro X hSw
                go_simp
              simp only [Act.put, List.setIfInBounds_toArray, List.set_cons_zero, List.set_cons_succ]
              refine take7 (i := 15) (d := 109) (v := .bool false) rfl rfl (by kernel_rfl) (by kernel_rfl) (by kernel_rfl) (fun _ _ _ h => h) (Or.inl ⟨by rfl, ?_⟩) (by assumption) ?_
              · intro X hSw
                go_simp
              simp only [Act.put, List.setIfInBounds_toArray, List.set_cons_zero, List.set_cons_succ]
              refine wpAnyH_done (by kernel_rfl) ?_ _
              clear hHeld hcv hnx
              go_wp2
              go_roundw
              case rel => exact ⟨k + 1, n + 1, by go_num, by go_num, by omega, HCs.out, HbX⟩
              case measure => simp [intOf]; omega
          · obtain rfl : k = 16 := by omega
            have hnn : n = nl := by rw [HCn.out, HNl.out.1]
            subst hnn
            have HOl : Hid (Below w.heap.size w wr) := HM6.out.old.trans (HJ2.out.mono HM6.out.old.size)
            go_wp2_with fail
            refine (HA.out _).mono ?_
            rintro e w9 ⟨rfl, hb9⟩
            have HB9 : Hid _ := hb9
            clear hb9
            go_wp2
            go_ret
            exact ⟨rfl, HOl.out.trans (HB9.out.mono HOl.out.size)⟩

theorem laidOut : laidOutB Try.prog = true := by kernel_rfl

theorem own : ownKnob Try.prog.godebug = none := by kernel_rfl

set_option maxRecDepth 100000 in
theorem lifted (os : Os) (started : os.Started) (H : Type) (enc : TypeId × Value → H) :
    ReturnsInHanded {} Try.checked os 5 .any (Rows.modelUsersSpec.pre6 enc Try.prog Try.f5 Rows.modelUsersRow.domain false) (Rows.modelUsersSpec.post enc Try.prog Try.f5 false true false false) := by
  refine returnsInHanded_of_change_sized (C := Try.checked) own started (by kernel_rfl) Try.func5
    (ChangeSpec.witness6 (enc := enc) (C := Try.checked) false ⟨#[], #[.slice none 0 0, .int .i64 0], []⟩ 8 (by kernel_rfl) (by kernel_rfl) (by kernel_rfl) (by kernel_rfl)) ?_
  intro W base args ds gs before hval0 hW _ hsz0 _
  have hsz : (DataW.weightsEach Try.prog (Try.f5.params.toList ++ Rows.modelUsersSpec.plain.varTypes Try.prog) (ds ++ gs)).all (· ≤ reachBytes) = true := hsz0
  have hval : ∀ (j : Nat) t v, Try.f5.params[j]? = some t → args[j]? = some v → Value.okWide Try.prog W .any base t v := hval0
  have hW' := hW
  obtain ⟨p, q, hA0, hV, rfl, hfz, hnd⟩ := hW
  have hA : DataW.TrodAll enc Try.prog W 0 (fun _ => true) true Try.f5.params.toList args.toList ds p := hA0
  rw [Try.params5] at hA hval hsz
  obtain ⟨v0, vs0, d0, ds0, p0, q0, hargs, rfl, rfl, h0, r0⟩ := trodAll_cons hA
  obtain ⟨v1, vs1, d1, ds1, p1, q1, rfl, rfl, rfl, h1, r1⟩ := trodAll_cons r0
  obtain ⟨rfl, rfl, rfl⟩ := trodAll_nil r1
  obtain rfl : args = #[v0, v1] := by cases args; simp_all
  obtain ⟨rfl, rfl⟩ := trodVars_none hV
  have k0 := h0
  have lt0 : ∀ x ∈ p0, x.block < W.heap.size := by obtain ⟨m, hm⟩ := k0; exact DataW.trod_lt m _ _ _ hm
  obtain ⟨a0, b0⟩ := open_ints9 (hval 0 40 v0 rfl rfl) h0
  obtain ⟨a1, rfl, rfl, rfl, w1⟩ := open_int Try.underlying3 (hval 1 3 v1 rfl rfl) h1
  have b1 : -9223372036854775808 ≤ a1 ∧ a1 ≤ 9223372036854775807 := by simpa [Lit.wf, IntKind.min, IntKind.max, IntKind.signed, IntKind.bits] using w1
  clear hA0 hval0 hsz0
  refine (walk v0 a0 a1 W b0 b1).mono fun e W' ⟨he, bel⟩ => ?_
  subst he
  exact ⟨_, rfl, _, _, _, [], _, [], hW', trodAll_mk1 (shut_bool Try.underlying4 _), (trodAll_cons_mk (Below.trod laidOut (by kernel_rfl) (of_decide_eq_true (by kernel_rfl)) k0 bel lt0) (trodAll_cons_mk (shut_int Try.underlying3 w1) trodAll_mk0)), rfl, bel.frame _, fun h => by cases h⟩

theorem over : Rows.modelUsersRow.holds Try.pinned (OpenSpec.ofChange Rows.modelUsersSpec) :=
  OpenClaim.holds_of_wide 5 Try.f5 rfl rfl rfl rfl rfl rfl rfl ⟨rfl, rfl, rfl, rfl, rfl⟩ rfl rfl rfl rfl rfl (by kernel_rfl) Try.func5 (by kernel_rfl)
    (of_decide_eq_true (by kernel_rfl)) (by unfold Func.isWrapper; first | (rw [if_pos (by decide +kernel)]; kernel_rfl) | (rw [if_neg (by decide +kernel)]; exact ⟨rfl, rfl⟩))
    (fun os started H enc _ => lifted os started H enc)


end Go.Proofs.Ytkioeahlajjmiaa.modelUsers
namespace Go.Proofs.Ytkioeahlajjmiaa
/-- The statement. -/
theorem modelUsers_holds : Rows.ModelUsersSaid := modelUsers.over
end Go.Proofs.Ytkioeahlajjmiaa
