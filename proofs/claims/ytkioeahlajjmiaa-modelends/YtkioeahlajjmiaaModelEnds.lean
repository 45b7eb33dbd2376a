/-
  For every script: ModelEnds answers true: a closed workspace has no channels, others are as they were; who is off is in no channel and stays off; the argument reads afterwards as before. No condition.
-/
import Derived.Test.YtkioeahlajjmiaaMoEnds2
import Derived.ProofKit
import Derived.OpenShut
import Derived.ShutString
import Derived.SizedLaws
namespace Go.Proofs.Ytkioeahlajjmiaa.modelEnds
open Go.ChangeShapes Go.WideShapes Go.ChangeAt Go.RowKit
open Go.ChangeMaps (open_string shut_string)

theorem okV : Ok ⟨#[118]⟩ := Ok.of (by decide)
theorem okW' : Ok ⟨#[119]⟩ := Ok.of (by decide)
theorem okS : Ok ⟨#[115, 116, 97, 121, 115]⟩ := Ok.of (by decide)
theorem okA' : Ok ⟨#[97, 110, 110]⟩ := Ok.of (by decide)
theorem okE' : Ok ⟨#[]⟩ := Ok.of (by decide)

theorem f1 (s : Mo.St) : ∃ c, (Mo.does s (⟨1, ⟨#[118]⟩, ⟨#[115, 116, 97, 121, 115]⟩, ⟨#[]⟩, ⟨#[]⟩, ⟨#[]⟩, ⟨#[]⟩, 0, 0⟩ : Mo.Op)).ch ⟨#[118]⟩ ⟨#[115, 116, 97, 121, 115]⟩ = some c := by
  have hm : Mo.may (⟨1, ⟨#[118]⟩, ⟨#[115, 116, 97, 121, 115]⟩, ⟨#[]⟩, ⟨#[]⟩, ⟨#[]⟩, ⟨#[]⟩, 0, 0⟩ : Mo.Op) = true := by decide
  cases hc : s.ch ⟨#[118]⟩ ⟨#[115, 116, 97, 121, 115]⟩ with
  | some c => exact ⟨c, by simp [Mo.does, hm, hc]⟩
  | none => exact ⟨Mo.newC, by simp [Mo.does, hm, hc, Mo.setC]⟩
theorem f2 (s : Mo.St) : Mo.tells s (⟨6, ⟨#[119]⟩, ⟨#[]⟩, ⟨#[]⟩, ⟨#[]⟩, ⟨#[]⟩, ⟨#[]⟩, 0, 0⟩ : Mo.Op) = ⟨0, 0, []⟩ ∧ ∀ x y, (Mo.does s (⟨6, ⟨#[119]⟩, ⟨#[]⟩, ⟨#[]⟩, ⟨#[]⟩, ⟨#[]⟩, ⟨#[]⟩, 0, 0⟩ : Mo.Op)).ch x y = if x = ⟨#[119]⟩ then none else s.ch x y := by
  have hm : Mo.may (⟨6, ⟨#[119]⟩, ⟨#[]⟩, ⟨#[]⟩, ⟨#[]⟩, ⟨#[]⟩, ⟨#[]⟩, 0, 0⟩ : Mo.Op) = true := by decide
  exact ⟨by simp [Mo.tells, hm], fun x y => by simp [Mo.does, hm]⟩
theorem f3 (s : Mo.St) : (Mo.does s (⟨7, ⟨#[]⟩, ⟨#[]⟩, ⟨#[97, 110, 110]⟩, ⟨#[]⟩, ⟨#[]⟩, ⟨#[]⟩, 0, 0⟩ : Mo.Op)).off ⟨#[97, 110, 110]⟩ = true ∧ ∀ x y, (∃ c, (Mo.does s (⟨7, ⟨#[]⟩, ⟨#[]⟩, ⟨#[97, 110, 110]⟩, ⟨#[]⟩, ⟨#[]⟩, ⟨#[]⟩, 0, 0⟩ : Mo.Op)).ch x y = some c) ↔ ∃ c, s.ch x y = some c := by
  have hm : Mo.may (⟨7, ⟨#[]⟩, ⟨#[]⟩, ⟨#[97, 110, 110]⟩, ⟨#[]⟩, ⟨#[]⟩, ⟨#[]⟩, 0, 0⟩ : Mo.Op) = true := by decide
  cases ho : s.off ⟨#[97, 110, 110]⟩ with
  | true =>
    have e : Mo.does s (⟨7, ⟨#[]⟩, ⟨#[]⟩, ⟨#[97, 110, 110]⟩, ⟨#[]⟩, ⟨#[]⟩, ⟨#[]⟩, 0, 0⟩ : Mo.Op) = s := by simp [Mo.does, hm, ho]
    rw [e]
    exact ⟨ho, fun _ _ => Iff.rfl⟩
  | false =>
    have e : Mo.does s (⟨7, ⟨#[]⟩, ⟨#[]⟩, ⟨#[97, 110, 110]⟩, ⟨#[]⟩, ⟨#[]⟩, ⟨#[]⟩, 0, 0⟩ : Mo.Op) = ⟨fun a b => (s.ch a b).map (Mo.lessM · ⟨#[97, 110, 110]⟩), fun x => if x = ⟨#[97, 110, 110]⟩ then true else s.off x⟩ := by simp [Mo.does, hm, ho]
    rw [e]
    refine ⟨by simp, fun x y => ?_⟩
    cases hc : s.ch x y with
    | none => simp [hc]
    | some c => simp [hc]
theorem f4 {s : Mo.St} (h1 : s.off ⟨#[97, 110, 110]⟩ = true) {c : Mo.Ch} (h2 : s.ch ⟨#[118]⟩ ⟨#[115, 116, 97, 121, 115]⟩ = some c) : Mo.tells s (⟨2, ⟨#[118]⟩, ⟨#[115, 116, 97, 121, 115]⟩, ⟨#[97, 110, 110]⟩, ⟨#[]⟩, ⟨#[]⟩, ⟨#[]⟩, 0, 0⟩ : Mo.Op) = ⟨92, 0, []⟩ ∧ Mo.does s (⟨2, ⟨#[118]⟩, ⟨#[115, 116, 97, 121, 115]⟩, ⟨#[97, 110, 110]⟩, ⟨#[]⟩, ⟨#[]⟩, ⟨#[]⟩, 0, 0⟩ : Mo.Op) = s := by
  have hm : Mo.may (⟨2, ⟨#[118]⟩, ⟨#[115, 116, 97, 121, 115]⟩, ⟨#[97, 110, 110]⟩, ⟨#[]⟩, ⟨#[]⟩, ⟨#[]⟩, 0, 0⟩ : Mo.Op) = true := by decide
  exact ⟨by simp [Mo.tells, hm, h2, h1], by simp [Mo.does, hm, h2, h1]⟩
theorem f5 {s : Mo.St} (h1 : s.off ⟨#[97, 110, 110]⟩ = true) : Mo.tells s (⟨7, ⟨#[]⟩, ⟨#[]⟩, ⟨#[97, 110, 110]⟩, ⟨#[]⟩, ⟨#[]⟩, ⟨#[]⟩, 0, 0⟩ : Mo.Op) = ⟨92, 0, []⟩ ∧ Mo.does s (⟨7, ⟨#[]⟩, ⟨#[]⟩, ⟨#[97, 110, 110]⟩, ⟨#[]⟩, ⟨#[]⟩, ⟨#[]⟩, 0, 0⟩ : Mo.Op) = s := by
  have hm : Mo.may (⟨7, ⟨#[]⟩, ⟨#[]⟩, ⟨#[97, 110, 110]⟩, ⟨#[]⟩, ⟨#[]⟩, ⟨#[]⟩, 0, 0⟩ : Mo.Op) = true := by decide
  exact ⟨by simp [Mo.tells, hm, h1], by simp [Mo.does, hm, h1]⟩

set_option maxHeartbeats 4000000 in
set_option maxRecDepth 20000 in
theorem walk (v0 : Value) (a0 : List Mo.Op) (w : World) (_b0 : Elems w 9 op9Cells Op9In v0 a0) :
    Calls Try.prog 6 #[v0] w fun e w' => e = .returned (.bool true) ∧ Below w.heap.size w w' := by
  obtain ⟨p0, c0, hv0, hc1, hc2, hgood, hcells⟩ := _b0
  obtain ⟨n0, hn0⟩ : ∃ n0, n0 = a0.length := ⟨_, rfl⟩
  rw [← hn0] at hv0 hc1
  have HI : Hid (∀ k, k < n0 → ∃ q g o, Op9In q ∧ p0 = some ⟨g, o, none⟩ ∧ ∀ X, Below w.heap.size w X → X.cell? ⟨g, o + k * 9, none⟩ = some (.int .i64 q.kind) ∧ X.cell? ⟨g, o + k * 9 + 1, none⟩ = some (.string q.space) ∧ X.cell? ⟨g, o + k * 9 + 2, none⟩ = some (.string q.channel) ∧ X.cell? ⟨g, o + k * 9 + 3, none⟩ = some (.string q.user) ∧ X.cell? ⟨g, o + k * 9 + 4, none⟩ = some (.string q.text) ∧ X.cell? ⟨g, o + k * 9 + 5, none⟩ = some (.string q.toSpace) ∧ X.cell? ⟨g, o + k * 9 + 6, none⟩ = some (.string q.to) ∧ X.cell? ⟨g, o + k * 9 + 7, none⟩ = some (.int .i64 q.frm) ∧ X.cell? ⟨g, o + k * 9 + 8, none⟩ = some (.int .i64 q.most)) := by
    intro k hk
    obtain ⟨q, hq⟩ : ∃ q, a0[k]? = some q := ⟨_, List.getElem?_eq_getElem (by omega)⟩
    rcases hcells with h | ⟨g, o, hp, hg, hcs⟩
    · rw [h] at hq
      simp at hq
    · refine ⟨q, g, o, hgood q (List.mem_of_getElem? hq), hp, fun X hX => ?_⟩
      have e : ∀ j, X.cell? ⟨g, j, none⟩ = w.cell? ⟨g, j, none⟩ := fun j => hX.cell (p := ⟨g, j, none⟩) hg
      rw [e, e, e, e, e, e, e, e, e]
      exact ⟨hcs k q hq 0 _ rfl, hcs k q hq 1 _ rfl, hcs k q hq 2 _ rfl, hcs k q hq 3 _ rfl, hcs k q hq 4 _ rfl, hcs k q hq 5 _ rfl, hcs k q hq 6 _ rfl, hcs k q hq 7 _ rfl, hcs k q hq 8 _ rfl⟩
  subst hv0
  have hcm := hc2
  unfold maxLen at hcm
  have HNew : Hid _ := New_fresh (w := w) w (Below.refl _ w)
  obtain ⟨B, hB⟩ : ∃ B, B = w.heap.size + 2 := ⟨_, rfl⟩
  rw [← hB] at HNew
  have HA : Hid (∀ u : World, Calls Try.prog 11 #[] u fun e w' => e = .returned (.bool true) ∧ Below u.heap.size u w') := awake_c
  have HAny : Hid (∀ X s n L (o : Mo.Op), Mv w X B s n L → n < 1000 → OpOk o → Calls Try.prog 10 #[.pointer (some ⟨B, 0, none⟩), .agg #[.int .i64 o.kind, .string o.space, .string o.channel, .string o.user, .string o.text, .string o.toSpace, .string o.to, .int .i64 o.frm, .int .i64 o.most]] X fun e Y => ∃ E A p m c, e = .returned (.agg #[.int .i64 E, .int .i64 A, .slice p m c]) ∧ Mv w Y B (Mo.does s o) (n + 1) L) := fun X s n L o h hn ho => by
    refine (h.do6 (by omega) o ho).mono ?_
    rintro e Y ⟨p, m, c, he, _, _, hM⟩
    exact ⟨_, _, p, m, c, he, hM⟩
  have HKnow : Hid (∀ X s n L (o : Mo.Op) E, Mv w X B s n L → n < 1000 → OpOk o → Mo.tells s o = ⟨E, 0, []⟩ → Calls Try.prog 10 #[.pointer (some ⟨B, 0, none⟩), .agg #[.int .i64 o.kind, .string o.space, .string o.channel, .string o.user, .string o.text, .string o.toSpace, .string o.to, .int .i64 o.frm, .int .i64 o.most]] X fun e Y => ∃ p m c, e = .returned (.agg #[.int .i64 E, .int .i64 0, .slice p m c]) ∧ Mv w Y B (Mo.does s o) (n + 1) L) := fun X s n L o E h hn ho ht => by
    refine (h.do6 (by omega) o ho).mono ?_
    rintro e Y ⟨p, m, c, he, _, _, hM⟩
    rw [ht] at he
    exact ⟨p, m, c, he, hM⟩
  have HMk : Hid (∀ X s n L, Mv w X B s n L → n < 1000 → Calls Try.prog 10 #[.pointer (some ⟨B, 0, none⟩), .agg #[.int .i64 1, .string ⟨#[118]⟩, .string ⟨#[115, 116, 97, 121, 115]⟩, .string ⟨#[]⟩, .string ⟨#[]⟩, .string ⟨#[]⟩, .string ⟨#[]⟩, .int .i64 0, .int .i64 0]] X fun e Y => ∃ E A p m c, e = .returned (.agg #[.int .i64 E, .int .i64 A, .slice p m c]) ∧ Mv w Y B (Mo.does s (⟨1, ⟨#[118]⟩, ⟨#[115, 116, 97, 121, 115]⟩, ⟨#[]⟩, ⟨#[]⟩, ⟨#[]⟩, ⟨#[]⟩, 0, 0⟩ : Mo.Op)) (n + 1) L) := fun X s n L h hn => HAny.out X s n L (⟨1, ⟨#[118]⟩, ⟨#[115, 116, 97, 121, 115]⟩, ⟨#[]⟩, ⟨#[]⟩, ⟨#[]⟩, ⟨#[]⟩, 0, 0⟩ : Mo.Op) h hn ⟨okV, okS, okE', okE', okE', okE'⟩
  have HCl : Hid (∀ X s n L, Mv w X B s n L → n < 1000 → Calls Try.prog 10 #[.pointer (some ⟨B, 0, none⟩), .agg #[.int .i64 6, .string ⟨#[119]⟩, .string ⟨#[]⟩, .string ⟨#[]⟩, .string ⟨#[]⟩, .string ⟨#[]⟩, .string ⟨#[]⟩, .int .i64 0, .int .i64 0]] X fun e Y => ∃ p m c, e = .returned (.agg #[.int .i64 0, .int .i64 0, .slice p m c]) ∧ Mv w Y B (Mo.does s (⟨6, ⟨#[119]⟩, ⟨#[]⟩, ⟨#[]⟩, ⟨#[]⟩, ⟨#[]⟩, ⟨#[]⟩, 0, 0⟩ : Mo.Op)) (n + 1) L) := fun X s n L h hn => HKnow.out X s n L (⟨6, ⟨#[119]⟩, ⟨#[]⟩, ⟨#[]⟩, ⟨#[]⟩, ⟨#[]⟩, ⟨#[]⟩, 0, 0⟩ : Mo.Op) 0 h hn ⟨okW', okE', okE', okE', okE', okE'⟩ (f2 s).1
  have HOf : Hid (∀ X s n L, Mv w X B s n L → n < 1000 → Calls Try.prog 10 #[.pointer (some ⟨B, 0, none⟩), .agg #[.int .i64 7, .string ⟨#[]⟩, .string ⟨#[]⟩, .string ⟨#[97, 110, 110]⟩, .string ⟨#[]⟩, .string ⟨#[]⟩, .string ⟨#[]⟩, .int .i64 0, .int .i64 0]] X fun e Y => ∃ E A p m c, e = .returned (.agg #[.int .i64 E, .int .i64 A, .slice p m c]) ∧ Mv w Y B (Mo.does s (⟨7, ⟨#[]⟩, ⟨#[]⟩, ⟨#[97, 110, 110]⟩, ⟨#[]⟩, ⟨#[]⟩, ⟨#[]⟩, 0, 0⟩ : Mo.Op)) (n + 1) L) := fun X s n L h hn => HAny.out X s n L (⟨7, ⟨#[]⟩, ⟨#[]⟩, ⟨#[97, 110, 110]⟩, ⟨#[]⟩, ⟨#[]⟩, ⟨#[]⟩, 0, 0⟩ : Mo.Op) h hn ⟨okE', okE', okA', okE', okE', okE'⟩
  have HJn : Hid (∀ X s n L c, Mv w X B s n L → n < 1000 → s.off ⟨#[97, 110, 110]⟩ = true → s.ch ⟨#[118]⟩ ⟨#[115, 116, 97, 121, 115]⟩ = some c → Calls Try.prog 10 #[.pointer (some ⟨B, 0, none⟩), .agg #[.int .i64 2, .string ⟨#[118]⟩, .string ⟨#[115, 116, 97, 121, 115]⟩, .string ⟨#[97, 110, 110]⟩, .string ⟨#[]⟩, .string ⟨#[]⟩, .string ⟨#[]⟩, .int .i64 0, .int .i64 0]] X fun e Y => ∃ p m c, e = .returned (.agg #[.int .i64 92, .int .i64 0, .slice p m c]) ∧ Mv w Y B s (n + 1) L) := fun X s n L c h hn h1 h2 => by
    have q := HKnow.out X s n L (⟨2, ⟨#[118]⟩, ⟨#[115, 116, 97, 121, 115]⟩, ⟨#[97, 110, 110]⟩, ⟨#[]⟩, ⟨#[]⟩, ⟨#[]⟩, 0, 0⟩ : Mo.Op) 92 h hn ⟨okV, okS, okA', okE', okE', okE'⟩ (f4 h1 h2).1
    rw [(f4 h1 h2).2] at q
    exact q
  have HO2 : Hid (∀ X s n L, Mv w X B s n L → n < 1000 → s.off ⟨#[97, 110, 110]⟩ = true → Calls Try.prog 10 #[.pointer (some ⟨B, 0, none⟩), .agg #[.int .i64 7, .string ⟨#[]⟩, .string ⟨#[]⟩, .string ⟨#[97, 110, 110]⟩, .string ⟨#[]⟩, .string ⟨#[]⟩, .string ⟨#[]⟩, .int .i64 0, .int .i64 0]] X fun e Y => ∃ p m c, e = .returned (.agg #[.int .i64 92, .int .i64 0, .slice p m c]) ∧ Mv w Y B s (n + 1) L) := fun X s n L h hn h1 => by
    have q := HKnow.out X s n L (⟨7, ⟨#[]⟩, ⟨#[]⟩, ⟨#[97, 110, 110]⟩, ⟨#[]⟩, ⟨#[]⟩, ⟨#[]⟩, 0, 0⟩ : Mo.Op) 92 h hn ⟨okE', okE', okA', okE', okE', okE'⟩ (f5 h1).1
    rw [(f5 h1).2] at q
    exact q
  have HST : Hid (∀ (X : World) (u v : Value) l, StrV X u l → StrV X v l → Calls Try.prog 14 #[u, v] X fun e w' => e = .returned (.bool true) ∧ Below X.heap.size X w') := fun X u v l hu hv => sameTexts_c hu hv
  clear hB hc2 hgood hcells hn0
  go_enter Try.func6, Try.ntmps6
  go_wp2_with fail
  refine Calls.mono HNew.out ?_
  rintro e w0 ⟨rfl, hM, _⟩
  have H0 : Hid (Oo Mo.new ∧ Mv w w0 B Mo.new 0 []) := ⟨Oo.new, _, hM, fun q hq => (by cases hq)⟩
  clear hM HNew
  go_wp2
  go_loopw [4] (fun iv wr => ∃ (k : Nat) (s : Mo.St), iv = .int .i64 (k : Int) ∧ k ≤ n0 ∧ k ≤ 100 ∧ Hid (Oo s ∧ Mv w wr B s k [])) (fun iv _ => 100 - (intOf iv).toNat)
  case atStart => exact ⟨0, _, rfl, Nat.zero_le _, Nat.zero_le _, H0⟩
  case round =>
    clear H0
    obtain ⟨k, s, rfl, hkn, hk1, HS⟩ := hrel
    have hE : k < n0 ∧ k < 100 → k < n0 ∧ k < 100 := id
    by_cases hlt : k < n0
    · by_cases hlt3 : k < 100
      · obtain ⟨q, g, o, hq, hp0, hX⟩ := HI.out k hlt
        subst hp0
        obtain ⟨r0, r1, r2, r3, r4, r5, r6, r7, r8⟩ := hX wr HS.out.2.old
        have hi0 : (0 : Int) ≤ (k : Int) := Int.natCast_nonneg k
        have hi1 : (k : Int) < (n0 : Int) := by omega
        have hi2 : (k : Int) < 100 := by omega
        have HC : Hid _ := HAny.out wr s k [] q HS.out.2 (by omega) hq.1
        have HOo : Hid (Oo (Mo.does s q)) := HS.out.1.does q
        clear HI hX hq hE
        go_wp2_with fail
        refine Calls.mono HC.out ?_
        rintro e w1 ⟨E, A, p, m, c, rfl, hM⟩
        have HN : Hid (Oo (Mo.does s q) ∧ Mv w w1 B (Mo.does s q) (k + 1) []) := ⟨HOo.out, hM⟩
        clear hM
        go_wp2
        go_roundw
        case rel => exact ⟨k + 1, _, by go_num, by omega, by omega, HN⟩
        case measure => simp [intOf]; omega
      · obtain rfl : k = 100 := by omega
        have HZ : Hid (Oo s ∧ Mv w wr B s 100 []) := HS
        have hi1 : (100 : Int) < (n0 : Int) := by omega
        clear hE HS
        go_wp2_with fail
        refine (HMk.out _ _ _ _ HZ.out.2 (by omega)).mono ?_
        rintro e w1 ⟨E1, A1, p1, m1, c1, rfl, hM⟩
        obtain ⟨s1, hs1⟩ : ∃ s1, s1 = Mo.does s (⟨1, ⟨#[118]⟩, ⟨#[115, 116, 97, 121, 115]⟩, ⟨#[]⟩, ⟨#[]⟩, ⟨#[]⟩, ⟨#[]⟩, 0, 0⟩ : Mo.Op) := ⟨_, rfl⟩
        obtain ⟨ch1, hch1⟩ := f1 s
        rw [← hs1] at hM hch1
        have HS1 : Hid (Oo s1 ∧ Mv w w1 B s1 101 [] ∧ s1.ch ⟨#[118]⟩ ⟨#[115, 116, 97, 121, 115]⟩ = some ch1) := ⟨by rw [hs1]; exact HZ.out.1.does _, hM, hch1⟩
        clear hM hs1 hch1 HZ
        go_wp2_with fail
        refine (HS1.out.2.1.chans (by omega) HS1.out.2.2).mono ?_
        rintro e w2 ⟨g, off, cw, T, rfl, hcw1, hcw2, hnd, hT, hTo, hM⟩
        obtain ⟨l, hl⟩ : ∃ l, l = risen T := ⟨_, rfl⟩
        obtain ⟨nl0, hnl⟩ : ∃ nl0, nl0 = l.length := ⟨_, rfl⟩
        rw [← hl] at hcw1 hM ⊢
        rw [← hnl] at hcw1 ⊢
        have HT : Hid (T.Nodup ∧ (∀ y, y ∈ T ↔ ∃ ch, s1.ch ⟨#[118]⟩ y = some ch) ∧ (∀ y ∈ T, Ok y) ∧ l = risen T ∧ nl0 = l.length ∧ nl0 ≤ cw ∧ cw ≤ maxLen) := ⟨hnd, hT, hTo, hl, hnl, hcw1, hcw2⟩
        have HM2 : Hid (Mv w w2 B s1 101 (rowL g off l)) := by rw [List.append_nil] at hM; exact hM
        have hcw3 := hcw2
        unfold maxLen at hcw3
        clear hM hl hnl hnd hT hTo hcw2
        go_wp2_with fail
        refine (HCl.out _ _ _ _ HM2.out (by omega)).mono ?_
        rintro e y3 ⟨p3, m3, c3, rfl, hM⟩
        obtain ⟨s2, hs2⟩ : ∃ s2, s2 = Mo.does s1 (⟨6, ⟨#[119]⟩, ⟨#[]⟩, ⟨#[]⟩, ⟨#[]⟩, ⟨#[]⟩, ⟨#[]⟩, 0, 0⟩ : Mo.Op) := ⟨_, rfl⟩
        have hch2 := (f2 s1).2
        rw [← hs2] at hM hch2
        obtain ⟨b3, hb⟩ : ∃ b, b = y3.heap.size := ⟨_, rfl⟩
        obtain ⟨z3, hw⟩ : ∃ z, z = y3.alloc (.cells #[.int .i64 0, .int .i64 0, .slice p3 m3 c3] 29) := ⟨_, rfl⟩
        have HZ3 : Hid (Oo s2 ∧ Mv w z3 B s2 102 ([(b3, 0, .int .i64 0), (b3, 1, .int .i64 0)] ++ rowL g off l)) := ⟨by rw [hs2]; exact HS1.out.1.does _, by rw [hw, hb]; exact hM.box _ _ _ _⟩
        have HE3 : Hid (b3 = y3.heap.size ∧ z3 = y3.alloc (.cells #[.int .i64 0, .int .i64 0, .slice p3 m3 c3] 29)) := ⟨hb, hw⟩
        have HC2 : Hid (∀ x y, s2.ch x y = if x = ⟨#[119]⟩ then none else s1.ch x y) := hch2
        clear hM hs2 hch2 hb hw
        have d0 : z3.cell? ⟨b3, 0, none⟩ = some (.int .i64 0) := by
          obtain ⟨loc, _, hL⟩ := HZ3.out.2
          exact (hL (b3, 0, .int .i64 0) (by simp)).2
        rw [HE3.out.2, HE3.out.1] at d0
        go_wp2_with fail
        rw [← HE3.out.2, ← HE3.out.1]
        refine (HZ3.out.2.chans0 (by omega) (fun y => by rw [HC2.out]; simp)).mono ?_
        rintro e w4 ⟨p4, c4, rfl, hb4⟩
        have HM4 : Hid (Mv w w4 B s2 102 ([(b3, 0, .int .i64 0), (b3, 1, .int .i64 0)] ++ rowL g off l)) := HZ3.out.2.below hb4
        clear hb4 d0
        go_wp2_with fail
        refine (HM4.out.chansAs (by omega) HT.out.1 (fun y => by rw [HT.out.2.1, HC2.out]; simp)).mono ?_
        rintro e w5 ⟨p5, m5, c5, rfl, hst, hb5⟩
        have HM5 : Hid (Mv w w5 B s2 102 ([(b3, 0, .int .i64 0), (b3, 1, .int .i64 0)] ++ rowL g off l)) := HM4.out.below hb5
        have HSt : Hid (StrV w5 (.slice p5 m5 c5) l ∧ StrV w5 (.slice (some ⟨g, off, none⟩) nl0 cw) l) := by
          obtain ⟨_, _, _, e1, e2, e3, e4⟩ := HT.out
          rw [← e1] at hst
          rw [e2] at e3 ⊢
          exact ⟨hst, HM5.out.strs e3 e4 (fun q hq => List.mem_append_right _ hq)⟩
        clear hst hb5
        go_wp2_with fail
        refine (HST.out _ _ _ l HSt.out.1 HSt.out.2).mono ?_
        rintro e w6 ⟨rfl, hb6⟩
        have HM6 : Hid (Mv w w6 B s2 102 ([(b3, 0, .int .i64 0), (b3, 1, .int .i64 0)] ++ rowL g off l)) := HM5.out.below hb6
        clear hb6 HSt
        go_wp2_with fail
        refine (HOf.out _ _ _ _ HM6.out (by omega)).mono ?_
        rintro e w7 ⟨E7, A7, p7, m7, c7, rfl, hM⟩
        obtain ⟨s3, hs3⟩ : ∃ s3, s3 = Mo.does s2 (⟨7, ⟨#[]⟩, ⟨#[]⟩, ⟨#[97, 110, 110]⟩, ⟨#[]⟩, ⟨#[]⟩, ⟨#[]⟩, 0, 0⟩ : Mo.Op) := ⟨_, rfl⟩
        obtain ⟨f31, f32⟩ := f3 s2
        rw [← hs3] at hM f31 f32
        have HS3 : Hid (Oo s3 ∧ s3.off ⟨#[97, 110, 110]⟩ = true ∧ (∃ c, s3.ch ⟨#[118]⟩ ⟨#[115, 116, 97, 121, 115]⟩ = some c) ∧ ∀ y ∈ T, ∃ c, s3.ch ⟨#[118]⟩ y = some c) := by
          refine ⟨by rw [hs3]; exact HZ3.out.1.does _, f31, (f32 _ _).2 ⟨ch1, by rw [HC2.out]; simpa using HS1.out.2.2⟩, fun y hy => (f32 _ _).2 ?_⟩
          obtain ⟨c, hc⟩ := (HT.out.2.1 y).1 hy
          exact ⟨c, by rw [HC2.out]; simpa using hc⟩
        have HM7 : Hid (Mv w w7 B s3 103 ([(b3, 0, .int .i64 0), (b3, 1, .int .i64 0)] ++ rowL g off l)) := hM
        have HMe : Hid (∀ j, j < nl0 → ∃ x, (∀ X, Mv w X B s3 103 ([(b3, 0, .int .i64 0), (b3, 1, .int .i64 0)] ++ rowL g off l) → X.cell? ⟨g, off + j, none⟩ = some (.string x)) ∧ ∀ X, Mv w X B s3 103 ([(b3, 0, .int .i64 0), (b3, 1, .int .i64 0)] ++ rowL g off l) → Calls Try.prog 12 #[.pointer (some ⟨B, 0, none⟩), .string ⟨#[118]⟩, .string x] X fun e Y => ∃ p m c, e = .returned (.tuple #[.slice p m c, .int .i64 0]) ∧ Hid (∀ Z, Below Y.heap.size Y Z → Calls Try.prog 15 #[.slice p m c, .string ⟨#[97, 110, 110]⟩] Z fun e w' => e = .returned (.bool false) ∧ Below Z.heap.size Z w') ∧ Below X.heap.size X Y) := fun j hj => by
          obtain ⟨_, _, hok, e1, e2, _⟩ := HT.out
          have hj' : j < l.length := by omega
          refine ⟨l[j], fun X hX => ?_, fun X hX => ?_⟩
          · obtain ⟨loc, _, hL⟩ := hX
            exact (hL _ (List.mem_append_right _ (rowL_mem (List.getElem?_eq_getElem hj')))).2
          · have hin : l[j] ∈ T := risen_mem.1 (by rw [← e1]; exact List.getElem_mem hj')
            obtain ⟨c, hc⟩ := HS3.out.2.2.2 _ hin
            refine (hX.members (by omega) okV (hok _ hin) hc).mono ?_
            rintro e Y ⟨p, m, c', l', rfl, q1, q2, q3⟩
            refine ⟨p, m, c', rfl, fun Z hZ => In_c (q1.below hZ) _ (fun ha => ?_), q3⟩
            have := q2 _ ha
            rw [HS3.out.1 _ HS3.out.2.1 _ _ _ hc] at this
            cases this
        clear hM hs3 f31 f32 HM2 HZ3 HE3 HM4 HM5 HM6
        go_wp2
        go_loopw [7] (fun iv wr => ∃ (j : Nat), iv = .int .i64 (j : Int) ∧ j ≤ nl0 ∧ Hid (Mv w wr B s3 103 ([(b3, 0, .int .i64 0), (b3, 1, .int .i64 0)] ++ rowL g off l))) (fun iv _ => nl0 - (intOf iv).toNat)
        case atStart => exact ⟨0, rfl, Nat.zero_le _, HM7⟩
        case round =>
          clear HM7
          obtain ⟨j, rfl, hj, HM⟩ := hrel
          by_cases hlt : j < nl0
          · obtain ⟨x, hcx, hme⟩ := HMe.out j hlt
            have cx := hcx _ HM.out
            have HC : Hid _ := hme _ HM.out
            have hi0 : (0 : Int) ≤ (j : Int) := Int.natCast_nonneg j
            have hi1 : (j : Int) < (nl0 : Int) := by omega
            clear hcx hme
            go_wp2_with fail
            refine Calls.mono HC.out ?_
            rintro e w8 ⟨p8, m8, c8, rfl, HIn, hb8⟩
            have HM8 : Hid (Mv w w8 B s3 103 ([(b3, 0, .int .i64 0), (b3, 1, .int .i64 0)] ++ rowL g off l)) := HM.out.below hb8
            clear hb8 cx
            go_wp2_with fail
            refine (HIn.out _ (Below.refl _ _)).mono ?_
            rintro e w9 ⟨rfl, hb9⟩
            have HM9 : Hid (Mv w w9 B s3 103 ([(b3, 0, .int .i64 0), (b3, 1, .int .i64 0)] ++ rowL g off l)) := HM8.out.below hb9
            clear hb9
            go_wp2
            go_roundw
            case rel => exact ⟨j + 1, by go_num, by omega, HM9⟩
            case measure => simp [intOf]; omega
          · obtain rfl : j = nl0 := by omega
            obtain ⟨ch3, hch3⟩ := HS3.out.2.2.1
            have HC3 : Hid (s3.ch ⟨#[118]⟩ ⟨#[115, 116, 97, 121, 115]⟩ = some ch3) := hch3
            clear hch3
            go_wp2_with fail
            refine (HJn.out _ _ _ _ ch3 HM.out (by omega) HS3.out.2.1 HC3.out).mono ?_
            rintro e yA ⟨pA, mA, cA, rfl, hM⟩
            obtain ⟨bA, hb⟩ : ∃ b, b = yA.heap.size := ⟨_, rfl⟩
            obtain ⟨zA, hw⟩ : ∃ z, z = yA.alloc (.cells #[.int .i64 92, .int .i64 0, .slice pA mA cA] 29) := ⟨_, rfl⟩
            have HZA : Hid (Mv w zA B s3 104 ([(bA, 0, .int .i64 92), (bA, 1, .int .i64 0)] ++ ([(b3, 0, .int .i64 0), (b3, 1, .int .i64 0)] ++ rowL g off l))) := by rw [hw, hb]; exact hM.box _ _ _ _
            have HEA : Hid (bA = yA.heap.size ∧ zA = yA.alloc (.cells #[.int .i64 92, .int .i64 0, .slice pA mA cA] 29)) := ⟨hb, hw⟩
            clear hM hb hw
            go_wp2_with fail
            rw [← HEA.out.2, ← HEA.out.1]
            refine (HO2.out _ _ _ _ HZA.out (by omega) HS3.out.2.1).mono ?_
            rintro e yB ⟨pB, mB, cB, rfl, hM⟩
            obtain ⟨bB, hb⟩ : ∃ b, b = yB.heap.size := ⟨_, rfl⟩
            obtain ⟨zB, hw⟩ : ∃ z, z = yB.alloc (.cells #[.int .i64 92, .int .i64 0, .slice pB mB cB] 29) := ⟨_, rfl⟩
            have HZB : Hid (Mv w zB B s3 105 ([(bB, 0, .int .i64 92), (bB, 1, .int .i64 0)] ++ ([(bA, 0, .int .i64 92), (bA, 1, .int .i64 0)] ++ ([(b3, 0, .int .i64 0), (b3, 1, .int .i64 0)] ++ rowL g off l)))) := by rw [hw, hb]; exact hM.box _ _ _ _
            have HEB : Hid (bB = yB.heap.size ∧ zB = yB.alloc (.cells #[.int .i64 92, .int .i64 0, .slice pB mB cB] 29)) := ⟨hb, hw⟩
            clear hM hb hw
            have dd : zB.cell? ⟨bB, 0, none⟩ = some (.int .i64 92) ∧ zB.cell? ⟨bA, 0, none⟩ = some (.int .i64 92) := by
              obtain ⟨loc, _, hL⟩ := HZB.out
              exact ⟨(hL (bB, 0, .int .i64 92) (by simp)).2, (hL (bA, 0, .int .i64 92) (by simp)).2⟩
            obtain ⟨d0, d1⟩ := dd
            rw [HEB.out.2, HEB.out.1] at d0
            rw [HEB.out.2] at d1
            go_wp2_with fail
            rw [← HEB.out.2]
            refine (HA.out _).mono ?_
            rintro e wE ⟨rfl, hbE⟩
            have HE : Hid (Below w.heap.size w wE) := HZB.out.old.trans (hbE.mono HZB.out.old.size)
            clear hbE
            go_wp2
            go_ret
            exact ⟨rfl, HE.out⟩
    · have HZ : Hid (Oo s ∧ Mv w wr B s 100 []) := ⟨HS.out.1, HS.out.2.more (by omega)⟩
      obtain rfl : k = n0 := by omega
      clear HS hlt hE hkn
      go_wp2_with fail
      refine (HMk.out _ _ _ _ HZ.out.2 (by omega)).mono ?_
      rintro e w1 ⟨E1, A1, p1, m1, c1, rfl, hM⟩
      obtain ⟨s1, hs1⟩ : ∃ s1, s1 = Mo.does s (⟨1, ⟨#[118]⟩, ⟨#[115, 116, 97, 121, 115]⟩, ⟨#[]⟩, ⟨#[]⟩, ⟨#[]⟩, ⟨#[]⟩, 0, 0⟩ : Mo.Op) := ⟨_, rfl⟩
      obtain ⟨ch1, hch1⟩ := f1 s
      rw [← hs1] at hM hch1
      have HS1 : Hid (Oo s1 ∧ Mv w w1 B s1 101 [] ∧ s1.ch ⟨#[118]⟩ ⟨#[115, 116, 97, 121, 115]⟩ = some ch1) := ⟨by rw [hs1]; exact HZ.out.1.does _, hM, hch1⟩
      clear hM hs1 hch1 HZ
      go_wp2_with fail
      refine (HS1.out.2.1.chans (by omega) HS1.out.2.2).mono ?_
      rintro e w2 ⟨g, off, cw, T, rfl, hcw1, hcw2, hnd, hT, hTo, hM⟩
      obtain ⟨l, hl⟩ : ∃ l, l = risen T := ⟨_, rfl⟩
      obtain ⟨nl0, hnl⟩ : ∃ nl0, nl0 = l.length := ⟨_, rfl⟩
      rw [← hl] at hcw1 hM ⊢
      rw [← hnl] at hcw1 ⊢
      have HT : Hid (T.Nodup ∧ (∀ y, y ∈ T ↔ ∃ ch, s1.ch ⟨#[118]⟩ y = some ch) ∧ (∀ y ∈ T, Ok y) ∧ l = risen T ∧ nl0 = l.length ∧ nl0 ≤ cw ∧ cw ≤ maxLen) := ⟨hnd, hT, hTo, hl, hnl, hcw1, hcw2⟩
      have HM2 : Hid (Mv w w2 B s1 101 (rowL g off l)) := by rw [List.append_nil] at hM; exact hM
      have hcw3 := hcw2
      unfold maxLen at hcw3
      clear hM hl hnl hnd hT hTo hcw2
      go_wp2_with fail
      refine (HCl.out _ _ _ _ HM2.out (by omega)).mono ?_
      rintro e y3 ⟨p3, m3, c3, rfl, hM⟩
      obtain ⟨s2, hs2⟩ : ∃ s2, s2 = Mo.does s1 (⟨6, ⟨#[119]⟩, ⟨#[]⟩, ⟨#[]⟩, ⟨#[]⟩, ⟨#[]⟩, ⟨#[]⟩, 0, 0⟩ : Mo.Op) := ⟨_, rfl⟩
      have hch2 := (f2 s1).2
      rw [← hs2] at hM hch2
      obtain ⟨b3, hb⟩ : ∃ b, b = y3.heap.size := ⟨_, rfl⟩
      obtain ⟨z3, hw⟩ : ∃ z, z = y3.alloc (.cells #[.int .i64 0, .int .i64 0, .slice p3 m3 c3] 29) := ⟨_, rfl⟩
      have HZ3 : Hid (Oo s2 ∧ Mv w z3 B s2 102 ([(b3, 0, .int .i64 0), (b3, 1, .int .i64 0)] ++ rowL g off l)) := ⟨by rw [hs2]; exact HS1.out.1.does _, by rw [hw, hb]; exact hM.box _ _ _ _⟩
      have HE3 : Hid (b3 = y3.heap.size ∧ z3 = y3.alloc (.cells #[.int .i64 0, .int .i64 0, .slice p3 m3 c3] 29)) := ⟨hb, hw⟩
      have HC2 : Hid (∀ x y, s2.ch x y = if x = ⟨#[119]⟩ then none else s1.ch x y) := hch2
      clear hM hs2 hch2 hb hw
      have d0 : z3.cell? ⟨b3, 0, none⟩ = some (.int .i64 0) := by
        obtain ⟨loc, _, hL⟩ := HZ3.out.2
        exact (hL (b3, 0, .int .i64 0) (by simp)).2
      rw [HE3.out.2, HE3.out.1] at d0
      go_wp2_with fail
      rw [← HE3.out.2, ← HE3.out.1]
      refine (HZ3.out.2.chans0 (by omega) (fun y => by rw [HC2.out]; simp)).mono ?_
      rintro e w4 ⟨p4, c4, rfl, hb4⟩
      have HM4 : Hid (Mv w w4 B s2 102 ([(b3, 0, .int .i64 0), (b3, 1, .int .i64 0)] ++ rowL g off l)) := HZ3.out.2.below hb4
      clear hb4 d0
      go_wp2_with fail
      refine (HM4.out.chansAs (by omega) HT.out.1 (fun y => by rw [HT.out.2.1, HC2.out]; simp)).mono ?_
      rintro e w5 ⟨p5, m5, c5, rfl, hst, hb5⟩
      have HM5 : Hid (Mv w w5 B s2 102 ([(b3, 0, .int .i64 0), (b3, 1, .int .i64 0)] ++ rowL g off l)) := HM4.out.below hb5
      have HSt : Hid (StrV w5 (.slice p5 m5 c5) l ∧ StrV w5 (.slice (some ⟨g, off, none⟩) nl0 cw) l) := by
        obtain ⟨_, _, _, e1, e2, e3, e4⟩ := HT.out
        rw [← e1] at hst
        rw [e2] at e3 ⊢
        exact ⟨hst, HM5.out.strs e3 e4 (fun q hq => List.mem_append_right _ hq)⟩
      clear hst hb5
      go_wp2_with fail
      refine (HST.out _ _ _ l HSt.out.1 HSt.out.2).mono ?_
      rintro e w6 ⟨rfl, hb6⟩
      have HM6 : Hid (Mv w w6 B s2 102 ([(b3, 0, .int .i64 0), (b3, 1, .int .i64 0)] ++ rowL g off l)) := HM5.out.below hb6
      clear hb6 HSt
      go_wp2_with fail
      refine (HOf.out _ _ _ _ HM6.out (by omega)).mono ?_
      rintro e w7 ⟨E7, A7, p7, m7, c7, rfl, hM⟩
      obtain ⟨s3, hs3⟩ : ∃ s3, s3 = Mo.does s2 (⟨7, ⟨#[]⟩, ⟨#[]⟩, ⟨#[97, 110, 110]⟩, ⟨#[]⟩, ⟨#[]⟩, ⟨#[]⟩, 0, 0⟩ : Mo.Op) := ⟨_, rfl⟩
      obtain ⟨f31, f32⟩ := f3 s2
      rw [← hs3] at hM f31 f32
      have HS3 : Hid (Oo s3 ∧ s3.off ⟨#[97, 110, 110]⟩ = true ∧ (∃ c, s3.ch ⟨#[118]⟩ ⟨#[115, 116, 97, 121, 115]⟩ = some c) ∧ ∀ y ∈ T, ∃ c, s3.ch ⟨#[118]⟩ y = some c) := by
        refine ⟨by rw [hs3]; exact HZ3.out.1.does _, f31, (f32 _ _).2 ⟨ch1, by rw [HC2.out]; simpa using HS1.out.2.2⟩, fun y hy => (f32 _ _).2 ?_⟩
        obtain ⟨c, hc⟩ := (HT.out.2.1 y).1 hy
        exact ⟨c, by rw [HC2.out]; simpa using hc⟩
      have HM7 : Hid (Mv w w7 B s3 103 ([(b3, 0, .int .i64 0), (b3, 1, .int .i64 0)] ++ rowL g off l)) := hM
      have HMe : Hid (∀ j, j < nl0 → ∃ x, (∀ X, Mv w X B s3 103 ([(b3, 0, .int .i64 0), (b3, 1, .int .i64 0)] ++ rowL g off l) → X.cell? ⟨g, off + j, none⟩ = some (.string x)) ∧ ∀ X, Mv w X B s3 103 ([(b3, 0, .int .i64 0), (b3, 1, .int .i64 0)] ++ rowL g off l) → Calls Try.prog 12 #[.pointer (some ⟨B, 0, none⟩), .string ⟨#[118]⟩, .string x] X fun e Y => ∃ p m c, e = .returned (.tuple #[.slice p m c, .int .i64 0]) ∧ Hid (∀ Z, Below Y.heap.size Y Z → Calls Try.prog 15 #[.slice p m c, .string ⟨#[97, 110, 110]⟩] Z fun e w' => e = .returned (.bool false) ∧ Below Z.heap.size Z w') ∧ Below X.heap.size X Y) := fun j hj => by
        obtain ⟨_, _, hok, e1, e2, _⟩ := HT.out
        have hj' : j < l.length := by omega
        refine ⟨l[j], fun X hX => ?_, fun X hX => ?_⟩
        · obtain ⟨loc, _, hL⟩ := hX
          exact (hL _ (List.mem_append_right _ (rowL_mem (List.getElem?_eq_getElem hj')))).2
        · have hin : l[j] ∈ T := risen_mem.1 (by rw [← e1]; exact List.getElem_mem hj')
          obtain ⟨c, hc⟩ := HS3.out.2.2.2 _ hin
          refine (hX.members (by omega) okV (hok _ hin) hc).mono ?_
          rintro e Y ⟨p, m, c', l', rfl, q1, q2, q3⟩
          refine ⟨p, m, c', rfl, fun Z hZ => In_c (q1.below hZ) _ (fun ha => ?_), q3⟩
          have := q2 _ ha
          rw [HS3.out.1 _ HS3.out.2.1 _ _ _ hc] at this
          cases this
      clear hM hs3 f31 f32 HM2 HZ3 HE3 HM4 HM5 HM6
      go_wp2
      go_loopw [7] (fun iv wr => ∃ (j : Nat), iv = .int .i64 (j : Int) ∧ j ≤ nl0 ∧ Hid (Mv w wr B s3 103 ([(b3, 0, .int .i64 0), (b3, 1, .int .i64 0)] ++ rowL g off l))) (fun iv _ => nl0 - (intOf iv).toNat)
      case atStart => exact ⟨0, rfl, Nat.zero_le _, HM7⟩
      case round =>
        clear HM7
        obtain ⟨j, rfl, hj, HM⟩ := hrel
        by_cases hlt : j < nl0
        · obtain ⟨x, hcx, hme⟩ := HMe.out j hlt
          have cx := hcx _ HM.out
          have HC : Hid _ := hme _ HM.out
          have hi0 : (0 : Int) ≤ (j : Int) := Int.natCast_nonneg j
          have hi1 : (j : Int) < (nl0 : Int) := by omega
          clear hcx hme
          go_wp2_with fail
          refine Calls.mono HC.out ?_
          rintro e w8 ⟨p8, m8, c8, rfl, HIn, hb8⟩
          have HM8 : Hid (Mv w w8 B s3 103 ([(b3, 0, .int .i64 0), (b3, 1, .int .i64 0)] ++ rowL g off l)) := HM.out.below hb8
          clear hb8 cx
          go_wp2_with fail
          refine (HIn.out _ (Below.refl _ _)).mono ?_
          rintro e w9 ⟨rfl, hb9⟩
          have HM9 : Hid (Mv w w9 B s3 103 ([(b3, 0, .int .i64 0), (b3, 1, .int .i64 0)] ++ rowL g off l)) := HM8.out.below hb9
          clear hb9
          go_wp2
          go_roundw
          case rel => exact ⟨j + 1, by go_num, by omega, HM9⟩
          case measure => simp [intOf]; omega
        · obtain rfl : j = nl0 := by omega
          obtain ⟨ch3, hch3⟩ := HS3.out.2.2.1
          have HC3 : Hid (s3.ch ⟨#[118]⟩ ⟨#[115, 116, 97, 121, 115]⟩ = some ch3) := hch3
          clear hch3
          go_wp2_with fail
          refine (HJn.out _ _ _ _ ch3 HM.out (by omega) HS3.out.2.1 HC3.out).mono ?_
          rintro e yA ⟨pA, mA, cA, rfl, hM⟩
          obtain ⟨bA, hb⟩ : ∃ b, b = yA.heap.size := ⟨_, rfl⟩
          obtain ⟨zA, hw⟩ : ∃ z, z = yA.alloc (.cells #[.int .i64 92, .int .i64 0, .slice pA mA cA] 29) := ⟨_, rfl⟩
          have HZA : Hid (Mv w zA B s3 104 ([(bA, 0, .int .i64 92), (bA, 1, .int .i64 0)] ++ ([(b3, 0, .int .i64 0), (b3, 1, .int .i64 0)] ++ rowL g off l))) := by rw [hw, hb]; exact hM.box _ _ _ _
          have HEA : Hid (bA = yA.heap.size ∧ zA = yA.alloc (.cells #[.int .i64 92, .int .i64 0, .slice pA mA cA] 29)) := ⟨hb, hw⟩
          clear hM hb hw
          go_wp2_with fail
          rw [← HEA.out.2, ← HEA.out.1]
          refine (HO2.out _ _ _ _ HZA.out (by omega) HS3.out.2.1).mono ?_
          rintro e yB ⟨pB, mB, cB, rfl, hM⟩
          obtain ⟨bB, hb⟩ : ∃ b, b = yB.heap.size := ⟨_, rfl⟩
          obtain ⟨zB, hw⟩ : ∃ z, z = yB.alloc (.cells #[.int .i64 92, .int .i64 0, .slice pB mB cB] 29) := ⟨_, rfl⟩
          have HZB : Hid (Mv w zB B s3 105 ([(bB, 0, .int .i64 92), (bB, 1, .int .i64 0)] ++ ([(bA, 0, .int .i64 92), (bA, 1, .int .i64 0)] ++ ([(b3, 0, .int .i64 0), (b3, 1, .int .i64 0)] ++ rowL g off l)))) := by rw [hw, hb]; exact hM.box _ _ _ _
          have HEB : Hid (bB = yB.heap.size ∧ zB = yB.alloc (.cells #[.int .i64 92, .int .i64 0, .slice pB mB cB] 29)) := ⟨hb, hw⟩
          clear hM hb hw
          have dd : zB.cell? ⟨bB, 0, none⟩ = some (.int .i64 92) ∧ zB.cell? ⟨bA, 0, none⟩ = some (.int .i64 92) := by
            obtain ⟨loc, _, hL⟩ := HZB.out
            exact ⟨(hL (bB, 0, .int .i64 92) (by simp)).2, (hL (bA, 0, .int .i64 92) (by simp)).2⟩
          obtain ⟨d0, d1⟩ := dd
          rw [HEB.out.2, HEB.out.1] at d0
          rw [HEB.out.2] at d1
          go_wp2_with fail
          rw [← HEB.out.2]
          refine (HA.out _).mono ?_
          rintro e wE ⟨rfl, hbE⟩
          have HE : Hid (Below w.heap.size w wE) := HZB.out.old.trans (hbE.mono HZB.out.old.size)
          clear hbE
          go_wp2
          go_ret
          exact ⟨rfl, HE.out⟩

theorem laidOut : laidOutB Try.prog = true := by kernel_rfl

theorem own : ownKnob Try.prog.godebug = none := by kernel_rfl

set_option maxRecDepth 100000 in
theorem lifted (os : Os) (started : os.Started) (H : Type) (enc : TypeId × Value → H) :
    ReturnsInHanded {} Try.checked os 6 .any (Rows.modelEndsSpec.pre6 enc Try.prog Try.f6 Rows.modelEndsRow.domain false) (Rows.modelEndsSpec.post enc Try.prog Try.f6 false true false false) := by
  refine returnsInHanded_of_change_sized (C := Try.checked) own started (by kernel_rfl) Try.func6
    (ChangeSpec.witness6 (enc := enc) (C := Try.checked) false ⟨#[], #[.slice none 0 0], []⟩ 8 (by kernel_rfl) (by kernel_rfl) (by kernel_rfl) (by kernel_rfl)) ?_
  intro W base args ds gs before hval0 hW _ hsz0 _
  have hsz : (DataW.weightsEach Try.prog (Try.f6.params.toList ++ Rows.modelEndsSpec.plain.varTypes Try.prog) (ds ++ gs)).all (· ≤ reachBytes) = true := hsz0
  have hval : ∀ (j : Nat) t v, Try.f6.params[j]? = some t → args[j]? = some v → Value.okWide Try.prog W .any base t v := hval0
  have hW' := hW
  obtain ⟨p, q, hA0, hV, rfl, hfz, hnd⟩ := hW
  have hA : DataW.TrodAll enc Try.prog W 0 (fun _ => true) true Try.f6.params.toList args.toList ds p := hA0
  rw [Try.params6] at hA hval hsz
  obtain ⟨v0, vs0, d0, ds0, p0, q0, hargs, rfl, rfl, h0, r0⟩ := trodAll_cons hA
  obtain ⟨rfl, rfl, rfl⟩ := trodAll_nil r0
  obtain rfl : args = #[v0] := by cases args; simp_all
  obtain ⟨rfl, rfl⟩ := trodVars_none hV
  have k0 := h0
  have lt0 : ∀ x ∈ p0, x.block < W.heap.size := by obtain ⟨m, hm⟩ := k0; exact DataW.trod_lt m _ _ _ hm
  obtain ⟨a0, b0⟩ := open_ops9 (hval 0 38 v0 rfl rfl) h0
  clear hA0 hval0 hsz0
  refine (walk v0 a0 W b0).mono fun e W' ⟨he, bel⟩ => ?_
  subst he
  exact ⟨_, rfl, _, _, _, [], _, [], hW', trodAll_mk1 (shut_bool Try.underlying4 _), (trodAll_cons_mk (Below.trod laidOut (by kernel_rfl) (of_decide_eq_true (by kernel_rfl)) k0 bel lt0) trodAll_mk0), rfl, bel.frame _, fun h => by cases h⟩

theorem over : Rows.modelEndsRow.holds Try.pinned (OpenSpec.ofChange Rows.modelEndsSpec) :=
  OpenClaim.holds_of_wide 6 Try.f6 rfl rfl rfl rfl rfl rfl rfl ⟨rfl, rfl, rfl, rfl, rfl⟩ rfl rfl rfl rfl rfl (by kernel_rfl) Try.func6 (by kernel_rfl)
    (of_decide_eq_true (by kernel_rfl)) (by unfold Func.isWrapper; first | (rw [if_pos (by decide +kernel)]; kernel_rfl) | (rw [if_neg (by decide +kernel)]; exact ⟨rfl, rfl⟩))
    (fun os started H enc _ => lifted os started H enc)


end Go.Proofs.Ytkioeahlajjmiaa.modelEnds
namespace Go.Proofs.Ytkioeahlajjmiaa
/-- The statement. -/
theorem modelEnds_holds : Rows.ModelEndsSaid := modelEnds.over
end Go.Proofs.Ytkioeahlajjmiaa
