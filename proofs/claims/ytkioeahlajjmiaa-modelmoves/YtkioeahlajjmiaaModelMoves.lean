/-
  For every number: ModelMoves answers true: a channel that is moved there and back is as it was, its members and posts go with it; the argument reads afterwards as before. No condition.
-/
import Derived.Test.YtkioeahlajjmiaaMoMv
import Derived.ProofKit
import Derived.OpenShut
import Derived.ShutString
import Derived.SizedLaws
namespace Go.Proofs.Ytkioeahlajjmiaa.modelMoves
open Go.ChangeShapes Go.WideShapes Go.ChangeAt Go.RowKit
open Go.ChangeMaps (open_string shut_string)

theorem okC : Ok ⟨#[99]⟩ := Ok.of (by decide)
theorem okV : Ok ⟨#[118]⟩ := Ok.of (by decide)
theorem okD : Ok ⟨#[100]⟩ := Ok.of (by decide)
theorem okB : Ok ⟨#[98, 111, 98]⟩ := Ok.of (by decide)
theorem okX : Ok ⟨#[120]⟩ := Ok.of (by decide)

def s1 : Mo.St := Mo.setC Mo.new ⟨#[119]⟩ ⟨#[99]⟩ (some Mo.newC)
def s2 : Mo.St := Mo.setC s1 ⟨#[119]⟩ ⟨#[99]⟩ (some (Mo.withM Mo.newC ⟨#[97, 110, 110]⟩))
theorem s1_is : Mo.does Mo.new ⟨1, ⟨#[119]⟩, ⟨#[99]⟩, ⟨#[]⟩, ⟨#[]⟩, ⟨#[]⟩, ⟨#[]⟩, 0, 0⟩ = s1 := (make_first (s := Mo.new) rfl may_make).2
theorem s2_is : Mo.tells s1 ⟨2, ⟨#[119]⟩, ⟨#[99]⟩, ⟨#[97, 110, 110]⟩, ⟨#[]⟩, ⟨#[]⟩, ⟨#[]⟩, 0, 0⟩ = ⟨0, 0, []⟩ ∧ Mo.does s1 ⟨2, ⟨#[119]⟩, ⟨#[99]⟩, ⟨#[97, 110, 110]⟩, ⟨#[]⟩, ⟨#[]⟩, ⟨#[]⟩, 0, 0⟩ = s2 := by
  have hm : Mo.may ⟨2, ⟨#[119]⟩, ⟨#[99]⟩, ⟨#[97, 110, 110]⟩, ⟨#[]⟩, ⟨#[]⟩, ⟨#[]⟩, 0, 0⟩ = true := may_join
  have hc : s1.ch ⟨#[119]⟩ ⟨#[99]⟩ = some Mo.newC := by simp [s1, Mo.setC]
  have ho : s1.off ⟨#[97, 110, 110]⟩ = false := rfl
  have hn : Mo.newC.mem ⟨#[97, 110, 110]⟩ = false := rfl
  exact ⟨by simp [Mo.tells, hm, hc, ho, hn], by simp [Mo.does, hm, hc, ho, hn, s2]⟩
theorem s2_gm : Mo.tells s2 ⟨2, ⟨#[119]⟩, ⟨#[99]⟩, ⟨#[98, 111, 98]⟩, ⟨#[]⟩, ⟨#[]⟩, ⟨#[]⟩, 0, 0⟩ = ⟨0, 0, []⟩ ∧ Gm (Mo.does s2 ⟨2, ⟨#[119]⟩, ⟨#[99]⟩, ⟨#[98, 111, 98]⟩, ⟨#[]⟩, ⟨#[]⟩, ⟨#[]⟩, 0, 0⟩) ⟨#[119]⟩ ⟨#[99]⟩ [] := by
  refine Gm.start (fun a b => ?_) rfl
  simp only [s2, s1, Mo.setC, Mo.new]
  split <;> rfl

theorem mems2 : risen [(⟨#[97, 110, 110]⟩ : ByteArray), ⟨#[98, 111, 98]⟩] = [⟨#[97, 110, 110]⟩, ⟨#[98, 111, 98]⟩] := risen_of (by decide)

set_option maxHeartbeats 4000000 in
set_option maxRecDepth 20000 in
theorem walk (a0 : Int) (w : World) (_b0 : -9223372036854775808 ≤ a0 ∧ a0 ≤ 9223372036854775807) :
    Calls Try.prog 7 #[.int .i64 a0] w fun e w' => e = .returned (.bool true) ∧ Below w.heap.size w w' := by
  have HNew : Hid _ := New_fresh (w := w) w (Below.refl _ w)
  obtain ⟨B, hB⟩ : ∃ B, B = w.heap.size + 2 := ⟨_, rfl⟩
  rw [← hB] at HNew
  have HA : Hid (∀ u : World, Calls Try.prog 11 #[] u fun e w' => e = .returned (.bool true) ∧ Below u.heap.size u w') := awake_c
  have HD1 : Hid (∀ X, Mv w X B Mo.new 0 [] → Calls Try.prog 10 #[.pointer (some ⟨B, 0, none⟩), .agg #[.int .i64 1, .string ⟨#[119]⟩, .string ⟨#[99]⟩, .string ⟨#[]⟩, .string ⟨#[]⟩, .string ⟨#[]⟩, .string ⟨#[]⟩, .int .i64 0, .int .i64 0]] X fun e Y => ∃ p m c, e = .returned (.agg #[.int .i64 0, .int .i64 0, .slice p m c]) ∧ Mv w Y B s1 1 []) := fun X h => h.do5 (by omega) ⟨1, ⟨#[119]⟩, ⟨#[99]⟩, ⟨#[]⟩, ⟨#[]⟩, ⟨#[]⟩, ⟨#[]⟩, 0, 0⟩ ⟨okW, okC, okE, okE, okE, okE⟩ (by show (1 : Int) ≠ 6; decide) (make_first (s := Mo.new) rfl may_make).1 s1_is
  have HD2 : Hid (∀ X, Mv w X B s1 1 [] → Calls Try.prog 10 #[.pointer (some ⟨B, 0, none⟩), .agg #[.int .i64 2, .string ⟨#[119]⟩, .string ⟨#[99]⟩, .string ⟨#[97, 110, 110]⟩, .string ⟨#[]⟩, .string ⟨#[]⟩, .string ⟨#[]⟩, .int .i64 0, .int .i64 0]] X fun e Y => ∃ p m c, e = .returned (.agg #[.int .i64 0, .int .i64 0, .slice p m c]) ∧ Mv w Y B s2 2 []) := fun X h => h.do5 (by omega) ⟨2, ⟨#[119]⟩, ⟨#[99]⟩, ⟨#[97, 110, 110]⟩, ⟨#[]⟩, ⟨#[]⟩, ⟨#[]⟩, 0, 0⟩ ⟨okW, okC, okA, okE, okE, okE⟩ (by show (2 : Int) ≠ 6; decide) s2_is.1 s2_is.2
  have HD3 : Hid (∀ X, Mv w X B s2 2 [] → Calls Try.prog 10 #[.pointer (some ⟨B, 0, none⟩), .agg #[.int .i64 2, .string ⟨#[119]⟩, .string ⟨#[99]⟩, .string ⟨#[98, 111, 98]⟩, .string ⟨#[]⟩, .string ⟨#[]⟩, .string ⟨#[]⟩, .int .i64 0, .int .i64 0]] X fun e Y => ∃ p m c, e = .returned (.agg #[.int .i64 0, .int .i64 0, .slice p m c]) ∧ Mv w Y B (Mo.does s2 ⟨2, ⟨#[119]⟩, ⟨#[99]⟩, ⟨#[98, 111, 98]⟩, ⟨#[]⟩, ⟨#[]⟩, ⟨#[]⟩, 0, 0⟩) 3 []) := fun X h => h.do5 (by omega) ⟨2, ⟨#[119]⟩, ⟨#[99]⟩, ⟨#[98, 111, 98]⟩, ⟨#[]⟩, ⟨#[]⟩, ⟨#[]⟩, 0, 0⟩ ⟨okW, okC, okB, okE, okE, okE⟩ (by show (2 : Int) ≠ 6; decide) s2_gm.1 rfl
  have HPo : Hid (∀ X, Calls Try.prog 16 #[.string ⟨#[120]⟩] X fun e w' => e = .returned (.agg #[.int .i64 3, .string ⟨#[119]⟩, .string ⟨#[99]⟩, .string ⟨#[97, 110, 110]⟩, .string ⟨#[120]⟩, .string ⟨#[]⟩, .string ⟨#[]⟩, .int .i64 0, .int .i64 0]) ∧ Below X.heap.size X w') := fun X => post_op _ X
  have HY : Hid (∀ X s nn L posts, Mv w X B s nn L → nn < 1000 → Gm s ⟨#[119]⟩ ⟨#[99]⟩ posts → posts.length < 100 → Calls Try.prog 10 #[.pointer (some ⟨B, 0, none⟩), .agg #[.int .i64 3, .string ⟨#[119]⟩, .string ⟨#[99]⟩, .string ⟨#[97, 110, 110]⟩, .string ⟨#[120]⟩, .string ⟨#[]⟩, .string ⟨#[]⟩, .int .i64 0, .int .i64 0]] X fun e Y => ∃ p m c, e = .returned (.agg #[.int .i64 0, .int .i64 (posts.length : Int), .slice p m c]) ∧ Gm (Mo.does s ⟨3, ⟨#[119]⟩, ⟨#[99]⟩, ⟨#[97, 110, 110]⟩, ⟨#[120]⟩, ⟨#[]⟩, ⟨#[]⟩, 0, 0⟩) ⟨#[119]⟩ ⟨#[99]⟩ (posts ++ [⟨⟨#[97, 110, 110]⟩, ⟨#[120]⟩⟩]) ∧ Mv w Y B (Mo.does s ⟨3, ⟨#[119]⟩, ⟨#[99]⟩, ⟨#[97, 110, 110]⟩, ⟨#[120]⟩, ⟨#[]⟩, ⟨#[]⟩, 0, 0⟩) (nn + 1) L) := fun X s nn L posts h hn hg hl => by
    obtain ⟨q1, q2⟩ := hg.post (by omega)
    refine (h.do5 (by omega) ⟨3, ⟨#[119]⟩, ⟨#[99]⟩, ⟨#[97, 110, 110]⟩, ⟨#[120]⟩, ⟨#[]⟩, ⟨#[]⟩, 0, 0⟩ ⟨okW, okC, okA, okX, okE, okE⟩ (by show (3 : Int) ≠ 6; decide) q1 rfl).mono ?_
    rintro e Y ⟨p, m, c, he, hM⟩
    exact ⟨p, m, c, he, q2, hM⟩
  have HM1 : Hid (∀ X s nn L posts, Mv w X B s nn L → nn < 1000 → Gm s ⟨#[119]⟩ ⟨#[99]⟩ posts → Calls Try.prog 10 #[.pointer (some ⟨B, 0, none⟩), .agg #[.int .i64 5, .string ⟨#[119]⟩, .string ⟨#[99]⟩, .string ⟨#[]⟩, .string ⟨#[]⟩, .string ⟨#[118]⟩, .string ⟨#[100]⟩, .int .i64 0, .int .i64 0]] X fun e Y => ∃ p m c, e = .returned (.agg #[.int .i64 0, .int .i64 0, .slice p m c]) ∧ Gm (Mo.does s ⟨5, ⟨#[119]⟩, ⟨#[99]⟩, ⟨#[]⟩, ⟨#[]⟩, ⟨#[118]⟩, ⟨#[100]⟩, 0, 0⟩) ⟨#[118]⟩ ⟨#[100]⟩ posts ∧ Mv w Y B (Mo.does s ⟨5, ⟨#[119]⟩, ⟨#[99]⟩, ⟨#[]⟩, ⟨#[]⟩, ⟨#[118]⟩, ⟨#[100]⟩, 0, 0⟩) (nn + 1) L) := fun X s nn L posts h hn hg => by
    obtain ⟨q1, q2⟩ := hg.move (x' := ⟨#[118]⟩) (y' := ⟨#[100]⟩) (by decide) (by decide)
    refine (h.do5 (by omega) ⟨5, ⟨#[119]⟩, ⟨#[99]⟩, ⟨#[]⟩, ⟨#[]⟩, ⟨#[118]⟩, ⟨#[100]⟩, 0, 0⟩ ⟨okW, okC, okE, okE, okV, okD⟩ (by show (5 : Int) ≠ 6; decide) q1 rfl).mono ?_
    rintro e Y ⟨p, m, c, he, hM⟩
    exact ⟨p, m, c, he, q2, hM⟩
  have HM2 : Hid (∀ X s nn L posts, Mv w X B s nn L → nn < 1000 → Gm s ⟨#[118]⟩ ⟨#[100]⟩ posts → Calls Try.prog 10 #[.pointer (some ⟨B, 0, none⟩), .agg #[.int .i64 5, .string ⟨#[118]⟩, .string ⟨#[100]⟩, .string ⟨#[]⟩, .string ⟨#[]⟩, .string ⟨#[119]⟩, .string ⟨#[99]⟩, .int .i64 0, .int .i64 0]] X fun e Y => ∃ p m c, e = .returned (.agg #[.int .i64 0, .int .i64 0, .slice p m c]) ∧ Gm (Mo.does s ⟨5, ⟨#[118]⟩, ⟨#[100]⟩, ⟨#[]⟩, ⟨#[]⟩, ⟨#[119]⟩, ⟨#[99]⟩, 0, 0⟩) ⟨#[119]⟩ ⟨#[99]⟩ posts ∧ Mv w Y B (Mo.does s ⟨5, ⟨#[118]⟩, ⟨#[100]⟩, ⟨#[]⟩, ⟨#[]⟩, ⟨#[119]⟩, ⟨#[99]⟩, 0, 0⟩) (nn + 1) L) := fun X s nn L posts h hn hg => by
    obtain ⟨q1, q2⟩ := hg.move (x' := ⟨#[119]⟩) (y' := ⟨#[99]⟩) (by decide) (by decide)
    refine (h.do5 (by omega) ⟨5, ⟨#[118]⟩, ⟨#[100]⟩, ⟨#[]⟩, ⟨#[]⟩, ⟨#[119]⟩, ⟨#[99]⟩, 0, 0⟩ ⟨okV, okD, okE, okE, okW, okC⟩ (by show (5 : Int) ≠ 6; decide) q1 rfl).mono ?_
    rintro e Y ⟨p, m, c, he, hM⟩
    exact ⟨p, m, c, he, q2, hM⟩
  have HGo : Hid (∀ X s nn L posts, Mv w X B s nn L → nn < 1000 → Gm s ⟨#[118]⟩ ⟨#[100]⟩ posts → Calls Try.prog 10 #[.pointer (some ⟨B, 0, none⟩), .agg #[.int .i64 3, .string ⟨#[119]⟩, .string ⟨#[99]⟩, .string ⟨#[97, 110, 110]⟩, .string ⟨#[120]⟩, .string ⟨#[]⟩, .string ⟨#[]⟩, .int .i64 0, .int .i64 0]] X fun e Y => ∃ p m c, e = .returned (.agg #[.int .i64 3, .int .i64 0, .slice p m c]) ∧ Mv w Y B s (nn + 1) L) := fun X s nn L posts h hn hg => h.do5 (by omega) ⟨3, ⟨#[119]⟩, ⟨#[99]⟩, ⟨#[97, 110, 110]⟩, ⟨#[120]⟩, ⟨#[]⟩, ⟨#[]⟩, 0, 0⟩ ⟨okW, okC, okA, okX, okE, okE⟩ (by show (3 : Int) ≠ 6; decide) hg.gone.1 hg.gone.2
  have HSe : Hid (∀ X s nn L posts, Mv w X B s nn L → nn < 1000 → Gm s ⟨#[118]⟩ ⟨#[100]⟩ posts → Calls Try.prog 10 #[.pointer (some ⟨B, 0, none⟩), .agg #[.int .i64 5, .string ⟨#[118]⟩, .string ⟨#[100]⟩, .string ⟨#[]⟩, .string ⟨#[]⟩, .string ⟨#[118]⟩, .string ⟨#[100]⟩, .int .i64 0, .int .i64 0]] X fun e Y => ∃ p m c, e = .returned (.agg #[.int .i64 90, .int .i64 0, .slice p m c]) ∧ Mv w Y B s (nn + 1) L) := fun X s nn L posts h hn hg => h.do5 (by omega) ⟨5, ⟨#[118]⟩, ⟨#[100]⟩, ⟨#[]⟩, ⟨#[]⟩, ⟨#[118]⟩, ⟨#[100]⟩, 0, 0⟩ ⟨okV, okD, okE, okE, okV, okD⟩ (by show (5 : Int) ≠ 6; decide) hg.self.1 hg.self.2
  have HMe : Hid (∀ X s nn L posts, Mv w X B s nn L → nn < 1000 → Gm s ⟨#[118]⟩ ⟨#[100]⟩ posts → Calls Try.prog 12 #[.pointer (some ⟨B, 0, none⟩), .string ⟨#[118]⟩, .string ⟨#[100]⟩] X fun e Y => ∃ g off c, e = .returned (.tuple #[.slice (some ⟨g, off, none⟩) 2 c, .int .i64 0]) ∧ 2 ≤ c ∧ c ≤ maxLen ∧ Mv w Y B s nn ([(g, off, .string ⟨#[97, 110, 110]⟩), (g, off + 1, .string ⟨#[98, 111, 98]⟩)] ++ L)) := fun X s nn L posts h hn hg => by
    obtain ⟨mem, q1, q2, _⟩ := hg
    refine (h.mb.members (by omega) okV okD q1 (T := [⟨#[97, 110, 110]⟩, ⟨#[98, 111, 98]⟩]) (by decide) (fun a => ?_)).mono ?_
    · show a ∈ [(⟨#[97, 110, 110]⟩ : ByteArray), ⟨#[98, 111, 98]⟩] ↔ (Ok a ∧ mem a = true)
      rw [q2]
      simp only [List.mem_cons, List.not_mem_nil, or_false]
      constructor
      · intro e
        refine ⟨?_, e⟩
        rcases e with rfl | rfl
        · exact okA
        · exact okB
      · exact fun e => e.2
    · rintro e Y ⟨p, m, c, he, hst, hnw, hb⟩
      rw [mems2] at hst
      obtain ⟨p', c', hv, k1, k2, k3 | ⟨g, off, hp, hcs⟩⟩ := hst
      · cases k3
      · injection hv with v1 v2 v3
        subst v1 v2 v3 hp
        refine ⟨g, off, c, he, k1, k2, h.add hb (fun q hq => ?_)⟩
        have hge := hnw _ rfl
        simp at hq
        rcases hq with rfl | rfl
        · exact ⟨hge, hcs 0 _ rfl⟩
        · exact ⟨hge, hcs 1 _ rfl⟩
  have HLe : Hid (∀ X s nn L posts, Mv w X B s nn L → Gm s ⟨#[118]⟩ ⟨#[100]⟩ posts → Calls Try.prog 17 #[.pointer (some ⟨B, 0, none⟩), .string ⟨#[118]⟩, .string ⟨#[100]⟩] X fun e Y => e = .returned (.tuple #[.int .i64 (posts.length : Int), .int .i64 0]) ∧ Y = X) := fun X s nn L posts h hg => by
    obtain ⟨mem, q1, _⟩ := hg
    exact h.mb.lenC okV okD q1
  have HST : Hid (∀ (X : World) (u v : Value), StrV X u [⟨#[97, 110, 110]⟩, ⟨#[98, 111, 98]⟩] → StrV X v [⟨#[97, 110, 110]⟩, ⟨#[98, 111, 98]⟩] → Calls Try.prog 14 #[u, v] X fun e w' => e = .returned (.bool true) ∧ Below X.heap.size X w') := fun X u v hu hv => sameTexts_c hu hv
  obtain ⟨m, hm⟩ : ∃ m : Nat, m = (a0 % 64).toNat := ⟨_, rfl⟩
  have hmask : bits .and .i64 a0 63 = (m : Int) := by rw [and_63, hm]; omega
  have HMl : Hid (m < 64) := by show _ < _; omega
  clear hm _b0 hB
  go_enter Try.func7, Try.ntmps7
  go_wp2_with fail
  refine Calls.mono HNew.out ?_
  rintro e w0 ⟨rfl, hM, _⟩
  have H0 : Hid (Mv w w0 B Mo.new 0 []) := ⟨_, hM, fun q hq => (by cases hq)⟩
  clear hM
  go_wp2_with fail
  refine (HD1.out _ H0.out).mono ?_
  rintro e w1 ⟨p1, m1, c1, rfl, hM⟩
  have H1 : Hid _ := hM
  clear hM
  go_wp2_with fail
  refine (HD2.out _ H1.out).mono ?_
  rintro e w2 ⟨p2, m2, c2, rfl, hM⟩
  have H2 : Hid _ := hM
  clear hM
  go_wp2_with fail
  refine (HD3.out _ H2.out).mono ?_
  rintro e w3 ⟨p3, m3, c3, rfl, hM⟩
  have H3 : Hid (Gm (Mo.does s2 ⟨2, ⟨#[119]⟩, ⟨#[99]⟩, ⟨#[98, 111, 98]⟩, ⟨#[]⟩, ⟨#[]⟩, ⟨#[]⟩, 0, 0⟩) ⟨#[119]⟩ ⟨#[99]⟩ [] ∧ Mv w w3 B (Mo.does s2 ⟨2, ⟨#[119]⟩, ⟨#[99]⟩, ⟨#[98, 111, 98]⟩, ⟨#[]⟩, ⟨#[]⟩, ⟨#[]⟩, 0, 0⟩) (3 + 0) []) := ⟨s2_gm.2, hM⟩
  clear hM
  go_wp2
  go_loopw [5] (fun iv wr => ∃ (k : Nat) (s : Mo.St) (posts : List Mo.Po), iv = .int .i64 (k : Int) ∧ k ≤ m ∧ Hid (posts.length = k ∧ Gm s ⟨#[119]⟩ ⟨#[99]⟩ posts ∧ Mv w wr B s (3 + k) [])) (fun iv _ => m - (intOf iv).toNat)
  case atStart => exact ⟨0, _, [], rfl, Nat.zero_le _, ⟨rfl, H3.out.1, H3.out.2⟩⟩
  case round =>
    obtain ⟨k, s, posts, rfl, hkt, HS⟩ := hrel
    by_cases hlt : k < m
    · have hkb : (k : Int) ≤ 100 := by have := HMl.out; omega
      go_wp2_with fail
      refine (HPo.out _).mono ?_
      rintro e w4 ⟨rfl, hb4⟩
      have HS4 : Hid (Mv w w4 B s (3 + k) []) := HS.out.2.2.below hb4
      clear hb4
      go_wp2_with fail
      refine (HY.out w4 s (3 + k) [] posts HS4.out (by have := HMl.out; omega) HS.out.2.1 (by have := HMl.out; have := HS.out.1; omega)).mono ?_
      rintro e w5 ⟨p5, m5, c5, rfl, hg, hM⟩
      have HS5 : Hid ((posts ++ [(⟨⟨#[97, 110, 110]⟩, ⟨#[120]⟩⟩ : Mo.Po)]).length = k + 1 ∧ Gm (Mo.does s ⟨3, ⟨#[119]⟩, ⟨#[99]⟩, ⟨#[97, 110, 110]⟩, ⟨#[120]⟩, ⟨#[]⟩, ⟨#[]⟩, 0, 0⟩) ⟨#[119]⟩ ⟨#[99]⟩ (posts ++ [⟨⟨#[97, 110, 110]⟩, ⟨#[120]⟩⟩]) ∧ Mv w w5 B (Mo.does s ⟨3, ⟨#[119]⟩, ⟨#[99]⟩, ⟨#[97, 110, 110]⟩, ⟨#[120]⟩, ⟨#[]⟩, ⟨#[]⟩, 0, 0⟩) (3 + (k + 1)) []) := ⟨by rw [List.length_append, HS.out.1]; rfl, hg, hM⟩
      clear hg hM
      go_wp2
      go_roundw
      case rel => exact ⟨k + 1, _, _, by go_num, by omega, HS5⟩
      case measure => simp [intOf]; omega
    · obtain rfl : k = m := by omega
      have HG0 : Hid (posts.length = k ∧ Gm s ⟨#[119]⟩ ⟨#[99]⟩ posts ∧ Mv w wr B s 100 []) := ⟨HS.out.1, HS.out.2.1, HS.out.2.2.more (by have := HMl.out; omega)⟩
      clear HS hlt hkt H3
      go_wp2_with fail
      refine (HM1.out _ _ _ _ _ HG0.out.2.2 (by omega) HG0.out.2.1).mono ?_
      rintro e y6 ⟨p6, m6', c6, rfl, hg, hM⟩
      obtain ⟨t1, ht1⟩ : ∃ t1, t1 = Mo.does s ⟨5, ⟨#[119]⟩, ⟨#[99]⟩, ⟨#[]⟩, ⟨#[]⟩, ⟨#[118]⟩, ⟨#[100]⟩, 0, 0⟩ := ⟨_, rfl⟩
      rw [← ht1] at hg hM
      have HG1 : Hid (Gm t1 ⟨#[118]⟩ ⟨#[100]⟩ posts) := hg
      clear hg ht1
      obtain ⟨b6, hb⟩ : ∃ b, b = y6.heap.size := ⟨_, rfl⟩
      obtain ⟨z6, hw⟩ : ∃ z, z = y6.alloc (.cells #[.int .i64 0, .int .i64 0, .slice p6 m6' c6] 29) := ⟨_, rfl⟩
      have HZ6 : Hid (Mv w z6 B t1 101 [(b6, 0, .int .i64 0), (b6, 1, .int .i64 0)]) := by rw [hw, hb]; exact hM.box _ _ _ _
      have HE6 : Hid (b6 = y6.heap.size ∧ z6 = y6.alloc (.cells #[.int .i64 0, .int .i64 0, .slice p6 m6' c6] 29)) := ⟨hb, hw⟩
      clear hb hw hM
      go_wp2_with fail
      rw [← HE6.out.2, ← HE6.out.1]
      refine (HPo.out _).mono ?_
      rintro e x7 ⟨rfl, hb⟩
      have HX7 : Hid (Mv w x7 B t1 101 [(b6, 0, .int .i64 0), (b6, 1, .int .i64 0)]) := HZ6.out.below hb
      clear hb
      go_wp2_with fail
      refine (HGo.out _ _ _ _ _ HX7.out (by omega) HG1.out).mono ?_
      rintro e y7 ⟨p7, m7', c7, rfl, hM⟩
      obtain ⟨b7, hb⟩ : ∃ b, b = y7.heap.size := ⟨_, rfl⟩
      obtain ⟨z7, hw⟩ : ∃ z, z = y7.alloc (.cells #[.int .i64 3, .int .i64 0, .slice p7 m7' c7] 29) := ⟨_, rfl⟩
      have HZ7 : Hid (Mv w z7 B t1 102 [(b7, 0, .int .i64 3), (b7, 1, .int .i64 0), (b6, 0, .int .i64 0), (b6, 1, .int .i64 0)]) := by rw [hw, hb]; exact hM.box _ _ _ _
      have HE7 : Hid (b7 = y7.heap.size ∧ z7 = y7.alloc (.cells #[.int .i64 3, .int .i64 0, .slice p7 m7' c7] 29)) := ⟨hb, hw⟩
      clear hb hw hM
      go_wp2_with fail
      rw [← HE7.out.2, ← HE7.out.1]
      refine (HMe.out _ _ _ _ _ HZ7.out (by omega) HG1.out).mono ?_
      rintro e y8 ⟨g, off, cS, rfl, hc2, hcm, hM⟩
      have HY8 : Hid (2 ≤ cS ∧ cS ≤ maxLen ∧ Mv w y8 B t1 102 [(g, off, .string ⟨#[97, 110, 110]⟩), (g, off + 1, .string ⟨#[98, 111, 98]⟩), (b7, 0, .int .i64 3), (b7, 1, .int .i64 0), (b6, 0, .int .i64 0), (b6, 1, .int .i64 0)]) := ⟨hc2, hcm, hM⟩
      clear hc2 hcm hM
      go_wp2_with fail
      refine (HLe.out _ _ _ _ _ HY8.out.2.2 HG1.out).mono ?_
      rintro e y9 ⟨rfl, hy9⟩
      have hy9 := hy9.symm
      subst hy9
      go_wp2_with fail
      refine (HSe.out _ _ _ _ _ HY8.out.2.2 (by omega) HG1.out).mono ?_
      rintro e y12 ⟨p12, m12', c12, rfl, hM⟩
      obtain ⟨b12, hb⟩ : ∃ b, b = y12.heap.size := ⟨_, rfl⟩
      obtain ⟨z12, hw⟩ : ∃ z, z = y12.alloc (.cells #[.int .i64 90, .int .i64 0, .slice p12 m12' c12] 29) := ⟨_, rfl⟩
      have HZ12 : Hid (Mv w z12 B t1 103 [(b12, 0, .int .i64 90), (b12, 1, .int .i64 0), (g, off, .string ⟨#[97, 110, 110]⟩), (g, off + 1, .string ⟨#[98, 111, 98]⟩), (b7, 0, .int .i64 3), (b7, 1, .int .i64 0), (b6, 0, .int .i64 0), (b6, 1, .int .i64 0)]) := by rw [hw, hb]; exact hM.box _ _ _ _
      have HE12 : Hid (b12 = y12.heap.size ∧ z12 = y12.alloc (.cells #[.int .i64 90, .int .i64 0, .slice p12 m12' c12] 29)) := ⟨hb, hw⟩
      clear hb hw hM
      go_wp2_with fail
      rw [← HE12.out.2, ← HE12.out.1]
      refine (HM2.out _ _ _ _ _ HZ12.out (by omega) HG1.out).mono ?_
      rintro e y13 ⟨p13, m13', c13, rfl, hg, hM⟩
      obtain ⟨t2, ht2⟩ : ∃ t2, t2 = Mo.does t1 ⟨5, ⟨#[118]⟩, ⟨#[100]⟩, ⟨#[]⟩, ⟨#[]⟩, ⟨#[119]⟩, ⟨#[99]⟩, 0, 0⟩ := ⟨_, rfl⟩
      rw [← ht2] at hg hM
      have HG2 : Hid (Gm t2 ⟨#[119]⟩ ⟨#[99]⟩ posts) := hg
      clear hg ht2
      obtain ⟨b13, hb⟩ : ∃ b, b = y13.heap.size := ⟨_, rfl⟩
      obtain ⟨z13, hw⟩ : ∃ z, z = y13.alloc (.cells #[.int .i64 0, .int .i64 0, .slice p13 m13' c13] 29) := ⟨_, rfl⟩
      have HZ13 : Hid (Mv w z13 B t2 104 [(b13, 0, .int .i64 0), (b13, 1, .int .i64 0), (b12, 0, .int .i64 90), (b12, 1, .int .i64 0), (g, off, .string ⟨#[97, 110, 110]⟩), (g, off + 1, .string ⟨#[98, 111, 98]⟩), (b7, 0, .int .i64 3), (b7, 1, .int .i64 0), (b6, 0, .int .i64 0), (b6, 1, .int .i64 0)]) := by rw [hw, hb]; exact hM.box _ _ _ _
      have HE13 : Hid (b13 = y13.heap.size ∧ z13 = y13.alloc (.cells #[.int .i64 0, .int .i64 0, .slice p13 m13' c13] 29)) := ⟨hb, hw⟩
      clear hb hw hM
      go_wp2_with fail
      rw [← HE13.out.2, ← HE13.out.1]
      refine (HPo.out _).mono ?_
      rintro e x14 ⟨rfl, hb⟩
      have HX14 : Hid (Mv w x14 B t2 104 [(b13, 0, .int .i64 0), (b13, 1, .int .i64 0), (b12, 0, .int .i64 90), (b12, 1, .int .i64 0), (g, off, .string ⟨#[97, 110, 110]⟩), (g, off + 1, .string ⟨#[98, 111, 98]⟩), (b7, 0, .int .i64 3), (b7, 1, .int .i64 0), (b6, 0, .int .i64 0), (b6, 1, .int .i64 0)]) := HZ13.out.below hb
      clear hb
      go_wp2_with fail
      refine (HY.out _ _ _ _ _ HX14.out (by omega) HG2.out (by have := HG0.out.1; have := HMl.out; omega)).mono ?_
      rintro e y14 ⟨p14, m14', c14, he14, _, hM⟩
      rw [HG0.out.1] at he14
      subst he14
      obtain ⟨t3, ht3⟩ : ∃ t3, t3 = Mo.does t2 ⟨3, ⟨#[119]⟩, ⟨#[99]⟩, ⟨#[97, 110, 110]⟩, ⟨#[120]⟩, ⟨#[]⟩, ⟨#[]⟩, 0, 0⟩ := ⟨_, rfl⟩
      rw [← ht3] at hM
      clear ht3
      obtain ⟨b14, hb⟩ : ∃ b, b = y14.heap.size := ⟨_, rfl⟩
      obtain ⟨z14, hw⟩ : ∃ z, z = y14.alloc (.cells #[.int .i64 0, .int .i64 (k : Int), .slice p14 m14' c14] 29) := ⟨_, rfl⟩
      have HZ14 : Hid (Mv w z14 B t3 105 [(b14, 0, .int .i64 0), (b14, 1, .int .i64 (k : Int)), (b13, 0, .int .i64 0), (b13, 1, .int .i64 0), (b12, 0, .int .i64 90), (b12, 1, .int .i64 0), (g, off, .string ⟨#[97, 110, 110]⟩), (g, off + 1, .string ⟨#[98, 111, 98]⟩), (b7, 0, .int .i64 3), (b7, 1, .int .i64 0), (b6, 0, .int .i64 0), (b6, 1, .int .i64 0)]) := by rw [hw, hb]; exact hM.box _ _ _ _
      have HE14 : Hid (b14 = y14.heap.size ∧ z14 = y14.alloc (.cells #[.int .i64 0, .int .i64 (k : Int), .slice p14 m14' c14] 29)) := ⟨hb, hw⟩
      clear hb hw hM
      have HOld : Hid (Below w.heap.size w z14) := HZ14.out.old
      obtain ⟨loc, _, hL⟩ := HZ14.out
      have d0 := (hL (b14, 0, .int .i64 0) (by simp)).2
      have d1 := (hL (b14, 1, .int .i64 (k : Int)) (by simp)).2
      have d2 := (hL (b13, 0, .int .i64 0) (by simp)).2
      have d3 := (hL (b12, 0, .int .i64 90) (by simp)).2
      have d4 := (hL (b7, 0, .int .i64 3) (by simp)).2
      have d5 := (hL (b6, 0, .int .i64 0) (by simp)).2
      have d6 := (hL (g, off, .string ⟨#[97, 110, 110]⟩) (by simp)).2
      have d7 := (hL (g, (off + 1), .string ⟨#[98, 111, 98]⟩) (by simp)).2
      dsimp only at d0 d1 d2 d3 d4 d5 d6 d7
      have HSt : Hid (StrV z14 (.slice (some ⟨g, off, none⟩) 2 cS) [⟨#[97, 110, 110]⟩, ⟨#[98, 111, 98]⟩]) := by
        refine ⟨_, cS, rfl, HY8.out.1, HY8.out.2.1, .inr ⟨g, off, rfl, fun j x hx => ?_⟩⟩
        match j, hx with
        | 0, hx => (have hx : ⟨#[97, 110, 110]⟩ = x := by simpa using hx); rw [← hx]; exact d6
        | 1, hx => (have hx : ⟨#[98, 111, 98]⟩ = x := by simpa using hx); rw [← hx]; exact d7
        | j + 2, hx => simp at hx
      clear d6 d7 hL
      have HDs : Hid (z14.cell? ⟨b14, 0, none⟩ = some (.int .i64 0) ∧ z14.cell? ⟨b14, 1, none⟩ = some (.int .i64 (k : Int)) ∧ z14.cell? ⟨b13, 0, none⟩ = some (.int .i64 0) ∧ z14.cell? ⟨b12, 0, none⟩ = some (.int .i64 90) ∧ z14.cell? ⟨b7, 0, none⟩ = some (.int .i64 3) ∧ z14.cell? ⟨b6, 0, none⟩ = some (.int .i64 0)) := ⟨d0, d1, d2, d3, d4, d5⟩
      have HPL : Hid ((posts.length : Int) = (k : Int)) := by rw [HG0.out.1]; show _ = _; rfl
      rw [HE14.out.2, HE14.out.1] at d0 d1
      rw [HE14.out.2] at d2 d3 d4 d5
      have hpl := HPL.out
      go_wp2_with fail
      rw [← HE14.out.2, ← HE14.out.1]
      have h26 := HE14.out
      have hzs : b14 + 1 = z14.heap.size := by rw [h26.2, h26.1]; simp
      have HNw : Hid (StrV (z14.alloc (.cells #[.string ⟨#[97, 110, 110]⟩, .string ⟨#[98, 111, 98]⟩] 9)) (.slice (some ⟨b14 + 1, 0, none⟩) 2 2) [⟨#[97, 110, 110]⟩, ⟨#[98, 111, 98]⟩]) := by
        refine ⟨_, 2, rfl, by decide, by decide, .inr ⟨b14 + 1, 0, rfl, fun j x hx => ?_⟩⟩
        rw [hzs]
        match j, hx with
        | 0, hx => (have hx : ⟨#[97, 110, 110]⟩ = x := by simpa using hx); rw [← hx]; exact World.cell?_alloc_mark z14 _ _ _ 0
        | 1, hx => (have hx : ⟨#[98, 111, 98]⟩ = x := by simpa using hx); rw [← hx]; exact World.cell?_alloc_mark z14 _ _ _ 1
        | j + 2, hx => simp at hx
      clear hzs h26
      refine (HST.out _ _ _ (HSt.out.below (below_alloc z14 _)) HNw.out).mono ?_
      rintro e v1 ⟨rfl, hb⟩
      have HV : Hid (Below z14.heap.size z14 v1) := (below_alloc z14 _).trans (hb.mono (below_alloc z14 _).size)
      clear hb d0 d1 d2 d3 d4 d5
      obtain ⟨q0, q1, q2, q3, _, _⟩ := HDs.out
      have d0 := (HV.out.cell (p := ⟨b14, 0, none⟩) (World.block_lt_of_cell? _ _ q0)).trans q0
      have d1 := (HV.out.cell (p := ⟨b14, 1, none⟩) (World.block_lt_of_cell? _ _ q1)).trans q1
      have d2 := (HV.out.cell (p := ⟨b13, 0, none⟩) (World.block_lt_of_cell? _ _ q2)).trans q2
      have d3 := (HV.out.cell (p := ⟨b12, 0, none⟩) (World.block_lt_of_cell? _ _ q3)).trans q3
      clear q0 q1 q2 q3
      go_wp2_with fail
      refine (HA.out _).mono ?_
      rintro e v2 ⟨rfl, hb⟩
      have HE : Hid (Below w.heap.size w v2) := (HOld.out.trans (HV.out.mono HOld.out.size)).trans (hb.mono (HOld.out.trans (HV.out.mono HOld.out.size)).size)
      clear hb
      go_wp2
      go_ret
      exact ⟨rfl, HE.out⟩

theorem own : ownKnob Try.prog.godebug = none := by kernel_rfl

set_option maxRecDepth 100000 in
theorem lifted (os : Os) (started : os.Started) (H : Type) (enc : TypeId × Value → H) :
    ReturnsInHanded {} Try.checked os 7 .any (Rows.modelMovesSpec.pre6 enc Try.prog Try.f7 Rows.modelMovesRow.domain false) (Rows.modelMovesSpec.post enc Try.prog Try.f7 false true false false) := by
  refine returnsInHanded_of_change_sized (C := Try.checked) own started (by kernel_rfl) Try.func7
    (ChangeSpec.witness6 (enc := enc) (C := Try.checked) false ⟨#[], #[.int .i64 0], []⟩ 8 (by kernel_rfl) (by kernel_rfl) (by kernel_rfl) (by kernel_rfl)) ?_
  intro W base args ds gs before hval0 hW _ hsz0 _
  have hsz : (DataW.weightsEach Try.prog (Try.f7.params.toList ++ Rows.modelMovesSpec.plain.varTypes Try.prog) (ds ++ gs)).all (· ≤ reachBytes) = true := hsz0
  have hval : ∀ (j : Nat) t v, Try.f7.params[j]? = some t → args[j]? = some v → Value.okWide Try.prog W .any base t v := hval0
  have hW' := hW
  obtain ⟨p, q, hA0, hV, rfl, hfz, hnd⟩ := hW
  have hA : DataW.TrodAll enc Try.prog W 0 (fun _ => true) true Try.f7.params.toList args.toList ds p := hA0
  rw [Try.params7] at hA hval hsz
  obtain ⟨v0, vs0, d0, ds0, p0, q0, hargs, rfl, rfl, h0, r0⟩ := trodAll_cons hA
  obtain ⟨rfl, rfl, rfl⟩ := trodAll_nil r0
  obtain rfl : args = #[v0] := by cases args; simp_all
  obtain ⟨rfl, rfl⟩ := trodVars_none hV
  obtain ⟨a0, rfl, rfl, rfl, w0⟩ := open_int Try.underlying3 (hval 0 3 v0 rfl rfl) h0
  have b0 : -9223372036854775808 ≤ a0 ∧ a0 ≤ 9223372036854775807 := by simpa [Lit.wf, IntKind.min, IntKind.max, IntKind.signed, IntKind.bits] using w0
  clear hA0 hval0 hsz0
  refine (walk a0 W b0).mono fun e W' ⟨he, bel⟩ => ?_
  subst he
  exact ⟨_, rfl, _, _, _, [], _, [], hW', trodAll_mk1 (shut_bool Try.underlying4 _), (trodAll_cons_mk (shut_int Try.underlying3 w0) trodAll_mk0), rfl, bel.frame _, fun h => by cases h⟩

theorem over : Rows.modelMovesRow.holds Try.pinned (OpenSpec.ofChange Rows.modelMovesSpec) :=
  OpenClaim.holds_of_wide 7 Try.f7 rfl rfl rfl rfl rfl rfl rfl ⟨rfl, rfl, rfl, rfl, rfl⟩ rfl rfl rfl rfl rfl (by kernel_rfl) Try.func7 (by kernel_rfl)
    (of_decide_eq_true (by kernel_rfl)) (by unfold Func.isWrapper; first | (rw [if_pos (by decide +kernel)]; kernel_rfl) | (rw [if_neg (by decide +kernel)]; exact ⟨rfl, rfl⟩))
    (fun os started H enc _ => lifted os started H enc)


end Go.Proofs.Ytkioeahlajjmiaa.modelMoves
namespace Go.Proofs.Ytkioeahlajjmiaa
/-- The statement. -/
theorem modelMoves_holds : Rows.ModelMovesSaid := modelMoves.over
end Go.Proofs.Ytkioeahlajjmiaa
