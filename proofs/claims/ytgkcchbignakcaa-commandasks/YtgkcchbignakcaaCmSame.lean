/-
  The document's own comparing of lists, replies and messages, where they are the same.
-/
import Derived.Test.YtgkcchbignakcaaCmEls
namespace Go.Proofs.Ytgkcchbignakcaa
open Go.RowKit

theorem bel_alloc2 (w : World) (a b : Obj) : Below w.heap.size w ((w.alloc a).alloc b) := (alloc_below w a).alloc (by simp) b
theorem bel_then {u X Y : World} (h : Below u.heap.size u X) (h2 : Below X.heap.size X Y) : Below u.heap.size u Y := h.trans ⟨h2.os, h2.tape, h2.output, h2.size, fun k hk => h2.block k (Nat.lt_of_lt_of_le hk h.size)⟩

theorem run_nePosts (u : ByteArray) (t : ByteArray) (w : World) : (binOp .neq 41 (.agg #[.string u, .string t]) (.agg #[.string u, .string t])).run Try.prog w = .ok (.bool false) w := by
  go_simp

set_option maxHeartbeats 1000000 in
set_option maxRecDepth 20000 in
theorem SamePosts_c {w : World} {p p' : Option Addr} {c c' : Nat} {l : List (ByteArray × ByteArray)} (h1 : PostsIn w p l) (h2 : PostsIn w p' l) (hl : l.length ≤ 9223372036854775807) :
    Calls Try.prog 52 #[.slice p l.length c, .slice p' l.length c'] w fun e w' => e = .returned (.bool true) ∧ Below w.heap.size w w' := by
  have HC : Hid (∀ (i : Nat) (X : World), Below w.heap.size w X → i < l.length → ∃ g o g' o' u t, p = some ⟨g, o, none⟩ ∧ p' = some ⟨g', o', none⟩ ∧ X.cell? ⟨g, o + i * 2, none⟩ = some (.string u) ∧ X.cell? ⟨g, o + i * 2 + 1, none⟩ = some (.string t) ∧ X.cell? ⟨g', o' + i * 2, none⟩ = some (.string u) ∧ X.cell? ⟨g', o' + i * 2 + 1, none⟩ = some (.string t)) := fun i X hX hi => by
    rcases h1.below hX with h0 | ⟨g, o, hp, hg, ha⟩
    · rw [h0] at hi; simp at hi
    · rcases h2.below hX with h0 | ⟨g', o', hp', hg', ha'⟩
      · rw [h0] at hi; simp at hi
      · obtain ⟨k0, k1⟩ := ha i l[i] (List.getElem?_eq_getElem hi)
        obtain ⟨k0', k1'⟩ := ha' i l[i] (List.getElem?_eq_getElem hi)
        exact ⟨g, o, g', o', _, _, hp, hp', k0, k1, k0', k1'⟩
  generalize l.length = n at HC hl ⊢
  clear h1 h2
  have hne := run_nePosts
  go_enter Try.func52, Try.ntmps52
  go_wp2
  go_loopw [5] (fun iv wr => ∃ i : Nat, iv = .int .i64 (i : Int) ∧ i ≤ n ∧ Hid (Below w.heap.size w wr)) (fun iv _ => n - (intOf iv).toNat)
  case atStart => exact ⟨0, rfl, Nat.zero_le _, Below.refl _ _⟩
  case round =>
    obtain ⟨i, rfl, hi, HB⟩ := hrel
    by_cases hlt : i < n
    · obtain ⟨g, o, g', o', u, t, hp, hp', k0, k1, k2, k3⟩ := HC.out i _ HB.out hlt
      subst hp hp'
      have hi0 : (0 : Int) ≤ (i : Int) := by omega
      have hi1 : (i : Int) < (n : Int) := by omega
      have HBd : Hid (Below w.heap.size w wr.drew) := HB.out.drew
      go_wp2
      go_region
      go_wp2
      go_roundw
      case rel => exact ⟨i + 1, by go_num, by omega, HBd⟩
      case measure => simp [intOf]; omega
    · obtain rfl : i = n := by omega
      go_wp2
      go_ret
      exact ⟨rfl, HB.out⟩

theorem run_neEnts (u : Int) (t : ByteArray) (w : World) : (binOp .neq 54 (.agg #[.int .i64 u, .string t]) (.agg #[.int .i64 u, .string t])).run Try.prog w = .ok (.bool false) w := by
  go_simp

set_option maxHeartbeats 1000000 in
set_option maxRecDepth 20000 in
theorem SameEnts_c {w : World} {p p' : Option Addr} {c c' : Nat} {l : List (Int × ByteArray)} (h1 : EntsIn w p l) (h2 : EntsIn w p' l) (hl : l.length ≤ 9223372036854775807) :
    Calls Try.prog 38 #[.slice p l.length c, .slice p' l.length c'] w fun e w' => e = .returned (.bool true) ∧ Below w.heap.size w w' := by
  have HC : Hid (∀ (i : Nat) (X : World), Below w.heap.size w X → i < l.length → ∃ g o g' o' u t, p = some ⟨g, o, none⟩ ∧ p' = some ⟨g', o', none⟩ ∧ X.cell? ⟨g, o + i * 2, none⟩ = some (.int .i64 u) ∧ X.cell? ⟨g, o + i * 2 + 1, none⟩ = some (.string t) ∧ X.cell? ⟨g', o' + i * 2, none⟩ = some (.int .i64 u) ∧ X.cell? ⟨g', o' + i * 2 + 1, none⟩ = some (.string t)) := fun i X hX hi => by
    rcases h1.below hX with h0 | ⟨g, o, hp, hg, ha⟩
    · rw [h0] at hi; simp at hi
    · rcases h2.below hX with h0 | ⟨g', o', hp', hg', ha'⟩
      · rw [h0] at hi; simp at hi
      · obtain ⟨k0, k1⟩ := ha i l[i] (List.getElem?_eq_getElem hi)
        obtain ⟨k0', k1'⟩ := ha' i l[i] (List.getElem?_eq_getElem hi)
        exact ⟨g, o, g', o', _, _, hp, hp', k0, k1, k0', k1'⟩
  generalize l.length = n at HC hl ⊢
  clear h1 h2
  have hne := run_neEnts
  go_enter Try.func38, Try.ntmps38
  go_wp2
  go_loopw [5] (fun iv wr => ∃ i : Nat, iv = .int .i64 (i : Int) ∧ i ≤ n ∧ Hid (Below w.heap.size w wr)) (fun iv _ => n - (intOf iv).toNat)
  case atStart => exact ⟨0, rfl, Nat.zero_le _, Below.refl _ _⟩
  case round =>
    obtain ⟨i, rfl, hi, HB⟩ := hrel
    by_cases hlt : i < n
    · obtain ⟨g, o, g', o', u, t, hp, hp', k0, k1, k2, k3⟩ := HC.out i _ HB.out hlt
      subst hp hp'
      have hi0 : (0 : Int) ≤ (i : Int) := by omega
      have hi1 : (i : Int) < (n : Int) := by omega
      have HBd : Hid (Below w.heap.size w wr.drew) := HB.out.drew
      go_wp2
      go_region
      go_wp2
      go_roundw
      case rel => exact ⟨i + 1, by go_num, by omega, HBd⟩
      case measure => simp [intOf]; omega
    · obtain rfl : i = n := by omega
      go_wp2
      go_ret
      exact ⟨rfl, HB.out⟩

set_option maxHeartbeats 1000000 in
set_option maxRecDepth 20000 in
theorem Same9_c {w : World} {p p' : Option Addr} {c c' : Nat} (x : RepD) (h1 : PostsIn w p x.posts) (h2 : PostsIn w p' x.posts) (hl : x.posts.length ≤ 9223372036854775807) :
    Calls Try.prog 37 #[.agg #[.int .i64 x.err, .int .i64 x.at_, .slice p x.posts.length c], .agg #[.int .i64 x.err, .int .i64 x.at_, .slice p' x.posts.length c']] w fun e w' => e = .returned (.bool true) ∧ Below w.heap.size w w' := by
  have HP : Hid (∀ X, Below w.heap.size w X → Calls Try.prog 52 #[.slice p x.posts.length c, .slice p' x.posts.length c'] X fun e w' => e = .returned (.bool true) ∧ Below X.heap.size X w') := fun X hX => SamePosts_c (h1.below hX) (h2.below hX) hl
  have HA : Hid (∀ o o', Below w.heap.size w ((w.alloc o).alloc o')) := bel_alloc2 w
  generalize x.posts.length = n at *
  clear h1 h2 hl
  go_enter Try.func37, Try.ntmps37
  go_wp2_with fail
  refine (HP.out _ (HA.out _ _)).mono ?_
  rintro e w1 ⟨rfl, hb⟩
  have HB := hidden hb
  clear hb
  go_wp2
  go_ret
  exact ⟨rfl, bel_then (HA.out _ _) HB.out⟩

set_option maxHeartbeats 1000000 in
set_option maxRecDepth 20000 in
theorem SameReply_c {w : World} {p p' : Option Addr} {c c' : Nat} (x : RepD) (h1 : PostsIn w p x.posts) (h2 : PostsIn w p' x.posts) (hl : x.posts.length ≤ 9223372036854775807) :
    Calls Try.prog 21 #[.agg #[.int .i64 x.err, .int .i64 x.at_, .slice p x.posts.length c], .agg #[.int .i64 x.err, .int .i64 x.at_, .slice p' x.posts.length c']] w fun e w' => e = .returned (.bool true) ∧ Below w.heap.size w w' := by
  have HP : Hid (∀ X, Below w.heap.size w X → Calls Try.prog 37 #[.agg #[.int .i64 x.err, .int .i64 x.at_, .slice p x.posts.length c], .agg #[.int .i64 x.err, .int .i64 x.at_, .slice p' x.posts.length c']] X fun e w' => e = .returned (.bool true) ∧ Below X.heap.size X w') := fun X hX => Same9_c x (h1.below hX) (h2.below hX) hl
  have HA : Hid (∀ o o', Below w.heap.size w ((w.alloc o).alloc o')) := bel_alloc2 w
  generalize x.posts.length = n at *
  clear h1 h2 hl
  go_enter Try.func21, Try.ntmps21
  go_wp2_with fail
  refine (HP.out _ (HA.out _ _)).mono ?_
  rintro e w1 ⟨rfl, hb⟩
  have HB := hidden hb
  clear hb
  go_wp2
  go_ret
  exact ⟨rfl, bel_then (HA.out _ _) HB.out⟩
set_option maxHeartbeats 2000000 in
set_option maxRecDepth 20000 in
theorem SameMessage_c {w : World} {p p' : Option Addr} {c c' : Nat} (x : MsgD) (h1 : EntsIn w p x.ents) (h2 : EntsIn w p' x.ents) (hl : x.ents.length ≤ 9223372036854775807) :
    Calls Try.prog 25 #[.agg #[.int .i64 x.kind, .int .i64 x.group, .int .i64 x.frm, .int .i64 x.to, .int .i64 x.term, .int .i64 x.index, .int .i64 x.at_, .slice p x.ents.length c, .int .i64 x.commit, .bool x.ok, .string x.data], .agg #[.int .i64 x.kind, .int .i64 x.group, .int .i64 x.frm, .int .i64 x.to, .int .i64 x.term, .int .i64 x.index, .int .i64 x.at_, .slice p' x.ents.length c', .int .i64 x.commit, .bool x.ok, .string x.data]] w fun e w' => e = .returned (.bool true) ∧ Below w.heap.size w w' := by
  have HP : Hid (∀ X, Below w.heap.size w X → Calls Try.prog 38 #[.slice p x.ents.length c, .slice p' x.ents.length c'] X fun e w' => e = .returned (.bool true) ∧ Below X.heap.size X w') := fun X hX => SameEnts_c (h1.below hX) (h2.below hX) hl
  have HA : Hid (∀ o o', Below w.heap.size w ((w.alloc o).alloc o')) := bel_alloc2 w
  generalize x.ents.length = n at *
  obtain ⟨b, hb⟩ : ∃ b, b = x.ok := ⟨_, rfl⟩
  rw [← hb]
  clear h1 h2 hl hb
  cases b
  all_goals
    go_enter Try.func25, Try.ntmps25
    go_wp2_with (go_at_call 38; refine (HP.out _ (HA.out _ _)).mono ?_; rintro e w1 ⟨rfl, hb⟩; have HB := hidden hb; clear hb)
    go_ret
    exact ⟨rfl, bel_then (HA.out _ _) HB.out⟩
end Go.Proofs.Ytgkcchbignakcaa
