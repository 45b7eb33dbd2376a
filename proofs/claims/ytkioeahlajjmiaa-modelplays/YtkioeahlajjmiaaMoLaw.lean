/-
  What the laws of layer 9 begin with: a channel, a member, posts.
-/
import Derived.Test.YtkioeahlajjmiaaMoFresh
import Derived.Test.YtkioeahlajjmiaaDkMask
namespace Go.Proofs.Ytkioeahlajjmiaa
open Go.RowKit

theorem and_15 (x : Int) : bits .and .i64 x 15 = x % 16 := by
  have h1 : (BitVec.ofInt 64 (15 : Int)).toNat = 2 ^ 4 - 1 := by decide
  have h2 : (BitVec.ofInt 64 x).toNat = (x % 18446744073709551616).toNat := by rw [BitVec.toNat_ofInt]; rfl
  show IntKind.i64.wrap ((BitVec.ofInt 64 x &&& BitVec.ofInt 64 15).toNat : Int) = _
  rw [BitVec.toNat_and, h1, h2, Nat.and_two_pow_sub_one_eq_mod, wraps_i64 _ (by omega) (by rw [pow63]; omega)]
  omega
theorem and_63 (x : Int) : bits .and .i64 x 63 = x % 64 := by
  have h1 : (BitVec.ofInt 64 (63 : Int)).toNat = 2 ^ 6 - 1 := by decide
  have h2 : (BitVec.ofInt 64 x).toNat = (x % 18446744073709551616).toNat := by rw [BitVec.toNat_ofInt]; rfl
  show IntKind.i64.wrap ((BitVec.ofInt 64 x &&& BitVec.ofInt 64 63).toNat : Int) = _
  rw [BitVec.toNat_and, h1, h2, Nat.and_two_pow_sub_one_eq_mod, wraps_i64 _ (by omega) (by rw [pow63]; omega)]
  omega
theorem and_127 (x : Int) : bits .and .i64 x 127 = x % 128 := by
  have h1 : (BitVec.ofInt 64 (127 : Int)).toNat = 2 ^ 7 - 1 := by decide
  have h2 : (BitVec.ofInt 64 x).toNat = (x % 18446744073709551616).toNat := by rw [BitVec.toNat_ofInt]; rfl
  show IntKind.i64.wrap ((BitVec.ofInt 64 x &&& BitVec.ofInt 64 127).toNat : Int) = _
  rw [BitVec.toNat_and, h1, h2, Nat.and_two_pow_sub_one_eq_mod, wraps_i64 _ (by omega) (by rw [pow63]; omega)]
  omega

section
variable {w X : World} {B : Nat} {s : Mo.St} {n : Nat} {l : List (Nat × Int × Int)}

theorem okW : Ok ⟨#[119]⟩ := Ok.of (by decide)
theorem okE : Ok ⟨#[]⟩ := Ok.of (by decide)
theorem okA : Ok ⟨#[97, 110, 110]⟩ := Ok.of (by decide)

/-- A channel is made where there is none. -/
theorem Mb.make (h : Mb w X B s n l) (hn : n < 1099511627776) (y : ByteArray) (hy : y.size ≤ 2000) (hs : s.ch ⟨#[119]⟩ y = none) (hmay : Mo.may ⟨1, ⟨#[119]⟩, y, ⟨#[]⟩, ⟨#[]⟩, ⟨#[]⟩, ⟨#[]⟩, 0, 0⟩ = true) :
    Calls Try.prog 10 #[.pointer (some ⟨B, 0, none⟩), .agg #[.int .i64 1, .string ⟨#[119]⟩, .string y, .string ⟨#[]⟩, .string ⟨#[]⟩, .string ⟨#[]⟩, .string ⟨#[]⟩, .int .i64 0, .int .i64 0]] X fun e Y => ∃ p m c, e = .returned (.agg #[.int .i64 0, .int .i64 0, .slice p m c]) ∧ Mb w Y B (Mo.setC s ⟨#[119]⟩ y (some Mo.newC)) (n + 1) l := by
  refine (h.doC hn ⟨1, ⟨#[119]⟩, y, ⟨#[]⟩, ⟨#[]⟩, ⟨#[]⟩, ⟨#[]⟩, 0, 0⟩ ⟨okW, Ok.of hy, okE, okE, okE, okE⟩ (by show (1 : Int) ≠ 5; decide) (by show (1 : Int) ≠ 6; decide)).mono ?_
  rintro e Y ⟨p, m, c, he, _, _, hM⟩
  obtain ⟨a1, b1⟩ := make_first hs hmay
  rw [a1] at he
  rw [b1] at hM
  exact ⟨p, m, c, he, hM⟩

/-- ann joins. -/
theorem Mb.joinA (h : Mb w X B s n l) (hn : n < 1099511627776) (y : ByteArray) (hy : y.size ≤ 2000) {ch : Mo.Ch} (hs : s.ch ⟨#[119]⟩ y = some ch) (hc : ch.posts = []) (ho : s.off ⟨#[97, 110, 110]⟩ = false) (hm : ch.mem ⟨#[97, 110, 110]⟩ = false) (hmay : Mo.may ⟨2, ⟨#[119]⟩, y, ⟨#[97, 110, 110]⟩, ⟨#[]⟩, ⟨#[]⟩, ⟨#[]⟩, 0, 0⟩ = true) :
    Calls Try.prog 10 #[.pointer (some ⟨B, 0, none⟩), .agg #[.int .i64 2, .string ⟨#[119]⟩, .string y, .string ⟨#[97, 110, 110]⟩, .string ⟨#[]⟩, .string ⟨#[]⟩, .string ⟨#[]⟩, .int .i64 0, .int .i64 0]] X fun e Y => ∃ p m c, e = .returned (.agg #[.int .i64 0, .int .i64 0, .slice p m c]) ∧ Gd (Mo.does s ⟨2, ⟨#[119]⟩, y, ⟨#[97, 110, 110]⟩, ⟨#[]⟩, ⟨#[]⟩, ⟨#[]⟩, 0, 0⟩) y [] ∧ Mb w Y B (Mo.does s ⟨2, ⟨#[119]⟩, y, ⟨#[97, 110, 110]⟩, ⟨#[]⟩, ⟨#[]⟩, ⟨#[]⟩, 0, 0⟩) (n + 1) l := by
  refine (h.doC hn ⟨2, ⟨#[119]⟩, y, ⟨#[97, 110, 110]⟩, ⟨#[]⟩, ⟨#[]⟩, ⟨#[]⟩, 0, 0⟩ ⟨okW, Ok.of hy, okA, okE, okE, okE⟩ (by show (2 : Int) ≠ 5; decide) (by show (2 : Int) ≠ 6; decide)).mono ?_
  rintro e Y ⟨p, m, c, he, _, _, hM⟩
  obtain ⟨a1, b1⟩ := Gd.join hs hc ho hm hmay
  rw [a1] at he
  exact ⟨p, m, c, he, b1, hM⟩

/-- ann posts. -/
theorem Mb.postA (h : Mb w X B s n l) (hn : n < 1099511627776) (y t : ByteArray) (hy : y.size ≤ 2000) (ht : t.size ≤ 2000) {posts : List Mo.Po} (hg : Gd s y posts) (hl : posts.length < 1024) (hmay : Mo.may ⟨3, ⟨#[119]⟩, y, ⟨#[97, 110, 110]⟩, t, ⟨#[]⟩, ⟨#[]⟩, 0, 0⟩ = true) :
    Calls Try.prog 10 #[.pointer (some ⟨B, 0, none⟩), .agg #[.int .i64 3, .string ⟨#[119]⟩, .string y, .string ⟨#[97, 110, 110]⟩, .string t, .string ⟨#[]⟩, .string ⟨#[]⟩, .int .i64 0, .int .i64 0]] X fun e Y => ∃ p m c, e = .returned (.agg #[.int .i64 0, .int .i64 (posts.length : Int), .slice p m c]) ∧ Gd (Mo.does s ⟨3, ⟨#[119]⟩, y, ⟨#[97, 110, 110]⟩, t, ⟨#[]⟩, ⟨#[]⟩, 0, 0⟩) y (posts ++ [⟨⟨#[97, 110, 110]⟩, t⟩]) ∧ Mb w Y B (Mo.does s ⟨3, ⟨#[119]⟩, y, ⟨#[97, 110, 110]⟩, t, ⟨#[]⟩, ⟨#[]⟩, 0, 0⟩) (n + 1) l := by
  refine (h.doC hn ⟨3, ⟨#[119]⟩, y, ⟨#[97, 110, 110]⟩, t, ⟨#[]⟩, ⟨#[]⟩, 0, 0⟩ ⟨okW, Ok.of hy, okA, Ok.of ht, okE, okE⟩ (by show (3 : Int) ≠ 5; decide) (by show (3 : Int) ≠ 6; decide)).mono ?_
  rintro e Y ⟨p, m, c, he, _, _, hM⟩
  obtain ⟨a1, b1⟩ := hg.post hl hmay
  rw [a1] at he
  exact ⟨p, m, c, he, b1, hM⟩

/-- The channel is full. -/
theorem Mb.postF (h : Mb w X B s n l) (hn : n < 1099511627776) (y t : ByteArray) (hy : y.size ≤ 2000) (ht : t.size ≤ 2000) {posts : List Mo.Po} (hg : Gd s y posts) (hl : 1024 ≤ posts.length) (hmay : Mo.may ⟨3, ⟨#[119]⟩, y, ⟨#[97, 110, 110]⟩, t, ⟨#[]⟩, ⟨#[]⟩, 0, 0⟩ = true) :
    Calls Try.prog 10 #[.pointer (some ⟨B, 0, none⟩), .agg #[.int .i64 3, .string ⟨#[119]⟩, .string y, .string ⟨#[97, 110, 110]⟩, .string t, .string ⟨#[]⟩, .string ⟨#[]⟩, .int .i64 0, .int .i64 0]] X fun e Y => ∃ p m c, e = .returned (.agg #[.int .i64 2, .int .i64 0, .slice p m c]) ∧ Gd (Mo.does s ⟨3, ⟨#[119]⟩, y, ⟨#[97, 110, 110]⟩, t, ⟨#[]⟩, ⟨#[]⟩, 0, 0⟩) y posts ∧ Mb w Y B (Mo.does s ⟨3, ⟨#[119]⟩, y, ⟨#[97, 110, 110]⟩, t, ⟨#[]⟩, ⟨#[]⟩, 0, 0⟩) (n + 1) l := by
  refine (h.doC hn ⟨3, ⟨#[119]⟩, y, ⟨#[97, 110, 110]⟩, t, ⟨#[]⟩, ⟨#[]⟩, 0, 0⟩ ⟨okW, Ok.of hy, okA, Ok.of ht, okE, okE⟩ (by show (3 : Int) ≠ 5; decide) (by show (3 : Int) ≠ 6; decide)).mono ?_
  rintro e Y ⟨p, m, c, he, _, _, hM⟩
  obtain ⟨a1, b1⟩ := hg.full hl hmay
  rw [a1] at he
  exact ⟨p, m, c, he, b1, hM⟩

/-- w/c is made, ann joins it. -/
theorem Mb.first (h : Mb w X B Mo.new n l) (hn : n < 1099511627775) :
    Calls Try.prog 10 #[.pointer (some ⟨B, 0, none⟩), .agg #[.int .i64 1, .string ⟨#[119]⟩, .string ⟨#[99]⟩, .string ⟨#[]⟩, .string ⟨#[]⟩, .string ⟨#[]⟩, .string ⟨#[]⟩, .int .i64 0, .int .i64 0]] X fun e Y => ∃ p m c, e = .returned (.agg #[.int .i64 0, .int .i64 0, .slice p m c]) ∧ Mb w Y B (Mo.setC Mo.new ⟨#[119]⟩ ⟨#[99]⟩ (some Mo.newC)) (n + 1) l := h.make (by omega) ⟨#[99]⟩ (by decide) rfl may_make
theorem Mb.second (h : Mb w X B (Mo.setC Mo.new ⟨#[119]⟩ ⟨#[99]⟩ (some Mo.newC)) n l) (hn : n < 1099511627775) :
    Calls Try.prog 10 #[.pointer (some ⟨B, 0, none⟩), .agg #[.int .i64 2, .string ⟨#[119]⟩, .string ⟨#[99]⟩, .string ⟨#[97, 110, 110]⟩, .string ⟨#[]⟩, .string ⟨#[]⟩, .string ⟨#[]⟩, .int .i64 0, .int .i64 0]] X fun e Y => ∃ p m c s', e = .returned (.agg #[.int .i64 0, .int .i64 0, .slice p m c]) ∧ Gd s' ⟨#[99]⟩ [] ∧ Mb w Y B s' (n + 1) l := by
  refine (h.joinA (by omega) ⟨#[99]⟩ (by decide) (ch := Mo.newC) rfl rfl rfl rfl may_join).mono ?_
  rintro e Y ⟨p, m, c, he, hg, hM⟩
  exact ⟨p, m, c, _, he, hg, hM⟩
end
end Go.Proofs.Ytkioeahlajjmiaa
