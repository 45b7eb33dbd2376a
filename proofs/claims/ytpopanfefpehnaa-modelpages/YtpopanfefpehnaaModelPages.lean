/-
  For every number and every list of numbers: ModelPages answers true: pages of whatever sizes, each from where the one ahead told, are the channel; the arguments read afterwards as before. No condition.
-/
import Derived.Test.YtpopanfefpehnaaMoLaw
import Derived.Test.YtpopanfefpehnaaMoArgs
import Derived.ProofKit
import Derived.OpenShut
import Derived.ShutString
import Derived.SizedLaws
namespace Go.Proofs.Ytpopanfefpehnaa.modelPages
open Go.ChangeShapes Go.WideShapes Go.ChangeAt Go.RowKit
open Go.ChangeMaps (open_string shut_string)

/-- The text of the post number j. -/
def txB (j : Nat) : ByteArray := ⟨#[(33 + j % 90).toUInt8]⟩
def pl (n : Nat) : List Mo.Po := (List.range n).map fun j => ⟨⟨#[97, 110, 110]⟩, txB j⟩
theorem pl_len (n : Nat) : (pl n).length = n := by simp [pl]
theorem pl_succ (n : Nat) : pl (n + 1) = pl n ++ [⟨⟨#[97, 110, 110]⟩, txB n⟩] := by simp [pl, List.range_succ]
theorem may_all : ∀ b : Fin 90, Mo.may ⟨3, ⟨#[119]⟩, ⟨#[99]⟩, ⟨#[97, 110, 110]⟩, ⟨#[(33 + b.val).toUInt8]⟩, ⟨#[]⟩, ⟨#[]⟩, 0, 0⟩ = true := by decide +kernel
theorem may_tx (j : Nat) : Mo.may ⟨3, ⟨#[119]⟩, ⟨#[99]⟩, ⟨#[97, 110, 110]⟩, txB j, ⟨#[]⟩, ⟨#[]⟩, 0, 0⟩ = true := may_all ⟨j % 90, Nat.mod_lt _ (by decide)⟩

theorem conv1 (k : Nat) (X : World) : (convert 62 9 (.slice (some ⟨X.heap.size, 0, none⟩) 1 1)).run Try.prog (X.alloc (.cells #[.int .u8 (33 + (k : Int) % 90)] 5)) = .ok (.string (txB k)) (X.alloc (.cells #[.int .u8 (33 + (k : Int) % 90)] 5)) := by
  refine run_convert_bytes_back (P := Try.prog) _ 62 9 5 ⟨X.heap.size, 0, none⟩ 1 [(33 + k % 90).toUInt8] Try.underlying62 Try.underlying5 Try.underlying9 ?_
  intro j hj
  have hj0 : j = 0 := by simp at hj; omega
  subst hj0
  rw [addr_add0, World.cell?_alloc_mark]
  simp
  omega
theorem may_read (a k : Nat) (ha : a ≤ 2000) (hk : k ≤ 64) : Mo.may ⟨4, ⟨#[119]⟩, ⟨#[99]⟩, ⟨#[]⟩, ⟨#[]⟩, ⟨#[]⟩, ⟨#[]⟩, (a : Int), (k : Int)⟩ = true := by
  have hl : Mo.labels [(⟨#[119]⟩ : ByteArray), ⟨#[99]⟩] = true := by decide
  have h1 : Mo.within (a : Int) 2147483647 = true := by unfold Mo.within; simp; omega
  have h2 : Mo.within (k : Int) 64 = true := by unfold Mo.within; simp; omega
  unfold Mo.may
  dsimp only
  rw [if_neg (by decide), if_neg (by decide), if_neg (by decide), if_pos rfl, hl, h1, h2]
  simp [Mo.opEq, Mo.e0]
theorem read_tells {s : Mo.St} {posts : List Mo.Po} (hg : Gd s ⟨#[99]⟩ posts) (a k : Nat) (ha : a ≤ 2000) (hk : k ≤ 64) : Mo.tells s ⟨4, ⟨#[119]⟩, ⟨#[99]⟩, ⟨#[]⟩, ⟨#[]⟩, ⟨#[]⟩, ⟨#[]⟩, (a : Int), (k : Int)⟩ = ⟨0, ((min (min a posts.length + k) posts.length : Nat) : Int), (posts.drop (min a posts.length)).take (min (min a posts.length + k) posts.length - min a posts.length)⟩ ∧ Mo.does s ⟨4, ⟨#[119]⟩, ⟨#[99]⟩, ⟨#[]⟩, ⟨#[]⟩, ⟨#[]⟩, ⟨#[]⟩, (a : Int), (k : Int)⟩ = s := by
  obtain ⟨mem, h1, _⟩ := hg
  have hm := may_read a k ha hk
  exact ⟨by simp [Mo.tells, hm, h1, Mo.endN, Mo.frmN], by simp [Mo.does, hm]⟩
theorem pl_at (n j : Nat) (h : j < n) : (pl n)[j]? = some ⟨⟨#[97, 110, 110]⟩, txB j⟩ := by simp [pl, h]

/-- A page: len posts from 'at_' on. -/
def Page (Y : World) (at_ len : Nat) (p : Option Addr) : Prop := ∀ j, j < len → ∃ g off, p = some ⟨g, off, none⟩ ∧ Y.cell? ⟨g, off + j * 2 + 1, none⟩ = some (.string (txB (at_ + j)))
theorem Page.below {Y Z : World} {at_ len : Nat} {p : Option Addr} (h : Page Y at_ len p) (hb : Below Y.heap.size Y Z) : Page Z at_ len p := fun j hj => by
  obtain ⟨g, off, h1, h2⟩ := h j hj
  exact ⟨g, off, h1, (hb.cell (p := ⟨g, off + j * 2 + 1, none⟩) (World.block_lt_of_cell? _ _ h2)).trans h2⟩

theorem Mb.readA {w X : World} {B : Nat} {s : Mo.St} {n m : Nat} {l : List (Nat × Int × Int)} (h : Mb w X B s n l) (hn : n < 1099511627776) (hg : Gd s ⟨#[99]⟩ (pl m)) (a k : Nat) (ha : a ≤ 2000) (hk : k ≤ 64) :
    Calls Try.prog 19 #[.pointer (some ⟨B, 0, none⟩), .agg #[.int .i64 4, .string ⟨#[119]⟩, .string ⟨#[99]⟩, .string ⟨#[]⟩, .string ⟨#[]⟩, .string ⟨#[]⟩, .string ⟨#[]⟩, .int .i64 (a : Int), .int .i64 (k : Int)]] X fun e Y => ∃ p c, e = .returned (.agg #[.int .i64 0, .int .i64 ((min (min a m + k) m : Nat) : Int), .slice p (min (min a m + k) m - min a m) c]) ∧ Page Y (min a m) (min (min a m + k) m - min a m) p ∧ (min (min a m + k) m - min a m) ≤ c ∧ c ≤ maxLen ∧ Mb w Y B s (n + 1) l := by
  refine (h.doC hn ⟨4, ⟨#[119]⟩, ⟨#[99]⟩, ⟨#[]⟩, ⟨#[]⟩, ⟨#[]⟩, ⟨#[]⟩, (a : Int), (k : Int)⟩ ⟨okW, Ok.of (by show (⟨#[99]⟩ : ByteArray).size ≤ 2000; decide), okE, okE, okE, okE⟩ (by show (4 : Int) ≠ 5; decide) (by show (4 : Int) ≠ 6; decide)).mono ?_
  rintro e Y ⟨p, m', c, he, hm', hrow, hM⟩
  obtain ⟨a1, b1⟩ := read_tells hg a k ha hk
  rw [a1] at he hm' hrow
  rw [b1] at hM
  rw [pl_len] at he hm' hrow
  dsimp only at he hm' hrow
  have hlen : m' = min (min a m + k) m - min a m := by
    rw [hm', List.length_take, List.length_drop, pl_len]
    omega
  subst hlen
  obtain ⟨_, _, hv, q1, q2⟩ := hrow.form
  injection hv with _ _ hcc
  rw [← hcc] at q1 q2
  refine ⟨p, c, he, fun j hj => ?_, q1, q2, hM⟩
  obtain ⟨g, off, c', hv', _, _, _, hcs⟩ := hrow.cells (by omega)
  injection hv' with hp _ _
  refine ⟨g, off, hp, ?_⟩
  have := (poCells_at (((pl m).drop (min a m)).take (min (min a m + k) m - min a m)) j ⟨⟨#[97, 110, 110]⟩, txB (min a m + j)⟩ (by
    rw [List.getElem?_take, if_pos hj, List.getElem?_drop]
    exact pl_at m _ (by omega))).2
  rw [Nat.add_assoc]
  exact hcs _ _ this

theorem nums27 {a j : Nat} (h : a + j < 128) : IntKind.i64.wrap ((a : Int) + (j : Int)) = (a : Int) + (j : Int) ∧ ((a : Int) + (j : Int)).tmod 90 = ((a : Int) + (j : Int)) % 90 ∧ IntKind.i64.wrap (((a : Int) + (j : Int)) % 90) = ((a : Int) + (j : Int)) % 90 ∧ IntKind.i64.wrap (33 + ((a : Int) + (j : Int)) % 90) = 33 + ((a : Int) + (j : Int)) % 90 ∧ IntKind.u8.wrap (33 + ((a : Int) + (j : Int)) % 90) = 33 + ((a : Int) + (j : Int)) % 90 :=
  ⟨by rw [IntKind.wrap_i64]; omega, by rw [Int.tmod_eq_emod_of_nonneg (by omega)], by rw [IntKind.wrap_i64]; omega, by rw [IntKind.wrap_i64]; omega, by rw [IntKind.wrap_u8]; omega⟩
theorem conv2 (a j : Nat) (X : World) : (convert 62 9 (.slice (some ⟨X.heap.size, 0, none⟩) 1 1)).run Try.prog (X.alloc (.cells #[.int .u8 (33 + ((a : Int) + (j : Int)) % 90)] 5)) = .ok (.string (txB (a + j))) (X.alloc (.cells #[.int .u8 (33 + ((a : Int) + (j : Int)) % 90)] 5)) := by
  have q := conv1 (a + j) X
  rw [Int.natCast_add] at q
  exact q
theorem page_read {w X : World} {B : Nat} {s : Mo.St} {k i at_ kk : Nat} {kI : Int} (hI : kI = (kk : Int)) (hk : k < 128) (h : Mb w X B s (130 + i) []) (hg : Gd s ⟨#[99]⟩ (pl k)) (h1 : 1 ≤ kk) (h2 : kk ≤ 64) (h3 : at_ < k) (h4 : i < 300) : Calls Try.prog 19 #[.pointer (some ⟨B, 0, none⟩), .agg #[.int .i64 4, .string ⟨#[119]⟩, .string ⟨#[99]⟩, .string ⟨#[]⟩, .string ⟨#[]⟩, .string ⟨#[]⟩, .string ⟨#[]⟩, .int .i64 (at_ : Int), .int .i64 kI]] X fun e Y => ∃ (p : Option Addr) (c len : Nat), e = .returned (.agg #[.int .i64 0, .int .i64 ((at_ : Int) + (len : Int)), .slice p len c]) ∧ Page Y at_ len p ∧ (1 ≤ len ∧ at_ + len ≤ k ∧ len ≤ 64) ∧ (if (k : Int) - (at_ : Int) < kI then (k : Int) - (at_ : Int) else kI) = (len : Int) ∧ len ≤ c ∧ c ≤ 9223372036854775807 ∧ Mb w Y B s (130 + (i + 1)) [] := by
  subst hI
  refine (Mb.readA h (by omega) hg at_ kk (by omega) h2).mono ?_
  rintro e Y ⟨p, c, he, hp, q1, q2, hM⟩
  rw [Nat.min_eq_left (Nat.le_of_lt h3)] at he hp q1
  refine ⟨p, c, min (at_ + kk) k - at_, ?_, hp, ⟨by omega, by omega, by omega⟩, by split <;> omega, q1, by unfold maxLen at q2; omega, hM⟩
  rw [he, show ((min (at_ + kk) k : Nat) : Int) = (at_ : Int) + ((min (at_ + kk) k - at_ : Nat) : Int) by omega]
theorem page_one {w X : World} {B : Nat} {s : Mo.St} {k i at_ : Nat} (hk : k < 128) (h : Mb w X B s (130 + i) []) (hg : Gd s ⟨#[99]⟩ (pl k)) (h3 : at_ < k) (h4 : i < 300) : Calls Try.prog 19 #[.pointer (some ⟨B, 0, none⟩), .agg #[.int .i64 4, .string ⟨#[119]⟩, .string ⟨#[99]⟩, .string ⟨#[]⟩, .string ⟨#[]⟩, .string ⟨#[]⟩, .string ⟨#[]⟩, .int .i64 (at_ : Int), .int .i64 1]] X fun e Y => ∃ (p : Option Addr) (c : Nat), e = .returned (.agg #[.int .i64 0, .int .i64 ((at_ : Int) + 1), .slice p 1 c]) ∧ Page Y at_ 1 p ∧ (1 ≤ 1 ∧ at_ + 1 ≤ k ∧ 1 ≤ 64) ∧ 1 ≤ c ∧ c ≤ 9223372036854775807 ∧ Mb w Y B s (130 + (i + 1)) [] := by
  refine (page_read (kk := 1) (kI := 1) rfl hk h hg (by omega) (by omega) h3 h4).mono ?_
  rintro e Y ⟨p, c, len, he, hp, hl, hm, q1, q2, hM⟩
  have e1 : len = 1 := by split at hm <;> omega
  subst e1
  exact ⟨p, c, he, hp, ⟨by omega, hl.2.1, by omega⟩, q1, q2, hM⟩
theorem page_last {w X : World} {B : Nat} {s : Mo.St} {k i : Nat} (hk : k < 128) (h : Mb w X B s (130 + i) []) (hg : Gd s ⟨#[99]⟩ (pl k)) (h4 : i < 300) : Calls Try.prog 19 #[.pointer (some ⟨B, 0, none⟩), .agg #[.int .i64 4, .string ⟨#[119]⟩, .string ⟨#[99]⟩, .string ⟨#[]⟩, .string ⟨#[]⟩, .string ⟨#[]⟩, .string ⟨#[]⟩, .int .i64 ((k : Int) + 5), .int .i64 9]] X fun e Y => ∃ (p : Option Addr) (c : Nat), e = .returned (.agg #[.int .i64 0, .int .i64 (k : Int), .slice p 0 c]) ∧ Mb w Y B s (130 + (i + 1)) [] := by
  have q := Mb.readA h (by omega) hg (k + 5) 9 (by omega) (by omega)
  rw [show ((k + 5 : Nat) : Int) = (k : Int) + 5 by omega] at q
  refine q.mono ?_
  rintro e Y ⟨p, c, he, _, _, _, hM⟩
  have e1 : min (k + 5) k = k := by omega
  have e2 : min (k + 9) k = k := by omega
  rw [e1, e2, Nat.sub_self] at he
  exact ⟨p, c, he, hM⟩

set_option maxHeartbeats 4000000 in
set_option maxRecDepth 20000 in
theorem walk (a0 : Int) (v1 : Value) (a1 : List Int) (w : World) (_b0 : -9223372036854775808 ≤ a0 ∧ a0 ≤ 9223372036854775807) (_b1 : Elems w 1 i1Cells In64 v1 a1) :
    Calls Try.prog 6 #[.int .i64 a0, v1] w fun e w' => e = .returned (.bool true) ∧ Below w.heap.size w w' := by
  have HNew : Hid _ := New_fresh (w := w) w (Below.refl _ w)
  obtain ⟨B, hB⟩ : ∃ B, B = w.heap.size + 2 := ⟨_, rfl⟩
  rw [← hB] at HNew
  have HA : Hid (∀ u : World, Calls Try.prog 22 #[] u fun e w' => e = .returned (.bool true) ∧ Below u.heap.size u w') := awake_c
  have HD1 : Hid (∀ X, Mb w X B Mo.new 0 [] → Calls Try.prog 19 #[.pointer (some ⟨B, 0, none⟩), .agg #[.int .i64 1, .string ⟨#[119]⟩, .string ⟨#[99]⟩, .string ⟨#[]⟩, .string ⟨#[]⟩, .string ⟨#[]⟩, .string ⟨#[]⟩, .int .i64 0, .int .i64 0]] X fun e Y => ∃ p m c, e = .returned (.agg #[.int .i64 0, .int .i64 0, .slice p m c]) ∧ Mb w Y B (Mo.setC Mo.new ⟨#[119]⟩ ⟨#[99]⟩ (some Mo.newC)) 1 []) := fun X h => h.first (by omega)
  have HD2 : Hid (∀ X, Mb w X B (Mo.setC Mo.new ⟨#[119]⟩ ⟨#[99]⟩ (some Mo.newC)) 1 [] → Calls Try.prog 19 #[.pointer (some ⟨B, 0, none⟩), .agg #[.int .i64 2, .string ⟨#[119]⟩, .string ⟨#[99]⟩, .string ⟨#[97, 110, 110]⟩, .string ⟨#[]⟩, .string ⟨#[]⟩, .string ⟨#[]⟩, .int .i64 0, .int .i64 0]] X fun e Y => ∃ p m c s', e = .returned (.agg #[.int .i64 0, .int .i64 0, .slice p m c]) ∧ Gd s' ⟨#[99]⟩ [] ∧ Mb w Y B s' 2 []) := fun X h => h.second (by omega)
  clear hB
  have HPo : Hid (∀ k X, Calls Try.prog 23 #[.string (txB k)] X fun e w' => e = .returned (.agg #[.int .i64 3, .string ⟨#[119]⟩, .string ⟨#[99]⟩, .string ⟨#[97, 110, 110]⟩, .string (txB k), .string ⟨#[]⟩, .string ⟨#[]⟩, .int .i64 0, .int .i64 0]) ∧ Below X.heap.size X w') := fun k X => post_op _ X
  have HY : Hid (∀ X s k, Mb w X B s (2 + k) [] → Gd s ⟨#[99]⟩ (pl k) → k < 128 → Calls Try.prog 19 #[.pointer (some ⟨B, 0, none⟩), .agg #[.int .i64 3, .string ⟨#[119]⟩, .string ⟨#[99]⟩, .string ⟨#[97, 110, 110]⟩, .string (txB k), .string ⟨#[]⟩, .string ⟨#[]⟩, .int .i64 0, .int .i64 0]] X fun e Y => ∃ p m c s', e = .returned (.agg #[.int .i64 0, .int .i64 (k : Int), .slice p m c]) ∧ Gd s' ⟨#[99]⟩ (pl (k + 1)) ∧ Mb w Y B s' (2 + (k + 1)) []) := fun X s k h hg hk => by
    refine (h.postA (by omega) ⟨#[99]⟩ (txB k) (by decide) (by simp [txB, ByteArray.size]) hg (by rw [pl_len]; omega) (may_tx k)).mono ?_
    rintro e Y ⟨p, m, c, he, g, hM⟩
    rw [pl_len] at he
    exact ⟨p, m, c, _, he, by rw [pl_succ]; exact g, hM⟩
  obtain ⟨p0, c0, hv0, hc1, hc2, hgood, hcells⟩ := _b1
  obtain ⟨n0, hn0⟩ : ∃ n0, n0 = a1.length := ⟨_, rfl⟩
  rw [← hn0] at hv0 hc1
  have HI : Hid (∀ k, k < n0 → ∃ q g o, p0 = some ⟨g, o, none⟩ ∧ ∀ X, Below w.heap.size w X → X.cell? ⟨g, o + k, none⟩ = some (.int .i64 q)) := by
    intro k hk
    obtain ⟨q, hq⟩ : ∃ q, a1[k]? = some q := ⟨_, List.getElem?_eq_getElem (by omega)⟩
    rcases hcells with h | ⟨g, o, hp, hg, hcs⟩
    · rw [h] at hq
      simp at hq
    · refine ⟨q, g, o, hp, fun X hX => ?_⟩
      rw [hX.cell (p := ⟨g, o + k, none⟩) hg]
      have := hcs k q hq 0 _ rfl
      rw [Nat.mul_one, Nat.add_zero] at this
      exact this
  subst hv0
  have hcm := hc2
  unfold maxLen at hcm
  obtain ⟨m, hm⟩ : ∃ m : Nat, m = (a0 % 128).toNat := ⟨_, rfl⟩
  have hmask : bits .and .i64 a0 127 = (m : Int) := by rw [and_127, hm]; omega
  have HMl : Hid (m < 128) := by show _ < _; omega
  clear hm _b0 hn0 hgood hcells hc2
  go_enter Try.func6, Try.ntmps6
  go_wp2_with fail
  refine Calls.mono HNew.out ?_
  rintro e w0 ⟨rfl, hM, _⟩
  have H0 : Hid (Mb w w0 B Mo.new 0 []) := ⟨_, hM, fun q hq => (by cases hq)⟩
  clear hM
  go_wp2_with fail
  refine (HD1.out _ H0.out).mono ?_
  rintro e w1 ⟨p1, m1, c1, rfl, hM⟩
  have H1 : Hid _ := hM
  clear hM
  go_wp2_with fail
  refine (HD2.out _ H1.out).mono ?_
  rintro e w2 ⟨p2, m2, c2, s2, rfl, hg, hM⟩
  have H2 : Hid (Gd s2 ⟨#[99]⟩ [] ∧ Mb w w2 B s2 2 []) := ⟨hg, hM⟩
  clear hg hM
  go_wp2
  go_loopw [7] (fun iv wr => ∃ (k : Nat) (s : Mo.St), iv = .int .i64 (k : Int) ∧ k ≤ m ∧ Hid (Gd s ⟨#[99]⟩ (pl k) ∧ Mb w wr B s (2 + k) [])) (fun iv _ => m - (intOf iv).toNat)
  case atStart => exact ⟨0, s2, rfl, Nat.zero_le _, ⟨H2.out.1, H2.out.2⟩⟩
  case round =>
    obtain ⟨k, s, rfl, hkt, HS⟩ := hrel
    by_cases hlt : k < m
    · have hkb : (k : Int) ≤ 128 := by have := HMl.out; omega
      have hcv : (convert 62 9 (.slice (some ⟨wr.heap.size, 0, none⟩) 1 1)).run Try.prog (wr.alloc (.cells #[.int .u8 (33 + (k : Int) % 90)] 5)) = .ok (.string (txB k)) (wr.alloc (.cells #[.int .u8 (33 + (k : Int) % 90)] 5)) := conv1 k wr
      have HB1 : Hid (∀ o, Below wr.heap.size wr (wr.alloc o)) := fun o => below_alloc wr o
      go_wp2_with fail
      refine (HPo.out _ _).mono ?_
      rintro e w3 ⟨rfl, hb3⟩
      have HS3 : Hid (Mb w w3 B s (2 + k) []) := (HS.out.2.below (HB1.out _)).below hb3
      clear hb3 hcv
      go_wp2_with fail
      refine (HY.out w3 s k HS3.out HS.out.1 (by have := HMl.out; omega)).mono ?_
      rintro e w4 ⟨p4, m4, c4, s4, rfl, hg, hM⟩
      have HS4 : Hid (Gd s4 ⟨#[99]⟩ (pl (k + 1)) ∧ Mb w w4 B s4 (2 + (k + 1)) []) := ⟨hg, hM⟩
      have HB4 : Hid (∀ o, Below w4.heap.size w4 (w4.alloc o)) := fun o => below_alloc w4 o
      clear hg hM
      go_wp2
      go_roundw
      case rel => exact ⟨k + 1, s4, by go_num, by omega, ⟨HS4.out.1, HS4.out.2.below (HB4.out _)⟩⟩
      case measure => simp [intOf]; omega
    · obtain rfl : k = m := by omega
      have HSm : Hid (Gd s ⟨#[99]⟩ (pl k) ∧ Mb w wr B s (130 + 0) []) := ⟨HS.out.1, HS.out.2.more (by have := HMl.out; omega)⟩
      have HRd : Hid (∀ (X : World) (s : Mo.St) (i at_ kk : Nat) (kI : Int), kI = (kk : Int) → Mb w X B s (130 + i) [] → Gd s ⟨#[99]⟩ (pl k) → 1 ≤ kk → kk ≤ 64 → at_ < k → i < 300 → Calls Try.prog 19 #[.pointer (some ⟨B, 0, none⟩), .agg #[.int .i64 4, .string ⟨#[119]⟩, .string ⟨#[99]⟩, .string ⟨#[]⟩, .string ⟨#[]⟩, .string ⟨#[]⟩, .string ⟨#[]⟩, .int .i64 (at_ : Int), .int .i64 kI]] X fun e Y => ∃ (p : Option Addr) (c len : Nat), e = .returned (.agg #[.int .i64 0, .int .i64 ((at_ : Int) + (len : Int)), .slice p len c]) ∧ Page Y at_ len p ∧ (1 ≤ len ∧ at_ + len ≤ k ∧ len ≤ 64) ∧ (if (k : Int) - (at_ : Int) < kI then (k : Int) - (at_ : Int) else kI) = (len : Int) ∧ len ≤ c ∧ c ≤ 9223372036854775807 ∧ Mb w Y B s (130 + (i + 1)) []) := fun X s i at_ kk kI hI h hg h1 h2 h3 h4 => page_read hI HMl.out h hg h1 h2 h3 h4
      have HLa : Hid (∀ (X : World) (i : Nat), Mb w X B s (130 + i) [] → i < 300 → Calls Try.prog 19 #[.pointer (some ⟨B, 0, none⟩), .agg #[.int .i64 4, .string ⟨#[119]⟩, .string ⟨#[99]⟩, .string ⟨#[]⟩, .string ⟨#[]⟩, .string ⟨#[]⟩, .string ⟨#[]⟩, .int .i64 ((k : Int) + 5), .int .i64 9]] X fun e Y => ∃ (p : Option Addr) (c : Nat), e = .returned (.agg #[.int .i64 0, .int .i64 (k : Int), .slice p 0 c]) ∧ Mb w Y B s (130 + (i + 1)) []) := fun X i h h4 => page_last HMl.out h HSm.out.1 h4
      clear HS hlt hkt HY HPo H2
      go_wp2
      go_loopw [9, 10] (fun av iv wr => ∃ (at_ i : Nat), av = .int .i64 (at_ : Int) ∧ iv = .int .i64 (i : Int) ∧ at_ ≤ k ∧ i ≤ at_ ∧ Hid (Gd s ⟨#[99]⟩ (pl k) ∧ Mb w wr B s (130 + i) [])) (fun av _ _ => k - (intOf av).toNat)
      case atStart => exact ⟨0, 0, rfl, rfl, Nat.zero_le _, Nat.zero_le _, HSm⟩
      case round =>
        clear HSm
        obtain ⟨at_, i, rfl, rfl, hak, hia, HS⟩ := hrel
        have hkb : (k : Int) ≤ 128 := by have := HMl.out; omega
        have hab : (at_ : Int) ≤ (k : Int) := by omega
        by_cases hat : at_ < k
        · have hi3 : (i : Int) < 300 := by have := HMl.out; omega
          by_cases hn : 0 < n0
          · obtain ⟨j, hj⟩ : ∃ j, j = i % n0 := ⟨_, rfl⟩
            have hjl : j < n0 := by rw [hj]; exact Nat.mod_lt _ hn
            obtain ⟨q, g, o, hp0, hX⟩ := HI.out j hjl
            have hrem : (i : Int) % (n0 : Int) = (j : Int) := by rw [hj]; omega
            have hj1 : (j : Int) < (n0 : Int) := by omega
            have hj0 : (0 : Int) ≤ (j : Int) := by omega
            subst hp0
            have hcell := hX wr HS.out.2.old
            obtain ⟨b, hb⟩ : ∃ b : Nat, b = (q % 64).toNat := ⟨_, rfl⟩
            have hq63 : bits .and .i64 q 63 = (b : Int) := by rw [and_63, hb]; omega
            have hb63 : (b : Int) ≤ 63 := by omega
            have hb0 : (0 : Int) ≤ (b : Int) := by omega
            have hn' : (0 : Int) < (n0 : Int) := by omega
            have HC : Hid _ := HRd.out wr s i at_ (1 + b) (1 + (b : Int)) (by omega) HS.out.2 HS.out.1 (by omega) (by omega) hat (by omega)
            clear hX hj hb hn hb0
            go_wp2_with fail
            refine Calls.mono HC.out ?_
            rintro e Y ⟨p, c, len, rfl, hpage, hlen, hmn, hcl, hcm2, hM⟩
            obtain ⟨bR, hbR⟩ : ∃ bR, bR = Y.heap.size := ⟨_, rfl⟩
            obtain ⟨Z, hZ⟩ : ∃ Z, Z = Y.alloc (.cells #[.int .i64 0, .int .i64 ((at_ : Int) + (len : Int)), .slice p len c] 51) := ⟨_, rfl⟩
            have hbZ : Below Y.heap.size Y Z := by rw [hZ]; exact below_alloc _ _
            have HZ : Hid (Page Z at_ len p ∧ Mb w Z B s (130 + (i + 1)) [] ∧ 1 ≤ len ∧ at_ + len ≤ k ∧ bR < Z.heap.size ∧ (∀ j, Z.cell? ⟨bR, j, none⟩ = (#[.int .i64 0, .int .i64 ((at_ : Int) + (len : Int)), .slice p len c] : Array Value)[j]?)) := ⟨hpage.below hbZ, hM.below hbZ, hlen.1, hlen.2.1, by rw [hZ, hbR]; simp, fun j => by rw [hZ, hbR]; exact World.cell?_alloc_mark Y _ _ _ j⟩
            have hlb : (len : Int) ≤ (64 : Int) := by have := hlen.2.2; omega
            have z0 := HZ.out.2.2.2.2.2 0
            have z1 := HZ.out.2.2.2.2.2 1
            have z2 := HZ.out.2.2.2.2.2 2
            have HEq : Hid (bR = Y.heap.size ∧ Z = Y.alloc (.cells #[.int .i64 0, .int .i64 ((at_ : Int) + (len : Int)), .slice p len c] 51)) := ⟨hbR, hZ⟩
            rw [hbR, hZ] at z0 z1 z2
            clear hpage hM hbZ hbR hZ HC hlen
            go_wp2
            rw [← HEq.out.2, ← HEq.out.1]
            clear z0 z1 z2 hmn
            obtain ⟨wz, hwz⟩ : ∃ wz, wz = Z := ⟨_, rfl⟩
            have HB0 : Hid (Below Z.heap.size Z wz) := by rw [hwz]; exact Below.refl _ _
            rw [← hwz]
            clear hwz
            go_loopw [13] (fun jv wr' => ∃ j : Nat, jv = .int .i64 (j : Int) ∧ j ≤ len ∧ Hid (Below Z.heap.size Z wr')) (fun jv _ => len - (intOf jv).toNat)
            case atStart => exact ⟨0, rfl, Nat.zero_le _, HB0⟩
            case round =>
              clear HB0
              obtain ⟨j, rfl, hjl, HB⟩ := hrel
              have hc2 : wr.cell? ⟨bR, 2, none⟩ = some (.slice p len c) := (HB.out.cell (p := ⟨bR, 2, none⟩) HZ.out.2.2.2.2.1).trans (HZ.out.2.2.2.2.2 2)
              have hc1 : wr.cell? ⟨bR, 1, none⟩ = some (.int .i64 ((at_ : Int) + (len : Int))) := (HB.out.cell (p := ⟨bR, 1, none⟩) HZ.out.2.2.2.2.1).trans (HZ.out.2.2.2.2.2 1)
              by_cases hj : j < len
              · obtain ⟨g2, off2, hp2, hcell2⟩ := (HZ.out.1.below HB.out) j hj
                subst hp2
                obtain ⟨n1, n2, n3, n4, n5⟩ := nums27 (a := at_) (j := j) (by have := HZ.out.2.2.2.1; have := HMl.out; omega)
                have hjI : (j : Int) < (len : Int) := by omega
                have hj0' : (0 : Int) ≤ (j : Int) := by omega
                have HSd : Hid (wr.drew.cell? ⟨bR, 2, none⟩ = some (.slice (some ⟨g2, off2, none⟩) len c) ∧ wr.drew.cell? ⟨g2, off2 + j * 2 + 1, none⟩ = some (.string (txB (at_ + j)))) := ⟨hc2, hcell2⟩
                have hne : ∀ X : World, (binOp .neq 9 (.string (txB (at_ + j))) (.string (txB (at_ + j)))).run Try.prog X = .ok (.bool false) X := fun X => by go_simp
                go_wp2
                refine wp_region_held_drew (S := fun X => X.cell? ⟨bR, 2, none⟩ = some (.slice (some ⟨g2, off2, none⟩) len c) ∧ X.cell? ⟨g2, off2 + j * 2 + 1, none⟩ = some (.string (txB (at_ + j)))) (by kernel_rfl) HSd.out (fun hHeld => ?_)
                refine take7 (i := 0) (d := 108) (v := .pointer (some ⟨bR, 2, none⟩)) rfl rfl (by kernel_rfl) (by kernel_rfl) (by kernel_rfl) (fun _ _ _ h => h) (Or.inl ⟨by rfl, ?_⟩) (by assumption) ?_
                · intro X hSw
                  go_simp
                simp only [Act.put, List.setIfInBounds_toArray, List.set_cons_zero, List.set_cons_succ]
                refine take7 (i := 1) (d := 109) (v := .slice (some ⟨g2, off2, none⟩) len c) rfl rfl (by kernel_rfl) (by kernel_rfl) (by kernel_rfl) (fun _ _ _ h => h) (Or.inl ⟨by rfl, ?_⟩) (by assumption) ?_
                · intro X hSw
                  go_simp
                simp only [Act.put, List.setIfInBounds_toArray, List.set_cons_zero, List.set_cons_succ]
                refine take7 (i := 2) (d := 110) (v := .int .i64 (j : Int)) rfl rfl (by kernel_rfl) (by kernel_rfl) (by kernel_rfl) (fun _ _ _ h => h) (Or.inl ⟨by rfl, ?_⟩) (by assumption) ?_
                · intro X hSw
                  go_simp
                simp only [Act.put, List.setIfInBounds_toArray, List.set_cons_zero, List.set_cons_succ]
                refine take7 (i := 3) (d := 111) (v := .pointer (some ⟨g2, off2 + j * 2, none⟩)) rfl rfl (by kernel_rfl) (by kernel_rfl) (by kernel_rfl) (fun _ _ _ h => h) (Or.inl ⟨by rfl, ?_⟩) (by assumption) ?_
                · intro X hSw
                  go_simp
                simp only [Act.put, List.setIfInBounds_toArray, List.set_cons_zero, List.set_cons_succ]
                refine take7 (i := 4) (d := 112) (v := .pointer (some ⟨g2, off2 + j * 2 + 1, none⟩)) rfl rfl (by kernel_rfl) (by kernel_rfl) (by kernel_rfl) (fun _ _ _ h => h) (Or.inl ⟨by rfl, ?_⟩) (by assumption) ?_
                · intro X hSw
                  go_simp
                simp only [Act.put, List.setIfInBounds_toArray, List.set_cons_zero, List.set_cons_succ]
                refine take7 (i := 5) (d := 113) (v := .string (txB (at_ + j))) rfl rfl (by kernel_rfl) (by kernel_rfl) (by kernel_rfl) (fun _ _ _ h => h) (Or.inl ⟨by rfl, ?_⟩) (by assumption) ?_
                · intro X hSw
                  go_simp
                simp only [Act.put, List.setIfInBounds_toArray, List.set_cons_zero, List.set_cons_succ]
                refine take7 (i := 6) (d := 114) (v := .int .i64 (at_ : Int)) rfl rfl (by kernel_rfl) (by kernel_rfl) (by kernel_rfl) (fun _ _ _ h => h) (Or.inl ⟨by rfl, ?_⟩) (by assumption) ?_
                · intro X hSw
                  go_simp
                simp only [Act.put, List.setIfInBounds_toArray, List.set_cons_zero, List.set_cons_succ]
                refine take7 (i := 7) (d := 115) (v := .int .i64 (j : Int)) rfl rfl (by kernel_rfl) (by kernel_rfl) (by kernel_rfl) (fun _ _ _ h => h) (Or.inl ⟨by rfl, ?_⟩) (by assumption) ?_
                · intro X hSw
                  go_simp
                simp only [Act.put, List.setIfInBounds_toArray, List.set_cons_zero, List.set_cons_succ]
                refine take7 (i := 8) (d := 116) (v := .int .i64 ((at_ : Int) + (j : Int))) rfl rfl (by kernel_rfl) (by kernel_rfl) (by kernel_rfl) (fun _ _ _ h => h) (Or.inl ⟨by rfl, ?_⟩) (by assumption) ?_
                · intro X hSw
                  go_simp
                simp only [Act.put, List.setIfInBounds_toArray, List.set_cons_zero, List.set_cons_succ]
                refine take7 (i := 9) (d := 117) (v := .int .i64 (((at_ : Int) + (j : Int)) % 90)) rfl rfl (by kernel_rfl) (by kernel_rfl) (by kernel_rfl) (fun _ _ _ h => h) (Or.inl ⟨by rfl, ?_⟩) (by assumption) ?_
                · intro X hSw
                  go_simp
                simp only [Act.put, List.setIfInBounds_toArray, List.set_cons_zero, List.set_cons_succ]
                refine take7 (i := 10) (d := 118) (v := .int .i64 (33 + ((at_ : Int) + (j : Int)) % 90)) rfl rfl (by kernel_rfl) (by kernel_rfl) (by kernel_rfl) (fun _ _ _ h => h) (Or.inl ⟨by rfl, ?_⟩) (by assumption) ?_
                · intro X hSw
                  go_simp
                simp only [Act.put, List.setIfInBounds_toArray, List.set_cons_zero, List.set_cons_succ]
                refine take7 (i := 11) (d := 119) (v := .int .u8 (33 + ((at_ : Int) + (j : Int)) % 90)) rfl rfl (by kernel_rfl) (by kernel_rfl) (by kernel_rfl) (fun _ _ _ h => h) (Or.inl ⟨by rfl, ?_⟩) (by assumption) ?_
                · intro X hSw
                  go_simp
                simp only [Act.put, List.setIfInBounds_toArray, List.set_cons_zero, List.set_cons_succ]
                obtain ⟨X, hX⟩ : ∃ X, X = wr.drew := ⟨_, rfl⟩
                have HX : Hid (Below Z.heap.size Z X) := by rw [hX]; exact HB.out.drew
                rw [← hX] at hHeld ⊢
                obtain ⟨hx1, hx2⟩ := hHeld
                have hcv := conv2 at_ j X
                have HbX : Hid (Below X.heap.size X (X.alloc (.cells #[.int .u8 (33 + ((at_ : Int) + (j : Int)) % 90)] 5))) := below_alloc _ _
                have HSx : Hid ((X.alloc (.cells #[.int .u8 (33 + ((at_ : Int) + (j : Int)) % 90)] 5)).cell? ⟨bR, 2, none⟩ = some (.slice (some ⟨g2, off2, none⟩) len c) ∧ (X.alloc (.cells #[.int .u8 (33 + ((at_ : Int) + (j : Int)) % 90)] 5)).cell? ⟨g2, off2 + j * 2 + 1, none⟩ = some (.string (txB (at_ + j)))) := ⟨(HbX.out.cell (p := ⟨bR, 2, none⟩) (World.block_lt_of_cell? _ _ hx1)).trans hx1, (HbX.out.cell (p := ⟨g2, off2 + j * 2 + 1, none⟩) (World.block_lt_of_cell? _ _ hx2)).trans hx2⟩
                clear hX hx1 hx2
                refine wpAnyH_ready (rs := [12]) (by kernel_rfl) (by simp) ?_
                refine AllReadyH.cons rfl (fun K hK => ?_) AllReadyH.nil
                go_simp
                refine hK.out _ _ HSx.out (fun hHeld => ?_)
                clear hK K
                try simp only [Act.put, List.setIfInBounds_toArray, List.set_cons_zero, List.set_cons_succ]
                refine wpAnyH_ready (rs := [13]) (by kernel_rfl) (by simp) ?_
                refine AllReadyH.cons rfl (fun K hK => ?_) AllReadyH.nil
                go_simp
                refine hK.out _ _ HSx.out (fun hHeld => ?_)
                clear hK K
                try simp only [Act.put, List.setIfInBounds_toArray, List.set_cons_zero, List.set_cons_succ]
                refine take7 (i := 14) (d := 122) (v := .bool false) rfl rfl (by kernel_rfl) (by kernel_rfl) (by kernel_rfl) (fun _ _ _ h => h) (Or.inl ⟨by rfl, ?_⟩) (by assumption) ?_
                · intro X hSw
                  go_simp
                simp only [Act.put, List.setIfInBounds_toArray, List.set_cons_zero, List.set_cons_succ]
                refine wpAnyH_done (by kernel_rfl) ?_ _
                have HB2 : Hid (Below Z.heap.size Z (X.alloc (.cells #[.int .u8 (33 + ((at_ : Int) + (j : Int)) % 90)] 5))) := HX.out.trans (HbX.out.mono HX.out.size)
                clear hHeld hcv n1 n2 n3 n4 n5
                go_wp2
                go_roundw
                case rel => exact ⟨j + 1, by go_num, by omega, HB2⟩
                case measure => simp [intOf]; omega
              · have HM : Hid (Mb w wr B s (130 + (i + 1)) []) := HZ.out.2.1.below HB.out
                have hjI : ¬ (j : Int) < (len : Int) := by omega
                go_wp2
                go_roundw
                case rel => exact ⟨at_ + len, i + 1, by go_num, by go_num, HZ.out.2.2.2.1, by have := HZ.out.2.2.1; omega, ⟨HS.out.1, HM.out⟩⟩
                case measure => have := HZ.out.2.2.1; have := HZ.out.2.2.2.1; simp [intOf]; omega
          · have hn' : ¬ (0 : Int) < (n0 : Int) := by omega
            have HC : Hid _ := page_one HMl.out HS.out.2 HS.out.1 hat (by omega)
            have hmn : (if (k : Int) - (at_ : Int) < 1 then (k : Int) - (at_ : Int) else 1) = 1 := by split <;> omega
            clear hn
            go_wp2_with fail
            refine Calls.mono HC.out ?_
            rintro e Y ⟨p, c, rfl, hpage, hlen, hcl, hcm2, hM⟩
            obtain ⟨bR, hbR⟩ : ∃ bR, bR = Y.heap.size := ⟨_, rfl⟩
            obtain ⟨Z, hZ⟩ : ∃ Z, Z = Y.alloc (.cells #[.int .i64 0, .int .i64 ((at_ : Int) + 1), .slice p 1 c] 51) := ⟨_, rfl⟩
            have hbZ : Below Y.heap.size Y Z := by rw [hZ]; exact below_alloc _ _
            have HZ : Hid (Page Z at_ 1 p ∧ Mb w Z B s (130 + (i + 1)) [] ∧ 1 ≤ 1 ∧ at_ + 1 ≤ k ∧ bR < Z.heap.size ∧ (∀ j, Z.cell? ⟨bR, j, none⟩ = (#[.int .i64 0, .int .i64 ((at_ : Int) + 1), .slice p 1 c] : Array Value)[j]?)) := ⟨hpage.below hbZ, hM.below hbZ, hlen.1, hlen.2.1, by rw [hZ, hbR]; simp, fun j => by rw [hZ, hbR]; exact World.cell?_alloc_mark Y _ _ _ j⟩
            have hlb : 1 ≤ (64 : Int) := by have := hlen.2.2; omega
            have z0 := HZ.out.2.2.2.2.2 0
            have z1 := HZ.out.2.2.2.2.2 1
            have z2 := HZ.out.2.2.2.2.2 2
            have HEq : Hid (bR = Y.heap.size ∧ Z = Y.alloc (.cells #[.int .i64 0, .int .i64 ((at_ : Int) + 1), .slice p 1 c] 51)) := ⟨hbR, hZ⟩
            rw [hbR, hZ] at z0 z1 z2
            clear hpage hM hbZ hbR hZ HC hlen
            go_wp2
            rw [← HEq.out.2, ← HEq.out.1]
            clear z0 z1 z2 hmn
            obtain ⟨wz, hwz⟩ : ∃ wz, wz = Z := ⟨_, rfl⟩
            have HB0 : Hid (Below Z.heap.size Z wz) := by rw [hwz]; exact Below.refl _ _
            rw [← hwz]
            clear hwz
            go_loopw [13] (fun jv wr' => ∃ j : Nat, jv = .int .i64 (j : Int) ∧ j ≤ 1 ∧ Hid (Below Z.heap.size Z wr')) (fun jv _ => 1 - (intOf jv).toNat)
            case atStart => exact ⟨0, rfl, Nat.zero_le _, HB0⟩
            case round =>
              clear HB0
              obtain ⟨j, rfl, hjl, HB⟩ := hrel
              have hc2 : wr.cell? ⟨bR, 2, none⟩ = some (.slice p 1 c) := (HB.out.cell (p := ⟨bR, 2, none⟩) HZ.out.2.2.2.2.1).trans (HZ.out.2.2.2.2.2 2)
              have hc1 : wr.cell? ⟨bR, 1, none⟩ = some (.int .i64 ((at_ : Int) + 1)) := (HB.out.cell (p := ⟨bR, 1, none⟩) HZ.out.2.2.2.2.1).trans (HZ.out.2.2.2.2.2 1)
              by_cases hj : j < 1
              · obtain ⟨g2, off2, hp2, hcell2⟩ := (HZ.out.1.below HB.out) j hj
                subst hp2
                obtain ⟨n1, n2, n3, n4, n5⟩ := nums27 (a := at_) (j := j) (by have := HZ.out.2.2.2.1; have := HMl.out; omega)
                have hjI : (j : Int) < 1 := by omega
                have hj0' : (0 : Int) ≤ (j : Int) := by omega
                have HSd : Hid (wr.drew.cell? ⟨bR, 2, none⟩ = some (.slice (some ⟨g2, off2, none⟩) 1 c) ∧ wr.drew.cell? ⟨g2, off2 + j * 2 + 1, none⟩ = some (.string (txB (at_ + j)))) := ⟨hc2, hcell2⟩
                have hne : ∀ X : World, (binOp .neq 9 (.string (txB (at_ + j))) (.string (txB (at_ + j)))).run Try.prog X = .ok (.bool false) X := fun X => by go_simp
                go_wp2
                refine wp_region_held_drew (S := fun X => X.cell? ⟨bR, 2, none⟩ = some (.slice (some ⟨g2, off2, none⟩) 1 c) ∧ X.cell? ⟨g2, off2 + j * 2 + 1, none⟩ = some (.string (txB (at_ + j)))) (by kernel_rfl) HSd.out (fun hHeld => ?_)
                refine take7 (i := 0) (d := 108) (v := .pointer (some ⟨bR, 2, none⟩)) rfl rfl (by kernel_rfl) (by kernel_rfl) (by kernel_rfl) (fun _ _ _ h => h) (Or.inl ⟨by rfl, ?_⟩) (by assumption) ?_
                · intro X hSw
                  go_simp
                simp only [Act.put, List.setIfInBounds_toArray, List.set_cons_zero, List.set_cons_succ]
                refine take7 (i := 1) (d := 109) (v := .slice (some ⟨g2, off2, none⟩) 1 c) rfl rfl (by kernel_rfl) (by kernel_rfl) (by kernel_rfl) (fun _ _ _ h => h) (Or.inl ⟨by rfl, ?_⟩) (by assumption) ?_
                · intro X hSw
                  go_simp
                simp only [Act.put, List.setIfInBounds_toArray, List.set_cons_zero, List.set_cons_succ]
                refine take7 (i := 2) (d := 110) (v := .int .i64 (j : Int)) rfl rfl (by kernel_rfl) (by kernel_rfl) (by kernel_rfl) (fun _ _ _ h => h) (Or.inl ⟨by rfl, ?_⟩) (by assumption) ?_
                · intro X hSw
                  go_simp
                simp only [Act.put, List.setIfInBounds_toArray, List.set_cons_zero, List.set_cons_succ]
                refine take7 (i := 3) (d := 111) (v := .pointer (some ⟨g2, off2 + j * 2, none⟩)) rfl rfl (by kernel_rfl) (by kernel_rfl) (by kernel_rfl) (fun _ _ _ h => h) (Or.inl ⟨by rfl, ?_⟩) (by assumption) ?_
                · intro X hSw
                  go_simp
                simp only [Act.put, List.setIfInBounds_toArray, List.set_cons_zero, List.set_cons_succ]
                refine take7 (i := 4) (d := 112) (v := .pointer (some ⟨g2, off2 + j * 2 + 1, none⟩)) rfl rfl (by kernel_rfl) (by kernel_rfl) (by kernel_rfl) (fun _ _ _ h => h) (Or.inl ⟨by rfl, ?_⟩) (by assumption) ?_
                · intro X hSw
                  go_simp
                simp only [Act.put, List.setIfInBounds_toArray, List.set_cons_zero, List.set_cons_succ]
                refine take7 (i := 5) (d := 113) (v := .string (txB (at_ + j))) rfl rfl (by kernel_rfl) (by kernel_rfl) (by kernel_rfl) (fun _ _ _ h => h) (Or.inl ⟨by rfl, ?_⟩) (by assumption) ?_
                · intro X hSw
                  go_simp
                simp only [Act.put, List.setIfInBounds_toArray, List.set_cons_zero, List.set_cons_succ]
                refine take7 (i := 6) (d := 114) (v := .int .i64 (at_ : Int)) rfl rfl (by kernel_rfl) (by kernel_rfl) (by kernel_rfl) (fun _ _ _ h => h) (Or.inl ⟨by rfl, ?_⟩) (by assumption) ?_
                · intro X hSw
                  go_simp
                simp only [Act.put, List.setIfInBounds_toArray, List.set_cons_zero, List.set_cons_succ]
                refine take7 (i := 7) (d := 115) (v := .int .i64 (j : Int)) rfl rfl (by kernel_rfl) (by kernel_rfl) (by kernel_rfl) (fun _ _ _ h => h) (Or.inl ⟨by rfl, ?_⟩) (by assumption) ?_
                · intro X hSw
                  go_simp
                simp only [Act.put, List.setIfInBounds_toArray, List.set_cons_zero, List.set_cons_succ]
                refine take7 (i := 8) (d := 116) (v := .int .i64 ((at_ : Int) + (j : Int))) rfl rfl (by kernel_rfl) (by kernel_rfl) (by kernel_rfl) (fun _ _ _ h => h) (Or.inl ⟨by rfl, ?_⟩) (by assumption) ?_
                · intro X hSw
                  go_simp
                simp only [Act.put, List.setIfInBounds_toArray, List.set_cons_zero, List.set_cons_succ]
                refine take7 (i := 9) (d := 117) (v := .int .i64 (((at_ : Int) + (j : Int)) % 90)) rfl rfl (by kernel_rfl) (by kernel_rfl) (by kernel_rfl) (fun _ _ _ h => h) (Or.inl ⟨by rfl, ?_⟩) (by assumption) ?_
                · intro X hSw
                  go_simp
                simp only [Act.put, List.setIfInBounds_toArray, List.set_cons_zero, List.set_cons_succ]
                refine take7 (i := 10) (d := 118) (v := .int .i64 (33 + ((at_ : Int) + (j : Int)) % 90)) rfl rfl (by kernel_rfl) (by kernel_rfl) (by kernel_rfl) (fun _ _ _ h => h) (Or.inl ⟨by rfl, ?_⟩) (by assumption) ?_
                · intro X hSw
                  go_simp
                simp only [Act.put, List.setIfInBounds_toArray, List.set_cons_zero, List.set_cons_succ]
                refine take7 (i := 11) (d := 119) (v := .int .u8 (33 + ((at_ : Int) + (j : Int)) % 90)) rfl rfl (by kernel_rfl) (by kernel_rfl) (by kernel_rfl) (fun _ _ _ h => h) (Or.inl ⟨by rfl, ?_⟩) (by assumption) ?_
                · intro X hSw
                  go_simp
                simp only [Act.put, List.setIfInBounds_toArray, List.set_cons_zero, List.set_cons_succ]
                obtain ⟨X, hX⟩ : ∃ X, X = wr.drew := ⟨_, rfl⟩
                have HX : Hid (Below Z.heap.size Z X) := by rw [hX]; exact HB.out.drew
                rw [← hX] at hHeld ⊢
                obtain ⟨hx1, hx2⟩ := hHeld
                have hcv := conv2 at_ j X
                have HbX : Hid (Below X.heap.size X (X.alloc (.cells #[.int .u8 (33 + ((at_ : Int) + (j : Int)) % 90)] 5))) := below_alloc _ _
                have HSx : Hid ((X.alloc (.cells #[.int .u8 (33 + ((at_ : Int) + (j : Int)) % 90)] 5)).cell? ⟨bR, 2, none⟩ = some (.slice (some ⟨g2, off2, none⟩) 1 c) ∧ (X.alloc (.cells #[.int .u8 (33 + ((at_ : Int) + (j : Int)) % 90)] 5)).cell? ⟨g2, off2 + j * 2 + 1, none⟩ = some (.string (txB (at_ + j)))) := ⟨(HbX.out.cell (p := ⟨bR, 2, none⟩) (World.block_lt_of_cell? _ _ hx1)).trans hx1, (HbX.out.cell (p := ⟨g2, off2 + j * 2 + 1, none⟩) (World.block_lt_of_cell? _ _ hx2)).trans hx2⟩
                clear hX hx1 hx2
                refine wpAnyH_ready (rs := [12]) (by kernel_rfl) (by simp) ?_
                refine AllReadyH.cons rfl (fun K hK => ?_) AllReadyH.nil
                go_simp
                refine hK.out _ _ HSx.out (fun hHeld => ?_)
                clear hK K
                try simp only [Act.put, List.setIfInBounds_toArray, List.set_cons_zero, List.set_cons_succ]
                refine wpAnyH_ready (rs := [13]) (by kernel_rfl) (by simp) ?_
                refine AllReadyH.cons rfl (fun K hK => ?_) AllReadyH.nil
                go_simp
                refine hK.out _ _ HSx.out (fun hHeld => ?_)
                clear hK K
                try simp only [Act.put, List.setIfInBounds_toArray, List.set_cons_zero, List.set_cons_succ]
                refine take7 (i := 14) (d := 122) (v := .bool false) rfl rfl (by kernel_rfl) (by kernel_rfl) (by kernel_rfl) (fun _ _ _ h => h) (Or.inl ⟨by rfl, ?_⟩) (by assumption) ?_
                · intro X hSw
                  go_simp
                simp only [Act.put, List.setIfInBounds_toArray, List.set_cons_zero, List.set_cons_succ]
                refine wpAnyH_done (by kernel_rfl) ?_ _
                have HB2 : Hid (Below Z.heap.size Z (X.alloc (.cells #[.int .u8 (33 + ((at_ : Int) + (j : Int)) % 90)] 5))) := HX.out.trans (HbX.out.mono HX.out.size)
                clear hHeld hcv n1 n2 n3 n4 n5
                go_wp2
                go_roundw
                case rel => exact ⟨j + 1, by go_num, by omega, HB2⟩
                case measure => simp [intOf]; omega
              · have HM : Hid (Mb w wr B s (130 + (i + 1)) []) := HZ.out.2.1.below HB.out
                have hjI : ¬ (j : Int) < 1 := by omega
                go_wp2
                go_roundw
                case rel => exact ⟨at_ + 1, i + 1, by go_num, by go_num, HZ.out.2.2.2.1, by have := HZ.out.2.2.1; omega, ⟨HS.out.1, HM.out⟩⟩
                case measure => have := HZ.out.2.2.1; have := HZ.out.2.2.2.1; simp [intOf]; omega
        · obtain rfl : at_ = k := by omega
          have HC : Hid _ := HLa.out wr i HS.out.2 (by have := HMl.out; omega)
          go_wp2_with fail
          refine Calls.mono HC.out ?_
          rintro e Y ⟨p, c, rfl, hM⟩
          have HY : Hid (Below w.heap.size w Y) := hM.old
          have HbY : Hid (∀ o, Below Y.heap.size Y (Y.alloc o)) := fun o => below_alloc Y o
          clear hM
          go_wp2_with fail
          refine (HA.out _).mono ?_
          rintro e Y2 ⟨rfl, hb2⟩
          have HB2 : Hid _ := hb2
          clear hb2
          go_wp2
          go_ret
          exact ⟨rfl, (HY.out.trans ((HbY.out _).mono HY.out.size)).trans (HB2.out.mono (HY.out.trans ((HbY.out _).mono HY.out.size)).size)⟩

theorem laidOut : laidOutB Try.prog = true := by kernel_rfl

theorem own : ownKnob Try.prog.godebug = none := by kernel_rfl

set_option maxRecDepth 100000 in
theorem lifted (os : Os) (started : os.Started) (H : Type) (enc : TypeId × Value → H) :
    ReturnsInHanded {} Try.checked os 6 .any (Rows.modelPagesSpec.pre6 enc Try.prog Try.f6 Rows.modelPagesRow.domain false) (Rows.modelPagesSpec.post enc Try.prog Try.f6 false true false false) := by
  refine returnsInHanded_of_change_sized (C := Try.checked) own started (by kernel_rfl) Try.func6
    (ChangeSpec.witness6 (enc := enc) (C := Try.checked) false ⟨#[], #[.int .i64 0, .slice none 0 0], []⟩ 8 (by kernel_rfl) (by kernel_rfl) (by kernel_rfl) (by kernel_rfl)) ?_
  intro W base args ds gs before hval0 hW _ hsz0 _
  have hsz : (DataW.weightsEach Try.prog (Try.f6.params.toList ++ Rows.modelPagesSpec.plain.varTypes Try.prog) (ds ++ gs)).all (· ≤ reachBytes) = true := hsz0
  have hval : ∀ (j : Nat) t v, Try.f6.params[j]? = some t → args[j]? = some v → Value.okWide Try.prog W .any base t v := hval0
  have hW' := hW
  obtain ⟨p, q, hA0, hV, rfl, hfz, hnd⟩ := hW
  have hA : DataW.TrodAll enc Try.prog W 0 (fun _ => true) true Try.f6.params.toList args.toList ds p := hA0
  rw [Try.params6] at hA hval hsz
  obtain ⟨v0, vs0, d0, ds0, p0, q0, hargs, rfl, rfl, h0, r0⟩ := trodAll_cons hA
  obtain ⟨v1, vs1, d1, ds1, p1, q1, rfl, rfl, rfl, h1, r1⟩ := trodAll_cons r0
  obtain ⟨rfl, rfl, rfl⟩ := trodAll_nil r1
  obtain rfl : args = #[v0, v1] := by cases args; simp_all
  obtain ⟨rfl, rfl⟩ := trodVars_none hV
  obtain ⟨a0, rfl, rfl, rfl, w0⟩ := open_int Try.underlying3 (hval 0 3 v0 rfl rfl) h0
  have b0 : -9223372036854775808 ≤ a0 ∧ a0 ≤ 9223372036854775807 := by simpa [Lit.wf, IntKind.min, IntKind.max, IntKind.signed, IntKind.bits] using w0
  have k1 := h1
  have lt1 : ∀ x ∈ p1, x.block < W.heap.size := by obtain ⟨m, hm⟩ := k1; exact DataW.trod_lt m _ _ _ hm
  obtain ⟨a1, b1⟩ := open_ints9 (hval 1 60 v1 rfl rfl) h1
  clear hA0 hval0 hsz0
  refine (walk a0 v1 a1 W b0 b1).mono fun e W' ⟨he, bel⟩ => ?_
  subst he
  exact ⟨_, rfl, _, _, _, [], _, [], hW', trodAll_mk1 (shut_bool Try.underlying4 _), (trodAll_cons_mk (shut_int Try.underlying3 w0) (trodAll_cons_mk (Below.trod laidOut (by kernel_rfl) (of_decide_eq_true (by kernel_rfl)) k1 bel lt1) trodAll_mk0)), rfl, bel.frame _, fun h => by cases h⟩

theorem over : Rows.modelPagesRow.holds Try.pinned (OpenSpec.ofChange Rows.modelPagesSpec) :=
  OpenClaim.holds_of_wide 6 Try.f6 rfl rfl rfl rfl rfl rfl rfl ⟨rfl, rfl, rfl, rfl, rfl⟩ rfl rfl rfl rfl rfl (by kernel_rfl) Try.func6 (by kernel_rfl)
    (of_decide_eq_true (by kernel_rfl)) (by unfold Func.isWrapper; first | (rw [if_pos (by decide +kernel)]; kernel_rfl) | (rw [if_neg (by decide +kernel)]; exact ⟨rfl, rfl⟩))
    (fun os started H enc _ => lifted os started H enc)


end Go.Proofs.Ytpopanfefpehnaa.modelPages
namespace Go.Proofs.Ytpopanfefpehnaa
/-- The statement. -/
theorem modelPages_holds : Rows.ModelPagesSaid := modelPages.over
end Go.Proofs.Ytpopanfefpehnaa
