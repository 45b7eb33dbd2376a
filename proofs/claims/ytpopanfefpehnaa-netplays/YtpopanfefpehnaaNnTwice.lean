/-
  Between, Twice.
-/
import Derived.Test.YtpopanfefpehnaaNnFresh
import Derived.Test.YtpopanfefpehnaaDkMask
namespace Go.Proofs.Ytpopanfefpehnaa
open Go.RowKit

theorem and_15 (x : Int) : bits .and .i64 x 15 = x % 16 := by
  have h1 : (BitVec.ofInt 64 (15 : Int)).toNat = 2 ^ 4 - 1 := by decide
  have h2 : (BitVec.ofInt 64 x).toNat = (x % 18446744073709551616).toNat := by rw [BitVec.toNat_ofInt]; rfl
  show IntKind.i64.wrap ((BitVec.ofInt 64 x &&& BitVec.ofInt 64 15).toNat : Int) = _
  rw [BitVec.toNat_and, h1, h2, Nat.and_two_pow_sub_one_eq_mod, wraps_i64 _ (by omega) (by rw [pow63]; omega)]
  omega
theorem and_63 (x : Int) : bits .and .i64 x 63 = x % 64 := by
  have h1 : (BitVec.ofInt 64 (63 : Int)).toNat = 2 ^ 6 - 1 := by decide
  have h2 : (BitVec.ofInt 64 x).toNat = (x % 18446744073709551616).toNat := by rw [BitVec.toNat_ofInt]; rfl
  show IntKind.i64.wrap ((BitVec.ofInt 64 x &&& BitVec.ofInt 64 63).toNat : Int) = _
  rw [BitVec.toNat_and, h1, h2, Nat.and_two_pow_sub_one_eq_mod, wraps_i64 _ (by omega) (by rw [pow63]; omega)]
  omega

section
variable {w : World} {B : Nat} {s : Q.St} {own : Nat → Prop} {n : Nat}

theorem Between_c (h : Nn w B s own n) (a b : Int) (ha : In64 a) (hb : In64 b) : Calls Try.prog 37 #[.pointer (some ⟨B, 0, none⟩), .int .i64 a, .int .i64 b] w fun e w' => e = .returned (.int .i64 (Q.cnt s.ls a b : Int)) ∧ w' = w := by
  have HM : Hid _ := isMade_c h
  obtain ⟨v, mb, em, h⟩ := h
  have h2 := h.c2
  have hlk := h.map.look ha hb
  generalize Q.cnt s.ls a b = c at hlk ⊢
  clear h ha hb
  go_enter Try.func37, Try.ntmps37
  go_wp2_with fail
  refine Calls.mono HM.out ?_
  rintro e w1 ⟨rfl, hw⟩
  subst hw
  go_wp2
  go_ret
  exact ⟨rfl, rfl⟩

theorem Twice_none (h : Nn w B s own n) (k : Int) (h0 : s.ls = []) : Calls Try.prog 34 #[.pointer (some ⟨B, 0, none⟩), .int .i64 k] w fun e w' => e = .returned (.bool false) ∧ AftQ own w w' B s (n + 1) := by
  have HL : Hid _ := Len_c h
  rw [h0] at HL
  have HSame : Hid (AftQ own w w B s (n + 1)) := (AftQ.same h (Below.refl _ _)).more (by omega)
  clear h h0
  go_enter Try.func34, Try.ntmps34
  go_wp2_with fail
  refine Calls.mono HL.out ?_
  rintro e w1 ⟨rfl, hw⟩
  subst hw
  go_wp2
  go_ret
  exact ⟨rfl, HSame.out⟩

set_option maxHeartbeats 800000 in
theorem Twice_yes (h : Nn w B s own n) (hn : n < 1099511627776) (k : Int) {l : Q.Lt} (hl : s.ls[Q.place k s.ls.length]? = some l) : Calls Try.prog 34 #[.pointer (some ⟨B, 0, none⟩), .int .i64 k] w fun e w' => e = .returned (.bool (!decide ((Q.cnt s.ls l.fr l.tt : Int) ≥ s.most))) ∧
    AftQ own w w' B (if (Q.cnt s.ls l.fr l.tt : Int) ≥ s.most then s else { s with ls := s.ls ++ [l] }) (n + 1) := by
  have hat := (List.getElem?_eq_some_iff.1 hl).1
  have hlo := h.ok.ls l (List.mem_of_getElem? hl)
  have hfr : In64 l.fr := ⟨by have := hlo.1; omega, by have := hlo.1; omega⟩
  have htt : In64 l.tt := ⟨by have := hlo.2.1; omega, by have := hlo.2.1; omega⟩
  have hlen := h.len
  have HL : Hid _ := Len_c h
  have HP : Hid (∀ X, Below w.heap.size w X → Calls Try.prog 67 #[.pointer (some ⟨B, 0, none⟩), .int .i64 k] X fun e w' => e = .returned (.int .i64 (Q.place k s.ls.length : Int)) ∧ w' = X) := fun X hX => place_c (h.below hX) (by omega) (by omega) k
  obtain ⟨g, off, c, y1, z0, z1, z2⟩ := h.letter hl
  obtain ⟨at_, hat_⟩ : ∃ a, a = Q.place k s.ls.length := ⟨_, rfl⟩
  rw [← hat_] at HP hat z0 z1 z2
  obtain ⟨m, hm⟩ : ∃ m, m = s.ls.length := ⟨_, rfl⟩
  rw [← hm] at HL y1 hat hlen
  have HAd : Hid (∀ X, Below w.heap.size w X → Calls Try.prog 66 #[.pointer (some ⟨B, 0, none⟩), .agg #[.int .i64 l.fr, .int .i64 l.tt, .string l.tx]] X fun e w' => e = .returned (.tuple #[]) ∧ AftQ own w w' B { s with ls := s.ls ++ [l] } (n + 1)) := by
    intro X hX
    refine (add_c (h.below hX) hn l hlo).mono ?_
    rintro e w' ⟨rfl, ha⟩
    exact ⟨rfl, ha.from hX h.lt h.here⟩
  have HSame : Hid (∀ X, Below w.heap.size w X → AftQ own w X B s (n + 1)) := fun X hX => (AftQ.same h hX).more (by omega)
  have HFX : Hid (∀ X, Below w.heap.size w X → Calls Try.prog 64 #[.pointer (some ⟨B, 0, none⟩), .agg #[.int .i64 l.fr, .int .i64 l.tt, .string l.tx]] X fun e w' => e = .returned (.bool (decide ((Q.cnt s.ls l.fr l.tt : Int) ≥ s.most))) ∧ Below X.heap.size X w') := fun X hX => isFull_c (h.below hX) l hfr htt
  have hm0 : ¬ (m : Int) = 0 := by omega
  have ha0 : (0 : Int) ≤ (at_ : Int) := by omega
  have ham : (at_ : Int) < (m : Int) := by omega
  have hlB : B < w.heap.size := h.lt
  have hlg : g < w.heap.size := World.block_lt_of_cell? _ _ z0
  obtain ⟨fr, tt, tx⟩ := l
  dsimp only at z0 z1 z2 HFX HAd ⊢
  obtain ⟨b, hb⟩ : ∃ b, b = decide ((Q.cnt s.ls fr tt : Int) ≥ s.most) := ⟨_, rfl⟩
  have hgoal : (if (Q.cnt s.ls fr tt : Int) ≥ s.most then s else { s with ls := s.ls ++ [⟨fr, tt, tx⟩] }) = (if b = true then s else { s with ls := s.ls ++ [⟨fr, tt, tx⟩] }) := by
    by_cases q : (Q.cnt s.ls fr tt : Int) ≥ s.most
    · rw [if_pos q, if_pos (by rw [hb]; simpa using q)]
    · rw [if_neg q, if_neg (by rw [hb]; simpa using q)]
  rw [hgoal, ← hb]
  rw [← hb] at HFX
  have HK : Hid (∀ X, Below w.heap.size w X → X.cell? ⟨B, 1, none⟩ = some (.slice (some ⟨g, off, none⟩) m (c + 1)) ∧ X.cell? ⟨g, off + at_ * 3, none⟩ = some (.int .i64 fr) ∧ X.cell? ⟨g, off + at_ * 3 + 1, none⟩ = some (.int .i64 tt) ∧ X.cell? ⟨g, off + at_ * 3 + 2, none⟩ = some (.string tx)) := fun X hX =>
    ⟨(hX.cell (p := ⟨B, 1, none⟩) hlB).trans y1, (hX.cell (p := ⟨g, _, none⟩) hlg).trans z0, (hX.cell (p := ⟨g, _, none⟩) hlg).trans z1, (hX.cell (p := ⟨g, _, none⟩) hlg).trans z2⟩
  clear h hl hat hlo hfr htt hlen hat_ hm hb hgoal hn hlB hlg
  go_enter Try.func34, Try.ntmps34
  go_wp2_with fail
  refine Calls.mono HL.out ?_
  rintro e w1 ⟨rfl, hw⟩
  subst hw
  have hbd : Below w1.heap.size w1 w1.drew := (Below.refl _ _).drew
  have hba : ∀ o, Below w1.heap.size w1 (w1.drew.alloc o) := fun o => hbd.alloc (Nat.le_refl _) o
  clear y1 z0 z1 z2
  go_wp2
  go_region_held (fun X => X.cell? ⟨B, 1, none⟩ = some (.slice (some ⟨g, off, none⟩) m (c + 1)) ∧ X.cell? ⟨g, off + at_ * 3, none⟩ = some (.int .i64 fr) ∧ X.cell? ⟨g, off + at_ * 3 + 1, none⟩ = some (.int .i64 tt) ∧ X.cell? ⟨g, off + at_ * 3 + 2, none⟩ = some (.string tx))
    (first | exact HK.out _ hbd | exact HK.out _ (hba _))
    (first | (go_at_call 67; refine (HP.out _ ?_).mono ?_; (first | exact hbd | exact hba _); rintro e w6 ⟨rfl, hw6⟩; subst hw6))
  all_goals
    obtain ⟨X, hX⟩ : ∃ X, X = (w1.alloc (.cells #[.int .i64 fr, .int .i64 tt, .string tx] 78)).drew := ⟨_, rfl⟩
    have HBX : Hid (Below w1.heap.size w1 X) := by rw [hX]; exact hba _
    obtain ⟨bl, hbl⟩ : ∃ bl, bl = w1.heap.size := ⟨_, rfl⟩
    have HC : Hid (∀ Y, Below X.heap.size X Y → Y.cell? ⟨bl, 0, none⟩ = some (.int .i64 fr) ∧ Y.cell? ⟨bl, 1, none⟩ = some (.int .i64 tt) ∧ Y.cell? ⟨bl, 2, none⟩ = some (.string tx)) := by
      intro Y hY
      have hl : bl < X.heap.size := by rw [hX, hbl]; show _ < (w1.alloc _).heap.size; simp
      have hcs : ∀ j, Y.cell? ⟨bl, j, none⟩ = (#[.int .i64 fr, .int .i64 tt, .string tx] : Array Value)[j]? := fun j => by
        rw [hY.cell (p := ⟨bl, j, none⟩) hl, hX, hbl]
        exact World.cell?_alloc_mark w1 _ _ _ j
      exact ⟨hcs 0, hcs 1, hcs 2⟩
    rw [← hX]
    try rw [← hbl]
    obtain ⟨q0, q1, q2⟩ := HC.out X (Below.refl _ _)
    clear hX hbl hba hbd
    go_wp2_with fail
    refine (HFX.out X HBX.out).mono ?_
    rintro e Y ⟨rfl, hbY⟩
    have HBY : Hid (Below w1.heap.size w1 Y) := HBX.out.trans (hbY.mono HBX.out.size)
    obtain ⟨q0, q1, q2⟩ := HC.out Y hbY
    clear hbY
    cases b with
    | true =>
      go_wp2
      go_ret
      exact ⟨rfl, HSame.out Y HBY.out⟩
    | false =>
      go_wp2_with fail
      refine (HAd.out Y HBY.out).mono ?_
      rintro e Z ⟨rfl, ha⟩
      have HAZ : Hid _ := ha
      clear ha
      go_wp2
      go_ret
      exact ⟨rfl, HAZ.out⟩
end

theorem Nf.between {w X : World} {B : Nat} {s : Q.St} {n : Nat} {loc : Nat → Prop} (h : Nf w X B s n loc) (a b : Int) (ha : In64 a) (hb : In64 b) :
    Calls Try.prog 37 #[.pointer (some ⟨B, 0, none⟩), .int .i64 a, .int .i64 b] X fun e Y => e = .returned (.int .i64 (Q.cnt s.ls a b : Int)) ∧ Y = X := by
  obtain ⟨own, h1, _⟩ := h
  exact Between_c h1 a b ha hb

/-- What Twice does. -/
def twS (s : Q.St) (k : Int) : Q.St := match s.ls[Q.place k s.ls.length]? with
  | some l => if (Q.cnt s.ls l.fr l.tt : Int) ≥ s.most then s else { s with ls := s.ls ++ [l] }
  | none => s
def twB (s : Q.St) (k : Int) : Bool := match s.ls[Q.place k s.ls.length]? with
  | some l => !decide ((Q.cnt s.ls l.fr l.tt : Int) ≥ s.most)
  | none => false

theorem Nf.twice {w X : World} {B : Nat} {s : Q.St} {n : Nat} {loc : Nat → Prop} (h : Nf w X B s n loc) (hn : n < 1099511627776) (k : Int) :
    Calls Try.prog 34 #[.pointer (some ⟨B, 0, none⟩), .int .i64 k] X fun e Y => e = .returned (.bool (twB s k)) ∧ Nf w Y B (twS s k) (n + 1) loc ∧ (∀ k, loc k → Y.heap[k]? = X.heap[k]?) ∧ X.heap.size ≤ Y.heap.size := by
  obtain ⟨own, h1, h2⟩ := h.call
  unfold twS twB
  cases hl : s.ls[Q.place k s.ls.length]? with
  | none =>
    have h0 : s.ls = [] := by
      cases hs : s.ls with
      | nil => rfl
      | cons x xs =>
        exfalso
        have := Q.place_lt k (n := s.ls.length) (by rw [hs]; simp)
        rw [List.getElem?_eq_getElem this] at hl
        cases hl
    refine (Twice_none h1 k h0).mono ?_
    rintro e Y ⟨rfl, ha⟩
    exact ⟨rfl, h2 Y _ _ ha⟩
  | some l =>
    refine (Twice_yes h1 hn k hl).mono ?_
    rintro e Y ⟨rfl, ha⟩
    exact ⟨rfl, h2 Y _ _ ha⟩

end Go.Proofs.Ytpopanfefpehnaa
