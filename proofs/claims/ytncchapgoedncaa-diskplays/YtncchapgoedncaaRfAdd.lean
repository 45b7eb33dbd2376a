/-
  What the document's Add answers.
-/
import Derived.Laws.ResultCell
import Derived.Deep.QuietTactic
import Derived.Deep.RegionWith
import Derived.Test.YtncchapgoedncaaRfWith
import Derived.Test.YtncchapgoedncaaRfBytes
namespace Go.Proofs.Ytncchapgoedncaa
open Go.RowKit

set_option maxHeartbeats 400000 in
theorem ref_Add_out {w : World} {v : Value} {room g1 g2 c1 c2 : Nat} {T : Nat → ByteArray} {S : Nat → Nat} (h : Rf w v room T S g1 g2 c1 c2) (k : Int) (s : ByteArray) (hk : isFile k = false) :
    Calls Try.prog 16 #[v, .int .i64 k, .string s] w fun e w' => e = .returned (.tuple #[v, .int .i64 1]) ∧ Below w.heap.size w w' := by
  have hform := h.form
  subst hform
  have hff := ref_file k
  rw [hk] at hff
  have HF : Hid (∀ W, Calls Try.prog 28 #[.int .i64 k] W fun e w' => e = .returned (.bool false) ∧ w' = W) := hff
  clear h hff hk
  go_enter Try.func16, Try.ntmps16
  go_wp2_with fail
  refine (HF.out _).mono ?_
  rintro e w1 ⟨rfl, rfl⟩
  go_wp2
  refine bodyPost_ret (v := .tuple #[.agg #[.int .i64 (room : Int), .slice (some ⟨g1, 0, none⟩) 256 c1, .slice (some ⟨g2, 0, none⟩) 256 c2], .int .i64 1]) ?qres rfl ?qpost
  case qres => simp [results, Try.results16, go_sem]
  case qpost =>
    refine ⟨rfl, ?_⟩
    exact ((Below.refl _ w).alloc (Nat.le_refl _) _).alloc (by simp) _

/-- What stays while the document's functions are called: the boxed disk in block a, the result's block behind it. -/
structure GA (w W : World) (a room g1 g2 c1 c2 : Nat) (T : Nat → ByteArray) (S : Nat → Nat) : Prop where
  bel : Below w.heap.size w W
  lt : a + 1 < W.heap.size
  x0 : W.cell? ⟨a, 0, none⟩ = some (.int .i64 (room : Int))
  x1 : W.cell? ⟨a, 1, none⟩ = some (.slice (some ⟨g1, 0, none⟩) 256 c1)
  x2 : W.cell? ⟨a, 2, none⟩ = some (.slice (some ⟨g2, 0, none⟩) 256 c2)
  z0 : W.cell? ⟨a + 1, 0, none⟩ = some (.int .i64 0)
  z1 : W.cell? ⟨a + 1, 1, none⟩ = some (.slice none 0 0)
  z2 : W.cell? ⟨a + 1, 2, none⟩ = some (.slice none 0 0)
  f : ∀ o, o < 3 → W.frozen? ⟨a + 1, o, none⟩ = false
  rf : Rf W (.agg #[.int .i64 (room : Int), .slice (some ⟨g1, 0, none⟩) 256 c1, .slice (some ⟨g2, 0, none⟩) 256 c2]) room T S g1 g2 c1 c2
theorem GA.below {w W W' : World} {a room g1 g2 c1 c2 : Nat} {T : Nat → ByteArray} {S : Nat → Nat} (h : GA w W a room g1 g2 c1 c2 T S) (hb : Below W.heap.size W W') : GA w W' a room g1 g2 c1 c2 T S := by
  have h1 := h.lt
  have hc : ∀ g o, g < a + 2 → W'.cell? ⟨g, o, none⟩ = W.cell? ⟨g, o, none⟩ := fun g o hg => hb.cell (p := ⟨g, o, none⟩) (by show g < _; omega)
  exact ⟨h.bel.trans (hb.mono h.bel.size), Nat.lt_of_lt_of_le h1 hb.size, by rw [hc _ _ (by omega)]; exact h.x0, by rw [hc _ _ (by omega)]; exact h.x1, by rw [hc _ _ (by omega)]; exact h.x2, by rw [hc _ _ (by omega)]; exact h.z0, by rw [hc _ _ (by omega)]; exact h.z1, by rw [hc _ _ (by omega)]; exact h.z2,
    fun o ho => by rw [hb.frozen (p := ⟨a + 1, o, none⟩) h1]; exact h.f o ho, h.rf.below hb⟩
theorem GA.drew {w W : World} {a room g1 g2 c1 c2 : Nat} {T : Nat → ByteArray} {S : Nat → Nat} (h : GA w W a room g1 g2 c1 c2 T S) : GA w W.drew a room g1 g2 c1 c2 T S := h.below (Below.refl _ _).drew
theorem ga_start {w : World} {room g1 g2 c1 c2 : Nat} {T : Nat → ByteArray} {S : Nat → Nat} (h : Rf w (.agg #[.int .i64 (room : Int), .slice (some ⟨g1, 0, none⟩) 256 c1, .slice (some ⟨g2, 0, none⟩) 256 c2]) room T S g1 g2 c1 c2) (t : TypeId) :
    GA w ((w.alloc (.cells #[.int .i64 (room : Int), .slice (some ⟨g1, 0, none⟩) 256 c1, .slice (some ⟨g2, 0, none⟩) 256 c2] t)).alloc (.cells #[.int .i64 0, .slice none 0 0, .slice none 0 0] t)) w.heap.size room g1 g2 c1 c2 T S := by
  have hb : Below w.heap.size w ((w.alloc (.cells #[.int .i64 (room : Int), .slice (some ⟨g1, 0, none⟩) 256 c1, .slice (some ⟨g2, 0, none⟩) 256 c2] t)).alloc (.cells #[.int .i64 0, .slice none 0 0, .slice none 0 0] t)) := ((Below.refl _ w).alloc (Nat.le_refl _) _).alloc (by simp) _
  refine ⟨hb, by simp, ?_, ?_, ?_, ?_, ?_, ?_, fun o _ => ?_, h.below hb⟩ <;> simp [go_sem]

set_option maxHeartbeats 400000 in
set_option maxRecDepth 20000 in
theorem ref_Add_full {w : World} {v : Value} {room g1 g2 c1 c2 : Nat} {T : Nat → ByteArray} {S : Nat → Nat} (h : Rf w v room T S g1 g2 c1 c2) (i : Nat) (hi : i < 256) (s : ByteArray) (hr : room ≤ 16777216) (hu : sumTo T 256 ≤ room) (hfull : room < sumTo T 256 + s.size) :
    Calls Try.prog 16 #[v, .int .i64 (i : Int), .string s] w fun e w' => e = .returned (.tuple #[v, .int .i64 30]) ∧ Below w.heap.size w w' := by
  have hform := h.form
  subst hform
  have hff := ref_file i
  rw [isFile_nat hi] at hff
  have HF : Hid (∀ W, Calls Try.prog 28 #[.int .i64 (i : Int)] W fun e w' => e = .returned (.bool true) ∧ w' = W) := hff
  obtain ⟨u, hu'⟩ : ∃ u, u = sumTo T 256 := ⟨_, rfl⟩
  have HU : Hid (∀ W, GA w W w.heap.size room g1 g2 c1 c2 T S → Calls Try.prog 23 #[.agg #[.int .i64 (room : Int), .slice (some ⟨g1, 0, none⟩) 256 c1, .slice (some ⟨g2, 0, none⟩) 256 c2]] W fun e w' => e = .returned (.int .i64 (u : Int)) ∧ GA w w' w.heap.size room g1 g2 c1 c2 T S) := by
    intro W hW
    have := ref_Used hW.rf (by omega)
    rw [← hu'] at this
    refine this.mono ?_
    rintro e w' ⟨rfl, hb⟩
    exact ⟨rfl, hW.below hb⟩
  have HG : Hid _ := ga_start h 30
  rw [← hu'] at hu hfull
  have t1 : decide ((room : Int) - (u : Int) < (s.size : Int)) = true := by simp; omega
  have hwr : IntKind.i64.wrap ((room : Int) - (u : Int)) = (room : Int) - (u : Int) := wraps_i64 _ (by omega) (by omega)
  clear h hff hu' hfull
  go_enter Try.func16, Try.ntmps16
  go_wp2_with fail
  refine (HF.out _).mono ?_
  rintro e w1 ⟨rfl, rfl⟩
  obtain ⟨w2, hw2⟩ : ∃ w2, w2 = (w.alloc (.cells #[.int .i64 (room : Int), .slice (some ⟨g1, 0, none⟩) 256 c1, .slice (some ⟨g2, 0, none⟩) 256 c2] 30)).alloc (.cells #[.int .i64 0, .slice none 0 0, .slice none 0 0] 30) := ⟨_, rfl⟩
  rw [← hw2] at HG ⊢
  have hg := HG.out.drew
  have x0 := HG.out.x0
  have x1 := HG.out.x1
  have x2 := HG.out.x2
  obtain ⟨a, ha⟩ : ∃ a, a = w.heap.size := ⟨_, rfl⟩
  rw [← ha] at hg x0 x1 x2 HU ⊢
  have Ha : Hid (a = w.heap.size) := ha
  clear hw2 HG ha
  go_wp2
  go_region_with (first | (go_at_call 23; refine (HU.out _ ?_).mono ?_; assumption; rintro e w5 ⟨rfl, hg5⟩; have y0 := hg5.x0; have y1 := hg5.x1; have y2 := hg5.x2))
  all_goals
    have z0 := hg5.z0
    have z1 := hg5.z1
    have z2 := hg5.z2
    have f0 := hg5.f 0 (by omega)
    have f1 := hg5.f 1 (by omega)
    have f2 := hg5.f 2 (by omega)
    have HB5 : Hid (Below w.heap.size w w5) := hg5.bel
    go_wp2
    refine bodyPost_ret (v := .tuple #[.agg #[.int .i64 (room : Int), .slice (some ⟨g1, 0, none⟩) 256 c1, .slice (some ⟨g2, 0, none⟩) 256 c2], .int .i64 30]) ?qres rfl ?qpost
    case qres => simp [results, Try.results16, go_sem, z0, z1, z2]
    case qpost =>
      refine ⟨rfl, ?_⟩
      have := Ha.out
      refine ((HB5.out.setCell ?_ _).setCell ?_ _).setCell ?_ _
      all_goals (show w.heap.size ≤ a + 1; omega)

end Go.Proofs.Ytncchapgoedncaa
