/-
  Take, Twice, Between.
-/
import Derived.Test.YtpopanfefpehnaaNnRem
import Derived.Test.YtpopanfefpehnaaNnPut
namespace Go.Proofs.Ytpopanfefpehnaa
open Go.RowKit

section
variable {w : World} {B : Nat} {s : Q.St} {own : Nat → Prop} {n : Nat}

/-- Where a letter lies. -/
theorem Nn.letter (h : Nn w B s own n) {k : Nat} {l : Q.Lt} (hl : s.ls[k]? = some l) : ∃ g off c, w.cell? ⟨B, 1, none⟩ = some (.slice (some ⟨g, off, none⟩) s.ls.length (c + 1)) ∧ w.cell? ⟨g, off + k * 3, none⟩ = some (.int .i64 l.fr) ∧ w.cell? ⟨g, off + k * 3 + 1, none⟩ = some (.int .i64 l.tt) ∧ w.cell? ⟨g, off + k * 3 + 2, none⟩ = some (.string l.tx) := by
  obtain ⟨v, mb, em, h⟩ := h
  have hk := (List.getElem?_eq_some_iff.1 hl).1
  obtain ⟨g, off, c, hv, hc1, hc2, hR, hC⟩ := h.row.cells (by omega)
  obtain ⟨e0, e1, e2⟩ := ltCells_at s.ls k l hl
  exact ⟨g, off, c, by rw [h.c1, hv], hC _ _ e0, by rw [Nat.add_assoc]; exact hC _ _ e1, by rw [Nat.add_assoc]; exact hC _ _ e2⟩

/-- A box of the call's own was written behind it. -/
theorem AftQ.boxed {w X w9 Y : World} {B : Nat} {s : Q.St} {own : Nat → Prop} {n bx : Nat} (hb : Below w.heap.size w X) (hB : B < w.heap.size) (ho : ∀ k, own k → k < w.heap.size ∧ k ≠ B) (ha : AftQ own X w9 B s n) (h1 : w.heap.size ≤ bx) (h2 : bx < X.heap.size)
    (hos : Y.os = w9.os) (htp : Y.tape = w9.tape) (hout : Y.output = w9.output) (hs : Y.heap.size = w9.heap.size) (hY : ∀ k, k ≠ bx → Y.heap[k]? = w9.heap[k]?) : AftQ own w Y B s n := by
  have hbs := hb.size
  have hks := ha.2.size
  have hown : ∀ k, sinceB own X w9 k → k ≠ bx := fun k hk e => by
    rcases hk with q | q
    · have := (ho k q).1; omega
    · omega
  refine ⟨(ha.1.carry (by omega) (hY B (by omega)) (fun k hk => hY k (hown k hk))).wider (fun k hk => ?_) (fun k hk => ?_), ?_⟩
  · rcases hk with q | q
    · exact .inl q
    · exact .inr ⟨by omega, by omega⟩
  · rcases hk with q | q
    · exact ⟨by have := (ho k q).1; omega, (ho k q).2⟩
    · exact ⟨q.2, by omega⟩
  · exact ⟨hos.trans (ha.2.os.trans hb.os), htp.trans (ha.2.tape.trans hb.tape), hout.trans (ha.2.output.trans hb.output), by omega, fun k hk hne hno => by
      rw [hY k (by omega), ha.2.block k (by omega) hne hno, hb.block k hk]⟩

set_option maxHeartbeats 400000 in
theorem Take_no (h : Nn w B s own n) (k : Int) (h0 : s.ls = []) : Calls Try.prog 30 #[.pointer (some ⟨B, 0, none⟩), .int .i64 k] w fun e w' => e = .returned (.tuple #[.agg #[.int .i64 0, .int .i64 0, .string ⟨#[]⟩], .bool false]) ∧ AftQ own w w' B s (n + 1) := by
  obtain ⟨u, hu⟩ : ∃ u, u = w.alloc (.cells #[.int .i64 0, .int .i64 0, .string ⟨#[]⟩] 78) := ⟨_, rfl⟩
  have hbu : Below w.heap.size w u := by rw [hu]; exact below_alloc w _
  have HL : Hid _ := Len_c (h.below hbu)
  have HSame : Hid (∀ X, Below w.heap.size w X → AftQ own w X B s (n + 1)) := fun X hX => (AftQ.same h hX).more (by omega)
  rw [h0] at HL
  have HB : Hid _ := hbu
  obtain ⟨bx, hbx⟩ : ∃ bx, bx = w.heap.size := ⟨_, rfl⟩
  have x0 : u.cell? ⟨bx, 0, none⟩ = some (.int .i64 0) := by rw [hu, hbx]; exact World.cell?_alloc_mark w _ _ _ 0
  have x1 : u.cell? ⟨bx, 1, none⟩ = some (.int .i64 0) := by rw [hu, hbx]; exact World.cell?_alloc_mark w _ _ _ 1
  have x2 : u.cell? ⟨bx, 2, none⟩ = some (.string ⟨#[]⟩) := by rw [hu, hbx]; exact World.cell?_alloc_mark w _ _ _ 2
  have f0 : u.frozen? ⟨bx, 0, none⟩ = false := by rw [hu, hbx, World.frozen?_alloc_mark]; simp
  have f1 : u.frozen? ⟨bx, 1, none⟩ = false := by rw [hu, hbx, World.frozen?_alloc_mark]; simp
  have f2 : u.frozen? ⟨bx, 2, none⟩ = false := by rw [hu, hbx, World.frozen?_alloc_mark]; simp
  have HX : Hid (bx = w.heap.size) := hbx
  clear h h0 hbu
  go_enter Try.func30, Try.ntmps30
  go_wp2_with fail
  rw [← hu]
  try rw [← hbx]
  clear hu hbx
  refine Calls.mono HL.out ?_
  rintro e w1 ⟨rfl, hw⟩
  subst hw
  go_wp2
  refine bodyPost_ret (v := .tuple #[.agg #[.int .i64 0, .int .i64 0, .string ⟨#[]⟩], .bool false]) ?qres rfl ?qpost
  case qres => simp [results, Try.results30, go_sem, x0, x1, x2]
  case qpost =>
    refine ⟨rfl, HSame.out _ ?_⟩
    have e1 := HX.out
    exact ((HB.out.setCell (p := ⟨bx, 0, none⟩) (by show _ ≤ bx; omega) _).setCell (p := ⟨bx, 1, none⟩) (by show _ ≤ bx; omega) _).setCell (p := ⟨bx, 2, none⟩) (by show _ ≤ bx; omega) _

set_option maxHeartbeats 800000 in
theorem Take_yes (h : Nn w B s own n) (hn : n < 1099511627776) (k : Int) {l : Q.Lt} (hl : s.ls[Q.place k s.ls.length]? = some l) : Calls Try.prog 30 #[.pointer (some ⟨B, 0, none⟩), .int .i64 k] w fun e w' => e = .returned (.tuple #[.agg #[.int .i64 l.fr, .int .i64 l.tt, .string l.tx], .bool true]) ∧ AftQ own w w' B { s with ls := s.ls.eraseIdx (Q.place k s.ls.length) } (n + 1) := by
  have hat := (List.getElem?_eq_some_iff.1 hl).1
  obtain ⟨u, hu⟩ : ∃ u, u = w.alloc (.cells #[.int .i64 0, .int .i64 0, .string ⟨#[]⟩] 78) := ⟨_, rfl⟩
  have hbu : Below w.heap.size w u := by rw [hu]; exact below_alloc w _
  have hU := h.below hbu
  have hlen := h.len
  have HL : Hid _ := Len_c hU
  have HP : Hid _ := place_c hU (by omega) (by omega) k
  obtain ⟨g, off, c, y1, z0, z1, z2⟩ := hU.letter hl
  obtain ⟨at_, hat_⟩ : ∃ a, a = Q.place k s.ls.length := ⟨_, rfl⟩
  rw [← hat_] at HP hat z0 z1 z2 ⊢
  obtain ⟨m, hm⟩ : ∃ m, m = s.ls.length := ⟨_, rfl⟩
  have hrm : ∀ X, Below u.heap.size u X → Calls Try.prog 68 #[.pointer (some ⟨B, 0, none⟩), .int .i64 (at_ : Int)] X fun e w' => e = .returned (.tuple #[]) ∧ AftQ own X w' B { s with ls := s.ls.eraseIdx at_ } (n + 1) ∧ ∀ b o, b < X.heap.size → ¬ own b → b ≠ B → w'.cell? ⟨b, o, none⟩ = X.cell? ⟨b, o, none⟩ ∧ w'.frozen? ⟨b, o, none⟩ = X.frozen? ⟨b, o, none⟩ := by
    intro X hX
    have hwX := hbu.trans (hX.mono hbu.size)
    refine (remove_c (h.below hwX) hn at_ hat).mono ?_
    rintro e w' ⟨rfl, ha⟩
    refine ⟨rfl, ha, fun b o hb ho hne => ?_⟩
    have := ha.2.block b hb hne ho
    exact ⟨World.cell?_of_block (a := ⟨b, o, none⟩) this, World.frozen?_of_block (a := ⟨b, o, none⟩) this⟩
  have HR : Hid _ := hrm
  rw [← hm] at HL y1 hat hlen
  obtain ⟨bx, hbx⟩ : ∃ bx, bx = w.heap.size := ⟨_, rfl⟩
  have hne : ∀ b, w.heap.size ≤ b → ¬ own b ∧ b ≠ B := fun b hb => ⟨fun e => by have := (h.here b e).1; omega, by have := h.lt; omega⟩
  have HNe : Hid _ := hne
  have HX : Hid (bx = w.heap.size ∧ Below w.heap.size w u) := ⟨hbx, hbu⟩
  have HHere : Hid (B < w.heap.size ∧ ∀ k, own k → k < w.heap.size ∧ k ≠ B) := ⟨h.lt, h.here⟩
  have x0 : u.cell? ⟨bx, 0, none⟩ = some (.int .i64 0) := by rw [hu, hbx]; exact World.cell?_alloc_mark w _ _ _ 0
  have x1 : u.cell? ⟨bx, 1, none⟩ = some (.int .i64 0) := by rw [hu, hbx]; exact World.cell?_alloc_mark w _ _ _ 1
  have x2 : u.cell? ⟨bx, 2, none⟩ = some (.string ⟨#[]⟩) := by rw [hu, hbx]; exact World.cell?_alloc_mark w _ _ _ 2
  have f0 : u.frozen? ⟨bx, 0, none⟩ = false := by rw [hu, hbx, World.frozen?_alloc_mark]; simp
  have f1 : u.frozen? ⟨bx, 1, none⟩ = false := by rw [hu, hbx, World.frozen?_alloc_mark]; simp
  have f2 : u.frozen? ⟨bx, 2, none⟩ = false := by rw [hu, hbx, World.frozen?_alloc_mark]; simp
  have hlx : bx < u.heap.size := World.block_lt_of_cell? _ _ x0
  have hm0 : ¬ (m : Int) = 0 := by omega
  have ha0 : (0 : Int) ≤ (at_ : Int) := by omega
  have ham : (at_ : Int) < (m : Int) := by omega
  obtain ⟨fr, tt, tx⟩ := l
  dsimp only at z0 z1 z2 ⊢
  obtain ⟨X, hX⟩ : ∃ X, X = u.alloc (.cells #[.int .i64 fr, .int .i64 tt, .string tx] 78) := ⟨_, rfl⟩
  have hbX : Below u.heap.size u X := by rw [hX]; exact below_alloc u _
  obtain ⟨bl, hbl⟩ : ∃ bl, bl = u.heap.size := ⟨_, rfl⟩
  have HXX : Hid (Below u.heap.size u X ∧ bl = u.heap.size ∧ (∀ j, X.cell? ⟨bl, j, none⟩ = (#[.int .i64 fr, .int .i64 tt, .string tx] : Array Value)[j]?) ∧ bl < X.heap.size ∧ (∀ j, X.cell? ⟨bx, j, none⟩ = u.cell? ⟨bx, j, none⟩) ∧ (∀ j, X.frozen? ⟨bx, j, none⟩ = u.frozen? ⟨bx, j, none⟩) ∧ bx < X.heap.size) :=
    ⟨hbX, hbl, fun j => by rw [hX, hbl]; exact World.cell?_alloc_mark u _ _ _ j, by rw [hX, hbl]; simp, fun j => hbX.cell (p := ⟨bx, j, none⟩) hlx, fun j => hbX.frozen (p := ⟨bx, j, none⟩) hlx, Nat.lt_of_lt_of_le hlx hbX.size⟩
  clear h hU hbu hl hat hm hat_ hlen hn hrm hne hlx hbX
  go_enter Try.func30, Try.ntmps30
  go_wp2_with fail
  rw [← hu]
  try rw [← hbx]
  clear hu hbx
  refine Calls.mono HL.out ?_
  rintro e w1 ⟨rfl, hw⟩
  subst hw
  go_wp2_with fail
  refine Calls.mono HP.out ?_
  rintro e w1 ⟨rfl, hw⟩
  subst hw
  go_wp2_with fail
  rw [← hX]
  try rw [← hbl]
  refine (HR.out X HXX.out.1).mono ?_
  rintro e w9 ⟨rfl, ha, hk⟩
  have hl9 : ∀ j, w9.cell? ⟨bl, j, none⟩ = (#[.int .i64 fr, .int .i64 tt, .string tx] : Array Value)[j]? := fun j => by
    obtain ⟨q1, q2⟩ := HNe.out bl (by rw [HXX.out.2.1]; have := HX.out.2.size; omega)
    rw [(hk bl j HXX.out.2.2.2.1 q1 q2).1]
    exact HXX.out.2.2.1 j
  have hx9 : ∀ j, w9.cell? ⟨bx, j, none⟩ = w1.cell? ⟨bx, j, none⟩ ∧ w9.frozen? ⟨bx, j, none⟩ = w1.frozen? ⟨bx, j, none⟩ := fun j => by
    obtain ⟨q1, q2⟩ := HNe.out bx (by rw [HX.out.1]; omega)
    have := hk bx j HXX.out.2.2.2.2.2.2 q1 q2
    exact ⟨this.1.trans (HXX.out.2.2.2.2.1 j), this.2.trans (HXX.out.2.2.2.2.2.1 j)⟩
  have l0 := hl9 0
  have l1 := hl9 1
  have l2 := hl9 2
  have x0 := (hx9 0).1.trans x0
  have x1 := (hx9 1).1.trans x1
  have x2 := (hx9 2).1.trans x2
  have f0 := (hx9 0).2.trans f0
  have f1 := (hx9 1).2.trans f1
  have f2 := (hx9 2).2.trans f2
  have HA : Hid (AftQ own w (((w9.setCell ⟨bx, 0, none⟩ (.int .i64 fr)).setCell ⟨bx, 1, none⟩ (.int .i64 tt)).setCell ⟨bx, 2, none⟩ (.string tx)) B { s with ls := s.ls.eraseIdx at_ } (n + 1)) := by
    refine AftQ.boxed (HX.out.2.trans (HXX.out.1.mono HX.out.2.size)) HHere.out.1 HHere.out.2 ha (by rw [HX.out.1]; omega) HXX.out.2.2.2.2.2.2 rfl rfl rfl (by rw [size_set6, size_set6, size_set6]) (fun k hk => ?_)
    rw [Below.heap_setCell _ _ _ _ hk, Below.heap_setCell _ _ _ _ hk, Below.heap_setCell _ _ _ _ hk]
  clear hl9 hx9 ha hk y1 z0 z1 z2 hX hbl
  go_wp2
  refine bodyPost_ret (v := .tuple #[.agg #[.int .i64 fr, .int .i64 tt, .string tx], .bool true]) ?qres rfl ?qpost
  case qres => simp [results, Try.results30, go_sem, x0, x1, x2]
  case qpost => exact ⟨rfl, HA.out⟩

end
end Go.Proofs.Ytpopanfefpehnaa
