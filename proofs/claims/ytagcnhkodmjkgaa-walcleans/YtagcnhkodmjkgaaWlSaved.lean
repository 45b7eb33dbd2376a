/-
  Saved.
-/
import Derived.Test.YtagcnhkodmjkgaaWlApp
import Derived.Laws.ResultCell
namespace Go.Proofs.Ytagcnhkodmjkgaa
open Go.RowKit

/-- What is saved, by value. -/
def savV (s : W.Sv) (v : Value) : Value := .agg #[.int .i64 s.term, .int .i64 s.vote, .int .i64 s.base, .int .i64 s.bterm, .string s.data, v]

theorem clone_all {w : World} {v : Value} {l : List (Int × ByteArray)} (he : EntV w v l) (hlen : l.length ≤ 1099511627776) :
    ∀ u, Old w u → Calls Try.prog 47 #[v] u fun e w' =>
      ∃ v', e = .returned v' ∧ EntV w' v' l ∧ Below u.heap.size u w' ∧ ∀ q, rowBlk v' = some q → u.heap.size ≤ q := by
  intro u hu
  obtain ⟨p, c, hv, _⟩ := he.form
  have := clone_rest he hlen 0 (Nat.zero_le _) p l.length c hv u hu p (by
    split
    · rfl
    · cases p
      · rfl
      · rename_i a
        show some a = some (a.add (0 * 2))
        rw [Nat.zero_mul]
        unfold Addr.add
        rw [if_pos rfl])
  rw [Nat.sub_zero, Nat.sub_zero, List.drop_zero, ← hv] at this
  exact this

set_option maxHeartbeats 400000 in
theorem Saved_no {w : World} {p : Pl} {s : St} {own : Nat → Prop} (h : Lg w p s own) (g : Int) (hg : W.isGroup g = false) :
    Calls Try.prog 23 #[.pointer (some ⟨p.L, 0, none⟩), .int .i64 g] w fun e w' => e = .returned (.tuple #[.agg #[.int .i64 0, .int .i64 0, .int .i64 0, .int .i64 0, .string ⟨#[]⟩, .slice none 0 0], .int .i64 1]) ∧ Below w.heap.size w w' := by
  have HM : Hid (∀ u, Below w.heap.size w u → Calls Try.prog 30 #[.pointer (some ⟨p.L, 0, none⟩)] u fun e w' => e = .returned (.bool true) ∧ w' = u) := fun u hu => made_c (h.below hu)
  have HG : Hid _ := isGroup_c g
  rw [hg] at HG
  clear h hg
  go_enter Try.func23, Try.ntmps23
  go_wp2_with fail
  refine Calls.mono (HM.out _ (below_alloc _ _)) ?_
  rintro e w1 ⟨rfl, hw⟩
  subst hw
  go_wp2_with fail
  refine Calls.mono (HG.out _) ?_
  rintro e w1 ⟨rfl, hw⟩
  subst hw
  go_wp2
  refine bodyPost_ret (v := .tuple #[.agg #[.int .i64 0, .int .i64 0, .int .i64 0, .int .i64 0, .string ⟨#[]⟩, .slice none 0 0], .int .i64 1]) ?qres rfl ?qpost
  case qres => simp [results, Try.results23, go_sem]
  case qpost => exact ⟨rfl, below_alloc _ _⟩

set_option maxHeartbeats 800000 in
set_option maxRecDepth 20000 in
theorem Saved_c {w : World} {p : Pl} {s : St} {own : Nat → Prop} (h : Lg w p s own) (g : Nat) (g9 : g < 9) :
    Calls Try.prog 23 #[.pointer (some ⟨p.L, 0, none⟩), .int .i64 (g : Int)] w fun e w' => ∃ v', e = .returned (.tuple #[savV (s.gs g) v', .int .i64 0]) ∧ EntV w' v' (s.gs g).ents ∧ Below w.heap.size w w' ∧ ∀ q, rowBlk v' = some q → w.heap.size ≤ q := by
  have HM : Hid (∀ u, Below w.heap.size w u → Calls Try.prog 30 #[.pointer (some ⟨p.L, 0, none⟩)] u fun e w' => e = .returned (.bool true) ∧ w' = u) := fun u hu => made_c (h.below hu)
  have HG : Hid _ := isGroup_c (g : Int)
  rw [W.isGroup_iff.2 ⟨by omega, by omega⟩] at HG
  obtain ⟨dk, E, h⟩ := h
  have hlt := h.lt
  have q := h.sv g g9
  have HC : Hid _ := clone_all (h.ent g g9) (by
    have := (h.ok g).last
    have := (h.ok g).base
    unfold W.last at *
    omega)
  obtain ⟨pp, c, hv, _⟩ := (h.ent g g9).form
  have x0 := q.c0
  have x1 := q.c1
  have x2 := q.c2
  have x3 := q.c3
  have x4 := q.c4
  have x5 := q.c5
  rw [hv] at x5 HC
  unfold savV
  obtain ⟨sv, hsv⟩ : ∃ sv, sv = s.gs g := ⟨_, rfl⟩
  rw [← hsv] at x0 x1 x2 x3 x4 x5 HC ⊢
  clear q hv hsv
  obtain ⟨t, v, bs, bt, dt, es⟩ := sv
  dsimp only at x0 x1 x2 x3 x4 x5 HC ⊢
  obtain ⟨n, hn⟩ : ∃ n, n = es.length := ⟨_, rfl⟩
  rw [← hn] at x5 HC
  obtain ⟨L, hL⟩ : ∃ L, L = p.L := ⟨_, rfl⟩
  rw [← hL] at x0 x1 x2 x3 x4 x5 hlt HM ⊢
  have hg0 : (0 : Int) ≤ (g : Int) := by omega
  have hg9' : (g : Int) < 9 := by omega
  clear h hn hL
  go_enter Try.func23, Try.ntmps23
  go_wp2_with fail
  refine Calls.mono (HM.out _ (below_alloc _ _)) ?_
  rintro e w1 ⟨rfl, hw⟩
  subst hw
  go_wp2_with fail
  refine Calls.mono (HG.out _) ?_
  rintro e w1 ⟨rfl, hw⟩
  subst hw
  go_wp2_with fail
  obtain ⟨u, hu⟩ : ∃ u, u = (w.alloc (.cells #[.int .i64 0, .int .i64 0, .int .i64 0, .int .i64 0, .string ⟨#[]⟩, .slice none 0 0] 45)).alloc (.cells #[.int .i64 t, .int .i64 v, .int .i64 bs, .int .i64 bt, .string dt, .slice pp n c] 45) := ⟨_, rfl⟩
  obtain ⟨a, ha⟩ : ∃ a, a = w.heap.size := ⟨_, rfl⟩
  have hus : u.heap.size = a + 2 := by rw [hu, ha]; simp
  have hBu : Below w.heap.size w u := by rw [hu]; exact (below_alloc _ _).trans ((below_alloc _ _).mono (by simp))
  have ua : ∀ j, u.cell? ⟨a, j, none⟩ = (#[.int .i64 0, .int .i64 0, .int .i64 0, .int .i64 0, .string ⟨#[]⟩, .slice none 0 0] : Array Value)[j]? := by
    intro j
    rw [hu, ha, World.cell?_alloc_lt _ _ _ (by simp)]
    exact World.cell?_alloc_mark w _ _ _ j
  have ub : ∀ j, u.cell? ⟨a + 1, j, none⟩ = (#[.int .i64 t, .int .i64 v, .int .i64 bs, .int .i64 bt, .string dt, .slice pp n c] : Array Value)[j]? := by
    intro j
    have e := World.cell?_alloc_mark (w.alloc (.cells #[.int .i64 0, .int .i64 0, .int .i64 0, .int .i64 0, .string ⟨#[]⟩, .slice none 0 0] 45)) #[.int .i64 t, .int .i64 v, .int .i64 bs, .int .i64 bt, .string dt, .slice pp n c] 45 (0, 0) j
    rw [← e, hu, ha]
    simp
  have fa : ∀ j, u.frozen? ⟨a, j, none⟩ = false := by
    intro j
    rw [hu, ha, World.frozen?_alloc_old _ _ _ (by simp), World.frozen?_alloc_mark]
    simp
  have fb : ∀ j, u.frozen? ⟨a + 1, j, none⟩ = false := by
    intro j
    rw [hu, ha]
    simp [go_sem]
  have HBu : Hid _ := hBu
  have Ha : Hid (a = w.heap.size) := ha
  rw [← hu, ← ha]
  clear hu ha hBu x0 x1 x2 x3 x4 x5
  refine Calls.mono (HC.out _ (fun k hk => HBu.out.block k hk)) ?_
  rintro e w3 ⟨v', rfl, hen, hb, hrb⟩
  have la : a < u.heap.size := by omega
  have lb : a + 1 < u.heap.size := by omega
  have ca : ∀ j, w3.cell? ⟨a, j, none⟩ = (#[.int .i64 0, .int .i64 0, .int .i64 0, .int .i64 0, .string ⟨#[]⟩, .slice none 0 0] : Array Value)[j]? := fun j => (hb.cell (p := ⟨a, j, none⟩) la).trans (ua j)
  have cb : ∀ j, w3.cell? ⟨a + 1, j, none⟩ = (#[.int .i64 t, .int .i64 v, .int .i64 bs, .int .i64 bt, .string dt, .slice pp n c] : Array Value)[j]? := fun j => (hb.cell (p := ⟨a + 1, j, none⟩) lb).trans (ub j)
  have ga : ∀ j, w3.frozen? ⟨a, j, none⟩ = false := fun j => (hb.frozen (p := ⟨a, j, none⟩) la).trans (fa j)
  have gb : ∀ j, w3.frozen? ⟨a + 1, j, none⟩ = false := fun j => (hb.frozen (p := ⟨a + 1, j, none⟩) lb).trans (fb j)
  have a0 : w3.cell? ⟨a, 0, none⟩ = some (.int .i64 0) := ca 0
  have a1 : w3.cell? ⟨a, 1, none⟩ = some (.int .i64 0) := ca 1
  have a2 : w3.cell? ⟨a, 2, none⟩ = some (.int .i64 0) := ca 2
  have a3 : w3.cell? ⟨a, 3, none⟩ = some (.int .i64 0) := ca 3
  have a4 : w3.cell? ⟨a, 4, none⟩ = some (.string ⟨#[]⟩) := ca 4
  have a5 : w3.cell? ⟨a, 5, none⟩ = some (.slice none 0 0) := ca 5
  have b0 : w3.cell? ⟨a + 1, 0, none⟩ = some (.int .i64 t) := cb 0
  have b1 : w3.cell? ⟨a + 1, 1, none⟩ = some (.int .i64 v) := cb 1
  have b2 : w3.cell? ⟨a + 1, 2, none⟩ = some (.int .i64 bs) := cb 2
  have b3 : w3.cell? ⟨a + 1, 3, none⟩ = some (.int .i64 bt) := cb 3
  have b4 : w3.cell? ⟨a + 1, 4, none⟩ = some (.string dt) := cb 4
  have b5 : w3.cell? ⟨a + 1, 5, none⟩ = some (.slice pp n c) := cb 5
  have HX : Hid (EntV w3 v' es ∧ (∀ q, rowBlk v' = some q → a + 2 ≤ q) ∧ Below w.heap.size w w3) := ⟨hen, by rw [← hus]; exact hrb, HBu.out.trans (hb.mono HBu.out.size)⟩
  obtain ⟨p', c', hv', _⟩ := hen.form
  obtain ⟨n', hn'⟩ : ∃ n', n' = es.length := ⟨_, rfl⟩
  rw [← hn'] at hv'
  subst hv'
  clear hen hb hrb ca cb ua ub fa fb la lb hus hn'
  go_wp2
  refine bodyPost_ret (v := .tuple #[.agg #[.int .i64 t, .int .i64 v, .int .i64 bs, .int .i64 bt, .string dt, .slice p' n' c'], .int .i64 0]) ?qres rfl ?qpost
  case qres => simp [results, Try.results23, go_sem, a0, a1, a2, a3, a4, a5]
  case qpost =>
    obtain ⟨h1, h2, h3⟩ := HX.out
    have e := Ha.out
    refine ⟨_, rfl, RowV.carry h1 (fun q hq => ?_), ?_, fun q hq => by have := h2 q hq; omega⟩
    · have := h2 q hq
      rw [Below.heap_setCell _ _ _ _ (by show q ≠ a; omega), Below.heap_setCell _ _ _ _ (by show q ≠ a; omega), Below.heap_setCell _ _ _ _ (by show q ≠ a; omega), Below.heap_setCell _ _ _ _ (by show q ≠ a; omega), Below.heap_setCell _ _ _ _ (by show q ≠ a; omega), Below.heap_setCell _ _ _ _ (by show q ≠ a; omega), Below.heap_setCell _ _ _ _ (by show q ≠ a + 1; omega)]
    · exact ((((((h3.setCell (by show _ ≤ a + 1; omega) _).setCell (by show _ ≤ a; omega) _).setCell (by show _ ≤ a; omega) _).setCell (by show _ ≤ a; omega) _).setCell (by show _ ≤ a; omega) _).setCell (by show _ ≤ a; omega) _).setCell (by show _ ≤ a; omega) _

end Go.Proofs.Ytagcnhkodmjkgaa
