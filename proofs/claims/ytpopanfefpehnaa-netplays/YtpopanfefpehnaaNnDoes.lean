/-
  The law's 'does': Put, Twice, Cut on both sides.
-/
import Derived.Test.YtpopanfefpehnaaNnRef5
namespace Go.Proofs.Ytpopanfefpehnaa
open Go.RowKit

/-- A net and the document's list beside it. -/
def Pn (w X : World) (B : Nat) (s : Q.St) (n : Nat) (v : Value) (loc : Nat → Prop) : Prop := Nf w X B s n loc ∧ Ls X v s.ls ∧ ∀ k, cBlk v = some k → loc k

/-- What a call of both leaves. -/
def PnE (w X Y : World) (B : Nat) (s' : Q.St) (n : Nat) (v' : Value) (loc : Nat → Prop) (v : Value) : Prop := ∃ loc', Pn w Y B s' (n + 1) v' loc' ∧ (∀ k, loc k → loc' k) ∧ (∀ k, loc k → Y.heap[k]? = X.heap[k]?) ∧ ∀ k, cBlk v' = some k → cBlk v = some k ∨ X.heap.size ≤ k

/-- The boxes of 'does'. -/
structure Bx (be : Nat) (most : Int) (v : Value) (o : Array Value) (Z : World) : Prop where
  q0 : Z.cell? ⟨be, 0, none⟩ = some (.int .i64 most)
  q1 : Z.cell? ⟨be, 1, none⟩ = some v
  op : ∀ j, Z.cell? ⟨be + 1, j, none⟩ = o[j]?
  r0 : Z.cell? ⟨be + 2, 0, none⟩ = some (.int .i64 0)
  r1 : Z.cell? ⟨be + 2, 1, none⟩ = some (.slice none 0 0)
  fr : ∀ j, Z.frozen? ⟨be + 2, j, none⟩ = false

theorem Bx.keep {be : Nat} {most : Int} {v : Value} {o : Array Value} {X Y : World} (h : Bx be most v o X) (h0 : Y.heap[be]? = X.heap[be]?) (h1 : Y.heap[be + 1]? = X.heap[be + 1]?) (h2 : Y.heap[be + 2]? = X.heap[be + 2]?) : Bx be most v o Y :=
  ⟨(World.cell?_of_block (a := ⟨be, 0, none⟩) h0).trans h.q0, (World.cell?_of_block (a := ⟨be, 1, none⟩) h0).trans h.q1, fun j => (World.cell?_of_block (a := ⟨be + 1, j, none⟩) h1).trans (h.op j), (World.cell?_of_block (a := ⟨be + 2, 0, none⟩) h2).trans h.r0, (World.cell?_of_block (a := ⟨be + 2, 1, none⟩) h2).trans h.r1, fun j => (World.frozen?_of_block (a := ⟨be + 2, j, none⟩) h2).trans (h.fr j)⟩
theorem Bx.below {be : Nat} {most : Int} {v : Value} {o : Array Value} {X Y : World} (h : Bx be most v o X) (hb : Below X.heap.size X Y) : Bx be most v o Y := by
  have h2 : be + 2 < X.heap.size := World.block_lt_of_cell? _ _ h.r0
  exact h.keep (hb.block be (by omega)) (hb.block (be + 1) (by omega)) (hb.block (be + 2) h2)

theorem cell_new (A : World) (vs : Array Value) (t : TypeId) {b : Nat} (hb : A.heap.size = b) (j : Nat) : (A.alloc (.cells vs t)).cell? ⟨b, j, none⟩ = vs[j]? ∧ (A.alloc (.cells vs t)).frozen? ⟨b, j, none⟩ = false := by
  subst hb
  exact ⟨World.cell?_alloc_mark A vs t _ j, by rw [World.frozen?_alloc_mark]; simp⟩

theorem Bx.start (X : World) (most : Int) (v : Value) (o : Array Value) : Bx X.heap.size most v o (((X.alloc (.cells #[.int .i64 most, v] 29)).alloc (.cells o 34)).alloc (.cells #[.int .i64 0, .slice none 0 0] 29)) := by
  obtain ⟨A, hA⟩ : ∃ A, A = X.alloc (.cells #[.int .i64 most, v] 29) := ⟨_, rfl⟩
  have sA : A.heap.size = X.heap.size + 1 := by rw [hA]; simp
  have cA := fun j => (cell_new X #[.int .i64 most, v] 29 rfl j).1
  rw [← hA] at cA ⊢
  obtain ⟨A2, hA2⟩ : ∃ A2, A2 = A.alloc (.cells o 34) := ⟨_, rfl⟩
  have sA2 : A2.heap.size = X.heap.size + 2 := by rw [hA2]; simp; omega
  have cA2 := fun j => (cell_new A o 34 sA j).1
  have b2 : Below A.heap.size A A2 := by rw [hA2]; exact below_alloc _ _
  rw [← hA2] at cA2 ⊢
  have cA3 := fun j => cell_new A2 #[.int .i64 0, .slice none 0 0] 29 sA2 j
  have b3 := below_alloc A2 (.cells #[.int .i64 0, .slice none 0 0] 29)
  have c0 : ∀ j, (A2.alloc (.cells #[.int .i64 0, .slice none 0 0] 29)).cell? ⟨X.heap.size, j, none⟩ = (#[.int .i64 most, v] : Array Value)[j]? := fun j =>
    (b3.cell (p := ⟨X.heap.size, j, none⟩) (by show X.heap.size < _; omega)).trans ((b2.cell (p := ⟨X.heap.size, j, none⟩) (by show X.heap.size < _; omega)).trans (cA j))
  have c1 : ∀ j, (A2.alloc (.cells #[.int .i64 0, .slice none 0 0] 29)).cell? ⟨X.heap.size + 1, j, none⟩ = o[j]? := fun j =>
    (b3.cell (p := ⟨X.heap.size + 1, j, none⟩) (by show X.heap.size + 1 < _; omega)).trans (cA2 j)
  exact ⟨c0 0, c0 1, c1, (cA3 0).1, (cA3 1).1, fun j => (cA3 j).2⟩

theorem does_post {w X w4 w5 w6 : World} {B n be : Nat} {s s' : Q.St} {v v' : Value} {loc : Nat → Prop} (h : Pn w X B s n v loc) (hbe : be = X.heap.size) (hro : Ls w4 v' s'.ls) (hb4 : Below X.heap.size X w4) (hv : ∀ k, cBlk v' = some k → cBlk v = some k ∨ be + 3 ≤ k) (hb5 : Below w4.heap.size w4 w5)
    (hnf : Nf w w6 B s' (n + 1) (fun k => loc k ∨ (X.heap.size ≤ k ∧ k < w5.heap.size))) (hk6 : ∀ k, (loc k ∨ (X.heap.size ≤ k ∧ k < w5.heap.size)) → w6.heap[k]? = w5.heap[k]?) (h3 : be + 2 < w5.heap.size) (a b : Value) : PnE w X (fin2 w6 (be + 2) a b) B s' n v' loc v := by
  have hX := h.1.old.size
  have hs4 := hb4.size
  have hs5 := hb5.size
  have hvl : ∀ k, cBlk v' = some k → (loc k ∨ (X.heap.size ≤ k ∧ k < w5.heap.size)) ∧ k ≠ be + 2 ∧ k < w4.heap.size := fun k hk => by
    have hk4 : k < w4.heap.size := RowC.lt hro (by omega) hk
    rcases hv k hk with q | q
    · have ql := h.2.2 k q
      have := h.1.lloc ql
      exact ⟨.inl ql, by omega, hk4⟩
    · exact ⟨.inr ⟨by omega, by omega⟩, by omega, hk4⟩
  refine ⟨_, ⟨(hnf.set (be + 2) 0 (.inr ⟨by omega, h3⟩) (by omega) a).set (be + 2) 1 (.inr ⟨by omega, h3⟩) (by omega) b, RowC.carry hro (fun k hk => ?_), fun k hk => (hvl k hk).1⟩, fun k hk => .inl hk, fun k hk => ?_, fun k hk => by
    rcases hv k hk with q | q
    · exact .inl q
    · exact .inr (by omega)⟩
  · obtain ⟨q1, q2, q3⟩ := hvl k hk
    rw [fin2_other q2, hk6 k q1]
    exact hb5.block k q3
  · have hlt := h.1.lloc hk
    rw [fin2_other (by omega), hk6 k (.inl hk), hb5.block k (by omega)]
    exact hb4.block k hlt

section
variable {w X : World} {B n : Nat} {most : Int} {ls : List Q.Lt} {v : Value} {loc : Nat → Prop}

set_option maxHeartbeats 1600000 in
set_option maxRecDepth 20000 in
theorem does_Put (h : Pn w X B ⟨most, ls⟩ n v loc) (hn : n < 1099511627775) (a b : Int) (tx : ByteArray) (ha : In64 a) (hb : In64 b) (htx : tx.size ≤ 9223372036854775807) :
    Calls Try.prog 12 #[.pointer (some ⟨B, 0, none⟩), .agg #[.int .i64 most, v], .agg #[.int .i64 1, .int .i64 a, .int .i64 b, .string tx]] X fun e Y => ∃ v', e = .returned (.tuple #[.agg #[.int .i64 most, v'], .bool true]) ∧ PnE w X Y B (Q.put ⟨most, ls⟩ ⟨a, b, tx⟩) n v' loc v := by
  obtain ⟨s', hs'⟩ : ∃ s', s' = Q.put ⟨most, ls⟩ ⟨a, b, tx⟩ := ⟨_, rfl⟩
  obtain ⟨E, hE⟩ : ∃ E, E = Q.putE ⟨most, ls⟩ ⟨a, b, tx⟩ := ⟨_, rfl⟩
  have hlen : ls.length ≤ 1099511627775 := by have q : ls.length ≤ n := h.1.len; omega
  obtain ⟨be, hbe⟩ : ∃ be, be = X.heap.size := ⟨_, rfl⟩
  obtain ⟨p, c, hv0, hc1, hc2⟩ := RowC.form h.2.1
  obtain ⟨m, hm⟩ : ∃ m, m = ls.length := ⟨_, rfl⟩
  have hv : v = .slice p m c := by rw [hm]; exact hv0
  clear hv0
  rw [hv] at h ⊢
  have hx := Bx.start X most (.slice p m c) #[.int .i64 1, .int .i64 a, .int .i64 b, .string tx]
  obtain ⟨W3, hW3⟩ : ∃ W3, W3 = ((X.alloc (.cells #[.int .i64 most, .slice p m c] 29)).alloc (.cells #[.int .i64 1, .int .i64 a, .int .i64 b, .string tx] 34)).alloc (.cells #[.int .i64 0, .slice none 0 0] 29) := ⟨_, rfl⟩
  have hb3 : Below X.heap.size X W3 := by rw [hW3]; exact ((below_alloc _ _).trans ((below_alloc _ _).mono (by simp))).trans ((below_alloc _ _).mono (by simp; omega))
  have hs3 : W3.heap.size = be + 3 := by rw [hW3, hbe]; simp
  rw [← hbe, ← hW3] at hx
  have HR : Hid (Calls Try.prog 31 #[.agg #[.int .i64 most, .slice p m c], .agg #[.int .i64 a, .int .i64 b, .string tx]] W3 fun e w' => ∃ v', e = .returned (.tuple #[.agg #[.int .i64 most, v'], .int .i64 E]) ∧ ROut W3 (.slice p m c) w' v' s'.ls) := by
    rw [hs', hE]
    exact rPut_c (h.2.1.below hb3) hlen most ⟨a, b, tx⟩ htx
  have HD : Hid (∀ Z loc', Nf w Z B ⟨most, ls⟩ n loc' → Calls Try.prog 29 #[.pointer (some ⟨B, 0, none⟩), .agg #[.int .i64 a, .int .i64 b, .string tx]] Z fun e Y => e = .returned (.int .i64 E) ∧ Nf w Y B s' (n + 1) loc' ∧ (∀ k, loc' k → Y.heap[k]? = Z.heap[k]?) ∧ Z.heap.size ≤ Y.heap.size) := fun Z loc' hZ => by
    rw [hs', hE]
    exact hZ.put (by omega) a b tx ⟨ha, hb⟩ htx
  have HP : Hid (Pn w X B ⟨most, ls⟩ n (.slice p m c) loc) := h
  have HW : Hid (be = X.heap.size ∧ Below X.heap.size X W3 ∧ W3.heap.size = be + 3) := ⟨hbe, hb3, hs3⟩
  have HX : Hid (Bx be most (.slice p m c) #[.int .i64 1, .int .i64 a, .int .i64 b, .string tx] W3) := hx
  obtain ⟨x0, x1, xo, y0, y1, yf⟩ := hx
  have o0 : W3.cell? ⟨be + 1, 0, none⟩ = some (.int .i64 1) := xo 0
  have o1 : W3.cell? ⟨be + 1, 1, none⟩ = some (.int .i64 a) := xo 1
  have o2 : W3.cell? ⟨be + 1, 2, none⟩ = some (.int .i64 b) := xo 2
  have o3 : W3.cell? ⟨be + 1, 3, none⟩ = some (.string tx) := xo 3
  have HE : Hid (W3 = ((X.alloc (.cells #[.int .i64 most, .slice p m c] 29)).alloc (.cells #[.int .i64 1, .int .i64 a, .int .i64 b, .string tx] 34)).alloc (.cells #[.int .i64 0, .slice none 0 0] 29) ∧ be = X.heap.size) := ⟨hW3, hbe⟩
  have HS : Hid (s' = Q.put ⟨most, ls⟩ ⟨a, b, tx⟩) := hs'
  clear h hs' hE hlen hbe hc1 hc2 hm hv hW3 hb3 hs3 xo yf ha hb htx hn y0 y1
  go_enter Try.func12, Try.ntmps12
  go_wp2_with fail
  rw [← HE.out.1, ← HE.out.2]
  refine Calls.mono HR.out ?_
  rintro e w4 ⟨v', rfl, hro⟩
  obtain ⟨p', c', hv0, _⟩ := RowC.form hro.1
  obtain ⟨m', hm'⟩ : ∃ m', m' = s'.ls.length := ⟨_, rfl⟩
  have hv' : v' = .slice p' m' c' := by rw [hm']; exact hv0
  clear hv0
  subst hv'
  obtain ⟨et, het⟩ : ∃ et, et = w4.heap.size := ⟨_, rfl⟩
  obtain ⟨w5, hw5⟩ : ∃ w5, w5 = w4.alloc (.cells #[.int .i64 most, .slice p' m' c'] 29) := ⟨_, rfl⟩
  have hb5 : Below w4.heap.size w4 w5.drew := by rw [hw5]; exact (below_alloc _ _).drew
  have hs5 : w5.drew.heap.size = et + 1 := by rw [hw5, het]; show (w4.alloc _).heap.size = _; simp
  have n0 : w5.drew.cell? ⟨et, 0, none⟩ = some (.int .i64 most) := by rw [cell_drew, hw5, het]; exact World.cell?_alloc_mark w4 _ _ _ 0
  have n1 : w5.drew.cell? ⟨et, 1, none⟩ = some (.slice p' m' c') := by rw [cell_drew, hw5, het]; exact World.cell?_alloc_mark w4 _ _ _ 1
  have hb34 := hro.2.1
  have hb04 : Below X.heap.size X w4 := HW.out.2.1.trans (hb34.mono HW.out.2.1.size)
  have hb05 : Below X.heap.size X w5.drew := hb04.trans (hb5.mono hb04.size)
  have hs34 := hb34.size
  have hx5 : Bx be most (.slice p m c) #[.int .i64 1, .int .i64 a, .int .i64 b, .string tx] w5.drew := (HX.out.below hb34).below hb5
  have HB : Hid (Below X.heap.size X w4 ∧ Below w4.heap.size w4 w5.drew ∧ be + 2 < w5.drew.heap.size ∧ Ls w4 (.slice p' m' c') s'.ls ∧ ∀ k, cBlk (.slice p' m' c') = some k → cBlk (.slice p m c) = some k ∨ be + 3 ≤ k) := ⟨hb04, hb5, by have := HW.out.2.2; omega, hro.1, fun k hk => by
    rcases hro.2.2 k hk with q | q
    · exact .inl q
    · exact .inr (by have := HW.out.2.2; omega)⟩
  have HNf : Hid (Nf w w5.drew B ⟨most, ls⟩ n (fun k => loc k ∨ (X.heap.size ≤ k ∧ k < w5.drew.heap.size))) := HP.out.1.grow hb05
  have HDa : Hid (Calls Try.prog 29 #[.pointer (some ⟨B, 0, none⟩), .agg #[.int .i64 a, .int .i64 b, .string tx]] w5.drew fun e Y => e = .returned (.int .i64 E) ∧ Hid (Nf w Y B s' (n + 1) (fun k => loc k ∨ (X.heap.size ≤ k ∧ k < w5.drew.heap.size)) ∧ (∀ k, (loc k ∨ (X.heap.size ≤ k ∧ k < w5.drew.heap.size)) → Y.heap[k]? = w5.drew.heap[k]?)) ∧ Hid (Y.heap[et]? = w5.drew.heap[et]? ∧ Y.heap[be + 1]? = w5.drew.heap[be + 1]?) ∧ Bx be most (.slice p m c) #[.int .i64 1, .int .i64 a, .int .i64 b, .string tx] Y) := by
    refine (HD.out _ _ HNf.out).mono ?_
    rintro e Y ⟨rfl, q1, q2, q3⟩
    have e1 := HW.out.1
    have e2 := HW.out.2.2
    exact ⟨rfl, ⟨q1, q2⟩, ⟨q2 et (.inr ⟨by omega, by omega⟩), q2 (be + 1) (.inr ⟨by omega, by omega⟩)⟩, hx5.keep (q2 be (.inr ⟨by omega, by omega⟩)) (q2 (be + 1) (.inr ⟨by omega, by omega⟩)) (q2 (be + 2) (.inr ⟨by omega, by omega⟩))⟩
  have HKb : Hid (∀ Z : World, Hid (Z.heap[et]? = w5.drew.heap[et]? ∧ Z.heap[be + 1]? = w5.drew.heap[be + 1]?) → Z.cell? ⟨et, 0, none⟩ = some (.int .i64 most) ∧ Z.cell? ⟨et, 1, none⟩ = some (.slice p' m' c') ∧ Z.cell? ⟨be + 1, 1, none⟩ = some (.int .i64 a) ∧ Z.cell? ⟨be + 1, 2, none⟩ = some (.int .i64 b) ∧ Z.cell? ⟨be + 1, 3, none⟩ = some (.string tx)) := fun Z hZ =>
    ⟨(World.cell?_of_block (a := ⟨et, 0, none⟩) hZ.out.1).trans n0, (World.cell?_of_block (a := ⟨et, 1, none⟩) hZ.out.1).trans n1, (World.cell?_of_block (a := ⟨be + 1, 1, none⟩) hZ.out.2).trans (hx5.op 1), (World.cell?_of_block (a := ⟨be + 1, 2, none⟩) hZ.out.2).trans (hx5.op 2), (World.cell?_of_block (a := ⟨be + 1, 3, none⟩) hZ.out.2).trans (hx5.op 3)⟩
  have HLt : Hid (be + 2 < et) := by have := HW.out.2.2; show _ < _; omega
  have HKc : Hid (∀ (Z : World) (x y : Value), Hid (Z.heap[et]? = w5.drew.heap[et]? ∧ Z.heap[be + 1]? = w5.drew.heap[be + 1]?) → (fin2 Z (be + 2) x y).cell? ⟨et, 0, none⟩ = some (.int .i64 most) ∧ (fin2 Z (be + 2) x y).cell? ⟨et, 1, none⟩ = some (.slice p' m' c') ∧ (fin2 Z (be + 2) x y).cell? ⟨be + 1, 1, none⟩ = some (.int .i64 a) ∧ (fin2 Z (be + 2) x y).cell? ⟨be + 1, 2, none⟩ = some (.int .i64 b) ∧ (fin2 Z (be + 2) x y).cell? ⟨be + 1, 3, none⟩ = some (.string tx)) := fun Z x y hZ => by
    have := HLt.out
    exact HKb.out _ ⟨by rw [fin2_other (by omega)]; exact hZ.out.1, by rw [fin2_other (by omega)]; exact hZ.out.2⟩
  have HK0 : Hid _ := HKb.out w5.drew ⟨rfl, rfl⟩
  clear hro hm' hb5 hs5 n0 n1 hb34 hb04 hb05 hs34 hx5 HNf HD HR x0 x1 o0 o1 o2 o3
  go_wp2
  rw [← hw5, ← het]
  clear hw5 het
  go_wp2
  go_region_held (fun Z => Z.cell? ⟨et, 0, none⟩ = some (.int .i64 most) ∧ Z.cell? ⟨et, 1, none⟩ = some (.slice p' m' c') ∧ Z.cell? ⟨be + 1, 1, none⟩ = some (.int .i64 a) ∧ Z.cell? ⟨be + 1, 2, none⟩ = some (.int .i64 b) ∧ Z.cell? ⟨be + 1, 3, none⟩ = some (.string tx))
    (first | exact HK0.out | exact HKb.out _ (by assumption) | exact HKc.out _ _ _ (by assumption))
    (first | (go_at_call 29; refine Calls.mono HDa.out ?_; rintro e w6 ⟨rfl, hq6, hq1, hx6⟩; have z0 := hx6.r0; have z1 := hx6.r1; have f0 := hx6.fr 0; have f1 := hx6.fr 1; clear hx6))
  all_goals
    go_wp2
    obtain ⟨t0, t1⟩ := fin2_cells z0 z1 (.int .i64 most) (.slice p' m' c')
    unfold fin2 at t0 t1
    refine bodyPost_ret (v := .tuple #[.agg #[.int .i64 most, .slice p' m' c'], .bool true]) ?qres rfl ?qpost
    case qres => simp [results, Try.results12, go_sem, t0, t1]
    case qpost => exact ⟨_, rfl, by rw [← HS.out]; exact does_post HP.out HW.out.1 HB.out.2.2.2.1 HB.out.1 HB.out.2.2.2.2 HB.out.2.1 hq6.out.1 hq6.out.2 HB.out.2.2.1 _ _⟩

set_option maxHeartbeats 1600000 in
set_option maxRecDepth 20000 in
theorem does_Twice (h : Pn w X B ⟨most, ls⟩ n v loc) (hn : n < 1099511627775) (a b : Int) (tx : ByteArray) :
    Calls Try.prog 12 #[.pointer (some ⟨B, 0, none⟩), .agg #[.int .i64 most, v], .agg #[.int .i64 3, .int .i64 a, .int .i64 b, .string tx]] X fun e Y => ∃ v', e = .returned (.tuple #[.agg #[.int .i64 most, v'], .bool true]) ∧ PnE w X Y B (twS ⟨most, ls⟩ a) n v' loc v := by
  obtain ⟨s', hs'⟩ : ∃ s', s' = twS ⟨most, ls⟩ a := ⟨_, rfl⟩
  obtain ⟨E, hE⟩ : ∃ E, E = twB ⟨most, ls⟩ a := ⟨_, rfl⟩
  have hlen : ls.length ≤ 1099511627775 := by have q : ls.length ≤ n := h.1.len; omega
  obtain ⟨be, hbe⟩ : ∃ be, be = X.heap.size := ⟨_, rfl⟩
  obtain ⟨p, c, hv0, hc1, hc2⟩ := RowC.form h.2.1
  obtain ⟨m, hm⟩ : ∃ m, m = ls.length := ⟨_, rfl⟩
  have hv : v = .slice p m c := by rw [hm]; exact hv0
  clear hv0
  rw [hv] at h ⊢
  have hx := Bx.start X most (.slice p m c) #[.int .i64 3, .int .i64 a, .int .i64 b, .string tx]
  obtain ⟨W3, hW3⟩ : ∃ W3, W3 = ((X.alloc (.cells #[.int .i64 most, .slice p m c] 29)).alloc (.cells #[.int .i64 3, .int .i64 a, .int .i64 b, .string tx] 34)).alloc (.cells #[.int .i64 0, .slice none 0 0] 29) := ⟨_, rfl⟩
  have hb3 : Below X.heap.size X W3 := by rw [hW3]; exact ((below_alloc _ _).trans ((below_alloc _ _).mono (by simp))).trans ((below_alloc _ _).mono (by simp; omega))
  have hs3 : W3.heap.size = be + 3 := by rw [hW3, hbe]; simp
  rw [← hbe, ← hW3] at hx
  have HR : Hid (Calls Try.prog 33 #[.agg #[.int .i64 most, .slice p m c], .int .i64 a] W3 fun e w' => ∃ v', e = .returned (.tuple #[.agg #[.int .i64 most, v'], .bool E]) ∧ ROut W3 (.slice p m c) w' v' s'.ls) := by
    rw [hs', hE]
    exact rTwice_c (h.2.1.below hb3) hlen most a h.1.ok.ls
  have HD : Hid (∀ Z loc', Nf w Z B ⟨most, ls⟩ n loc' → Calls Try.prog 34 #[.pointer (some ⟨B, 0, none⟩), .int .i64 a] Z fun e Y => e = .returned (.bool E) ∧ Nf w Y B s' (n + 1) loc' ∧ (∀ k, loc' k → Y.heap[k]? = Z.heap[k]?) ∧ Z.heap.size ≤ Y.heap.size) := fun Z loc' hZ => by
    rw [hs', hE]
    exact hZ.twice (by omega) a
  have HP : Hid (Pn w X B ⟨most, ls⟩ n (.slice p m c) loc) := h
  have HW : Hid (be = X.heap.size ∧ Below X.heap.size X W3 ∧ W3.heap.size = be + 3) := ⟨hbe, hb3, hs3⟩
  have HX : Hid (Bx be most (.slice p m c) #[.int .i64 3, .int .i64 a, .int .i64 b, .string tx] W3) := hx
  obtain ⟨x0, x1, xo, y0, y1, yf⟩ := hx
  have o0 : W3.cell? ⟨be + 1, 0, none⟩ = some (.int .i64 3) := xo 0
  have o1 : W3.cell? ⟨be + 1, 1, none⟩ = some (.int .i64 a) := xo 1
  have o2 : W3.cell? ⟨be + 1, 2, none⟩ = some (.int .i64 b) := xo 2
  have o3 : W3.cell? ⟨be + 1, 3, none⟩ = some (.string tx) := xo 3
  have HE : Hid (W3 = ((X.alloc (.cells #[.int .i64 most, .slice p m c] 29)).alloc (.cells #[.int .i64 3, .int .i64 a, .int .i64 b, .string tx] 34)).alloc (.cells #[.int .i64 0, .slice none 0 0] 29) ∧ be = X.heap.size) := ⟨hW3, hbe⟩
  have HS : Hid (s' = twS ⟨most, ls⟩ a) := hs'
  clear h hs' hE hlen hbe hc1 hc2 hm hv hW3 hb3 hs3 xo yf hn y0 y1
  go_enter Try.func12, Try.ntmps12
  go_wp2_with fail
  rw [← HE.out.1, ← HE.out.2]
  refine Calls.mono HR.out ?_
  rintro e w4 ⟨v', rfl, hro⟩
  obtain ⟨p', c', hv0, _⟩ := RowC.form hro.1
  obtain ⟨m', hm'⟩ : ∃ m', m' = s'.ls.length := ⟨_, rfl⟩
  have hv' : v' = .slice p' m' c' := by rw [hm']; exact hv0
  clear hv0
  subst hv'
  obtain ⟨et, het⟩ : ∃ et, et = w4.heap.size := ⟨_, rfl⟩
  obtain ⟨w5, hw5⟩ : ∃ w5, w5 = w4.alloc (.cells #[.int .i64 most, .slice p' m' c'] 29) := ⟨_, rfl⟩
  have hb5 : Below w4.heap.size w4 w5.drew := by rw [hw5]; exact (below_alloc _ _).drew
  have hs5 : w5.drew.heap.size = et + 1 := by rw [hw5, het]; show (w4.alloc _).heap.size = _; simp
  have n0 : w5.drew.cell? ⟨et, 0, none⟩ = some (.int .i64 most) := by rw [cell_drew, hw5, het]; exact World.cell?_alloc_mark w4 _ _ _ 0
  have n1 : w5.drew.cell? ⟨et, 1, none⟩ = some (.slice p' m' c') := by rw [cell_drew, hw5, het]; exact World.cell?_alloc_mark w4 _ _ _ 1
  have hb34 := hro.2.1
  have hb04 : Below X.heap.size X w4 := HW.out.2.1.trans (hb34.mono HW.out.2.1.size)
  have hb05 : Below X.heap.size X w5.drew := hb04.trans (hb5.mono hb04.size)
  have hs34 := hb34.size
  have hx5 : Bx be most (.slice p m c) #[.int .i64 3, .int .i64 a, .int .i64 b, .string tx] w5.drew := (HX.out.below hb34).below hb5
  have HB : Hid (Below X.heap.size X w4 ∧ Below w4.heap.size w4 w5.drew ∧ be + 2 < w5.drew.heap.size ∧ Ls w4 (.slice p' m' c') s'.ls ∧ ∀ k, cBlk (.slice p' m' c') = some k → cBlk (.slice p m c) = some k ∨ be + 3 ≤ k) := ⟨hb04, hb5, by have := HW.out.2.2; omega, hro.1, fun k hk => by
    rcases hro.2.2 k hk with q | q
    · exact .inl q
    · exact .inr (by have := HW.out.2.2; omega)⟩
  have HNf : Hid (Nf w w5.drew B ⟨most, ls⟩ n (fun k => loc k ∨ (X.heap.size ≤ k ∧ k < w5.drew.heap.size))) := HP.out.1.grow hb05
  have HDa : Hid (Calls Try.prog 34 #[.pointer (some ⟨B, 0, none⟩), .int .i64 a] w5.drew fun e Y => e = .returned (.bool E) ∧ Hid (Nf w Y B s' (n + 1) (fun k => loc k ∨ (X.heap.size ≤ k ∧ k < w5.drew.heap.size)) ∧ (∀ k, (loc k ∨ (X.heap.size ≤ k ∧ k < w5.drew.heap.size)) → Y.heap[k]? = w5.drew.heap[k]?)) ∧ Hid (Y.heap[et]? = w5.drew.heap[et]? ∧ Y.heap[be + 1]? = w5.drew.heap[be + 1]?) ∧ Bx be most (.slice p m c) #[.int .i64 3, .int .i64 a, .int .i64 b, .string tx] Y) := by
    refine (HD.out _ _ HNf.out).mono ?_
    rintro e Y ⟨rfl, q1, q2, q3⟩
    have e1 := HW.out.1
    have e2 := HW.out.2.2
    exact ⟨rfl, ⟨q1, q2⟩, ⟨q2 et (.inr ⟨by omega, by omega⟩), q2 (be + 1) (.inr ⟨by omega, by omega⟩)⟩, hx5.keep (q2 be (.inr ⟨by omega, by omega⟩)) (q2 (be + 1) (.inr ⟨by omega, by omega⟩)) (q2 (be + 2) (.inr ⟨by omega, by omega⟩))⟩
  have HKb : Hid (∀ Z : World, Hid (Z.heap[et]? = w5.drew.heap[et]? ∧ Z.heap[be + 1]? = w5.drew.heap[be + 1]?) → Z.cell? ⟨et, 0, none⟩ = some (.int .i64 most) ∧ Z.cell? ⟨et, 1, none⟩ = some (.slice p' m' c') ∧ Z.cell? ⟨be + 1, 1, none⟩ = some (.int .i64 a) ∧ Z.cell? ⟨be + 1, 2, none⟩ = some (.int .i64 b) ∧ Z.cell? ⟨be + 1, 3, none⟩ = some (.string tx)) := fun Z hZ =>
    ⟨(World.cell?_of_block (a := ⟨et, 0, none⟩) hZ.out.1).trans n0, (World.cell?_of_block (a := ⟨et, 1, none⟩) hZ.out.1).trans n1, (World.cell?_of_block (a := ⟨be + 1, 1, none⟩) hZ.out.2).trans (hx5.op 1), (World.cell?_of_block (a := ⟨be + 1, 2, none⟩) hZ.out.2).trans (hx5.op 2), (World.cell?_of_block (a := ⟨be + 1, 3, none⟩) hZ.out.2).trans (hx5.op 3)⟩
  have HLt : Hid (be + 2 < et) := by have := HW.out.2.2; show _ < _; omega
  have HKc : Hid (∀ (Z : World) (x y : Value), Hid (Z.heap[et]? = w5.drew.heap[et]? ∧ Z.heap[be + 1]? = w5.drew.heap[be + 1]?) → (fin2 Z (be + 2) x y).cell? ⟨et, 0, none⟩ = some (.int .i64 most) ∧ (fin2 Z (be + 2) x y).cell? ⟨et, 1, none⟩ = some (.slice p' m' c') ∧ (fin2 Z (be + 2) x y).cell? ⟨be + 1, 1, none⟩ = some (.int .i64 a) ∧ (fin2 Z (be + 2) x y).cell? ⟨be + 1, 2, none⟩ = some (.int .i64 b) ∧ (fin2 Z (be + 2) x y).cell? ⟨be + 1, 3, none⟩ = some (.string tx)) := fun Z x y hZ => by
    have := HLt.out
    exact HKb.out _ ⟨by rw [fin2_other (by omega)]; exact hZ.out.1, by rw [fin2_other (by omega)]; exact hZ.out.2⟩
  have HK0 : Hid _ := HKb.out w5.drew ⟨rfl, rfl⟩
  clear hro hm' hb5 hs5 n0 n1 hb34 hb04 hb05 hs34 hx5 HNf HD HR x0 x1 o0 o1 o2 o3
  go_wp2
  rw [← hw5, ← het]
  clear hw5 het
  go_wp2
  go_region_held (fun Z => Z.cell? ⟨et, 0, none⟩ = some (.int .i64 most) ∧ Z.cell? ⟨et, 1, none⟩ = some (.slice p' m' c') ∧ Z.cell? ⟨be + 1, 1, none⟩ = some (.int .i64 a) ∧ Z.cell? ⟨be + 1, 2, none⟩ = some (.int .i64 b) ∧ Z.cell? ⟨be + 1, 3, none⟩ = some (.string tx))
    (first | exact HK0.out | exact HKb.out _ (by assumption) | exact HKc.out _ _ _ (by assumption))
    (first | (go_at_call 34; refine Calls.mono HDa.out ?_; rintro e w6 ⟨rfl, hq6, hq1, hx6⟩; have z0 := hx6.r0; have z1 := hx6.r1; have f0 := hx6.fr 0; have f1 := hx6.fr 1; clear hx6))
  all_goals
    go_wp2
    obtain ⟨t0, t1⟩ := fin2_cells z0 z1 (.int .i64 most) (.slice p' m' c')
    unfold fin2 at t0 t1
    refine bodyPost_ret (v := .tuple #[.agg #[.int .i64 most, .slice p' m' c'], .bool true]) ?qres rfl ?qpost
    case qres => simp [results, Try.results12, go_sem, t0, t1]
    case qpost => exact ⟨_, rfl, by rw [← HS.out]; exact does_post HP.out HW.out.1 HB.out.2.2.2.1 HB.out.1 HB.out.2.2.2.2 HB.out.2.1 hq6.out.1 hq6.out.2 HB.out.2.2.1 _ _⟩

set_option maxHeartbeats 1600000 in
set_option maxRecDepth 20000 in
theorem does_Cut (h : Pn w X B ⟨most, ls⟩ n v loc) (hn : n < 1099511627775) (a b : Int) (tx : ByteArray) (ha : In64 a) :
    Calls Try.prog 12 #[.pointer (some ⟨B, 0, none⟩), .agg #[.int .i64 most, v], .agg #[.int .i64 4, .int .i64 a, .int .i64 b, .string tx]] X fun e Y => ∃ v', e = .returned (.tuple #[.agg #[.int .i64 most, v'], .bool true]) ∧ PnE w X Y B ((⟨most, Q.cutL ls a⟩ : Q.St)) n v' loc v := by
  obtain ⟨s', hs'⟩ : ∃ s', s' = (⟨most, Q.cutL ls a⟩ : Q.St) := ⟨_, rfl⟩
  obtain ⟨E, hE⟩ : ∃ E, E = ls.length - (Q.cutL ls a).length := ⟨_, rfl⟩
  have hlen : ls.length ≤ 1099511627775 := by have q : ls.length ≤ n := h.1.len; omega
  obtain ⟨be, hbe⟩ : ∃ be, be = X.heap.size := ⟨_, rfl⟩
  obtain ⟨p, c, hv0, hc1, hc2⟩ := RowC.form h.2.1
  obtain ⟨m, hm⟩ : ∃ m, m = ls.length := ⟨_, rfl⟩
  have hv : v = .slice p m c := by rw [hm]; exact hv0
  clear hv0
  rw [hv] at h ⊢
  have hx := Bx.start X most (.slice p m c) #[.int .i64 4, .int .i64 a, .int .i64 b, .string tx]
  obtain ⟨W3, hW3⟩ : ∃ W3, W3 = ((X.alloc (.cells #[.int .i64 most, .slice p m c] 29)).alloc (.cells #[.int .i64 4, .int .i64 a, .int .i64 b, .string tx] 34)).alloc (.cells #[.int .i64 0, .slice none 0 0] 29) := ⟨_, rfl⟩
  have hb3 : Below X.heap.size X W3 := by rw [hW3]; exact ((below_alloc _ _).trans ((below_alloc _ _).mono (by simp))).trans ((below_alloc _ _).mono (by simp; omega))
  have hs3 : W3.heap.size = be + 3 := by rw [hW3, hbe]; simp
  rw [← hbe, ← hW3] at hx
  have HR : Hid (Calls Try.prog 35 #[.agg #[.int .i64 most, .slice p m c], .int .i64 a] W3 fun e w' => ∃ v', e = .returned (.tuple #[.agg #[.int .i64 most, v'], .int .i64 (E : Int)]) ∧ ROut W3 (.slice p m c) w' v' s'.ls) := by
    rw [hs', hE]
    exact rCut_c (h.2.1.below hb3) hlen most a
  have HD : Hid (∀ Z loc', Nf w Z B ⟨most, ls⟩ n loc' → Calls Try.prog 36 #[.pointer (some ⟨B, 0, none⟩), .int .i64 a] Z fun e Y => e = .returned (.int .i64 (E : Int)) ∧ Nf w Y B s' (n + 1) loc' ∧ (∀ k, loc' k → Y.heap[k]? = Z.heap[k]?) ∧ Z.heap.size ≤ Y.heap.size) := fun Z loc' hZ => by
    rw [hs', hE]
    exact hZ.cut (by omega) a ha
  have HP : Hid (Pn w X B ⟨most, ls⟩ n (.slice p m c) loc) := h
  have HW : Hid (be = X.heap.size ∧ Below X.heap.size X W3 ∧ W3.heap.size = be + 3) := ⟨hbe, hb3, hs3⟩
  have HX : Hid (Bx be most (.slice p m c) #[.int .i64 4, .int .i64 a, .int .i64 b, .string tx] W3) := hx
  obtain ⟨x0, x1, xo, y0, y1, yf⟩ := hx
  have o0 : W3.cell? ⟨be + 1, 0, none⟩ = some (.int .i64 4) := xo 0
  have o1 : W3.cell? ⟨be + 1, 1, none⟩ = some (.int .i64 a) := xo 1
  have o2 : W3.cell? ⟨be + 1, 2, none⟩ = some (.int .i64 b) := xo 2
  have o3 : W3.cell? ⟨be + 1, 3, none⟩ = some (.string tx) := xo 3
  have HE : Hid (W3 = ((X.alloc (.cells #[.int .i64 most, .slice p m c] 29)).alloc (.cells #[.int .i64 4, .int .i64 a, .int .i64 b, .string tx] 34)).alloc (.cells #[.int .i64 0, .slice none 0 0] 29) ∧ be = X.heap.size) := ⟨hW3, hbe⟩
  have HS : Hid (s' = (⟨most, Q.cutL ls a⟩ : Q.St)) := hs'
  clear h hs' hE hlen hbe hc1 hc2 hm hv hW3 hb3 hs3 xo yf ha hn y0 y1
  go_enter Try.func12, Try.ntmps12
  go_wp2_with fail
  rw [← HE.out.1, ← HE.out.2]
  refine Calls.mono HR.out ?_
  rintro e w4 ⟨v', rfl, hro⟩
  obtain ⟨p', c', hv0, _⟩ := RowC.form hro.1
  obtain ⟨m', hm'⟩ : ∃ m', m' = s'.ls.length := ⟨_, rfl⟩
  have hv' : v' = .slice p' m' c' := by rw [hm']; exact hv0
  clear hv0
  subst hv'
  obtain ⟨et, het⟩ : ∃ et, et = w4.heap.size := ⟨_, rfl⟩
  obtain ⟨w5, hw5⟩ : ∃ w5, w5 = w4.alloc (.cells #[.int .i64 most, .slice p' m' c'] 29) := ⟨_, rfl⟩
  have hb5 : Below w4.heap.size w4 w5.drew := by rw [hw5]; exact (below_alloc _ _).drew
  have hs5 : w5.drew.heap.size = et + 1 := by rw [hw5, het]; show (w4.alloc _).heap.size = _; simp
  have n0 : w5.drew.cell? ⟨et, 0, none⟩ = some (.int .i64 most) := by rw [cell_drew, hw5, het]; exact World.cell?_alloc_mark w4 _ _ _ 0
  have n1 : w5.drew.cell? ⟨et, 1, none⟩ = some (.slice p' m' c') := by rw [cell_drew, hw5, het]; exact World.cell?_alloc_mark w4 _ _ _ 1
  have hb34 := hro.2.1
  have hb04 : Below X.heap.size X w4 := HW.out.2.1.trans (hb34.mono HW.out.2.1.size)
  have hb05 : Below X.heap.size X w5.drew := hb04.trans (hb5.mono hb04.size)
  have hs34 := hb34.size
  have hx5 : Bx be most (.slice p m c) #[.int .i64 4, .int .i64 a, .int .i64 b, .string tx] w5.drew := (HX.out.below hb34).below hb5
  have HB : Hid (Below X.heap.size X w4 ∧ Below w4.heap.size w4 w5.drew ∧ be + 2 < w5.drew.heap.size ∧ Ls w4 (.slice p' m' c') s'.ls ∧ ∀ k, cBlk (.slice p' m' c') = some k → cBlk (.slice p m c) = some k ∨ be + 3 ≤ k) := ⟨hb04, hb5, by have := HW.out.2.2; omega, hro.1, fun k hk => by
    rcases hro.2.2 k hk with q | q
    · exact .inl q
    · exact .inr (by have := HW.out.2.2; omega)⟩
  have HNf : Hid (Nf w w5.drew B ⟨most, ls⟩ n (fun k => loc k ∨ (X.heap.size ≤ k ∧ k < w5.drew.heap.size))) := HP.out.1.grow hb05
  have HDa : Hid (Calls Try.prog 36 #[.pointer (some ⟨B, 0, none⟩), .int .i64 a] w5.drew fun e Y => e = .returned (.int .i64 (E : Int)) ∧ Hid (Nf w Y B s' (n + 1) (fun k => loc k ∨ (X.heap.size ≤ k ∧ k < w5.drew.heap.size)) ∧ (∀ k, (loc k ∨ (X.heap.size ≤ k ∧ k < w5.drew.heap.size)) → Y.heap[k]? = w5.drew.heap[k]?)) ∧ Hid (Y.heap[et]? = w5.drew.heap[et]? ∧ Y.heap[be + 1]? = w5.drew.heap[be + 1]?) ∧ Bx be most (.slice p m c) #[.int .i64 4, .int .i64 a, .int .i64 b, .string tx] Y) := by
    refine (HD.out _ _ HNf.out).mono ?_
    rintro e Y ⟨rfl, q1, q2, q3⟩
    have e1 := HW.out.1
    have e2 := HW.out.2.2
    exact ⟨rfl, ⟨q1, q2⟩, ⟨q2 et (.inr ⟨by omega, by omega⟩), q2 (be + 1) (.inr ⟨by omega, by omega⟩)⟩, hx5.keep (q2 be (.inr ⟨by omega, by omega⟩)) (q2 (be + 1) (.inr ⟨by omega, by omega⟩)) (q2 (be + 2) (.inr ⟨by omega, by omega⟩))⟩
  have HKb : Hid (∀ Z : World, Hid (Z.heap[et]? = w5.drew.heap[et]? ∧ Z.heap[be + 1]? = w5.drew.heap[be + 1]?) → Z.cell? ⟨et, 0, none⟩ = some (.int .i64 most) ∧ Z.cell? ⟨et, 1, none⟩ = some (.slice p' m' c') ∧ Z.cell? ⟨be + 1, 1, none⟩ = some (.int .i64 a) ∧ Z.cell? ⟨be + 1, 2, none⟩ = some (.int .i64 b) ∧ Z.cell? ⟨be + 1, 3, none⟩ = some (.string tx)) := fun Z hZ =>
    ⟨(World.cell?_of_block (a := ⟨et, 0, none⟩) hZ.out.1).trans n0, (World.cell?_of_block (a := ⟨et, 1, none⟩) hZ.out.1).trans n1, (World.cell?_of_block (a := ⟨be + 1, 1, none⟩) hZ.out.2).trans (hx5.op 1), (World.cell?_of_block (a := ⟨be + 1, 2, none⟩) hZ.out.2).trans (hx5.op 2), (World.cell?_of_block (a := ⟨be + 1, 3, none⟩) hZ.out.2).trans (hx5.op 3)⟩
  have HLt : Hid (be + 2 < et) := by have := HW.out.2.2; show _ < _; omega
  have HKc : Hid (∀ (Z : World) (x y : Value), Hid (Z.heap[et]? = w5.drew.heap[et]? ∧ Z.heap[be + 1]? = w5.drew.heap[be + 1]?) → (fin2 Z (be + 2) x y).cell? ⟨et, 0, none⟩ = some (.int .i64 most) ∧ (fin2 Z (be + 2) x y).cell? ⟨et, 1, none⟩ = some (.slice p' m' c') ∧ (fin2 Z (be + 2) x y).cell? ⟨be + 1, 1, none⟩ = some (.int .i64 a) ∧ (fin2 Z (be + 2) x y).cell? ⟨be + 1, 2, none⟩ = some (.int .i64 b) ∧ (fin2 Z (be + 2) x y).cell? ⟨be + 1, 3, none⟩ = some (.string tx)) := fun Z x y hZ => by
    have := HLt.out
    exact HKb.out _ ⟨by rw [fin2_other (by omega)]; exact hZ.out.1, by rw [fin2_other (by omega)]; exact hZ.out.2⟩
  have HK0 : Hid _ := HKb.out w5.drew ⟨rfl, rfl⟩
  clear hro hm' hb5 hs5 n0 n1 hb34 hb04 hb05 hs34 hx5 HNf HD HR x0 x1 o0 o1 o2 o3
  go_wp2
  rw [← hw5, ← het]
  clear hw5 het
  go_wp2
  go_region_held (fun Z => Z.cell? ⟨et, 0, none⟩ = some (.int .i64 most) ∧ Z.cell? ⟨et, 1, none⟩ = some (.slice p' m' c') ∧ Z.cell? ⟨be + 1, 1, none⟩ = some (.int .i64 a) ∧ Z.cell? ⟨be + 1, 2, none⟩ = some (.int .i64 b) ∧ Z.cell? ⟨be + 1, 3, none⟩ = some (.string tx))
    (first | exact HK0.out | exact HKb.out _ (by assumption) | exact HKc.out _ _ _ (by assumption))
    (first | (go_at_call 36; refine Calls.mono HDa.out ?_; rintro e w6 ⟨rfl, hq6, hq1, hx6⟩; have z0 := hx6.r0; have z1 := hx6.r1; have f0 := hx6.fr 0; have f1 := hx6.fr 1; clear hx6))
  all_goals
    go_wp2
    obtain ⟨t0, t1⟩ := fin2_cells z0 z1 (.int .i64 most) (.slice p' m' c')
    unfold fin2 at t0 t1
    refine bodyPost_ret (v := .tuple #[.agg #[.int .i64 most, .slice p' m' c'], .bool true]) ?qres rfl ?qpost
    case qres => simp [results, Try.results12, go_sem, t0, t1]
    case qpost => exact ⟨_, rfl, by rw [← HS.out]; exact does_post HP.out HW.out.1 HB.out.2.2.2.1 HB.out.1 HB.out.2.2.2.2 HB.out.2.1 hq6.out.1 hq6.out.2 HB.out.2.2.1 _ _⟩

end
end Go.Proofs.Ytpopanfefpehnaa
