/-
  The law's state: a net, and the document's net in a box.
-/
import Derived.Test.YtpopanfefpehnaaNnDoes3
import Derived.Test.YtpopanfefpehnaaNnArgs
namespace Go.Proofs.Ytpopanfefpehnaa
open Go.RowKit

theorem Pn.below {w X Y : World} {B n : Nat} {s : Q.St} {v : Value} {loc : Nat → Prop} (h : Pn w X B s n v loc) (hb : Below X.heap.size X Y) : Pn w Y B s n v loc := ⟨h.1.below hb, h.2.1.below hb, h.2.2⟩

/-- The net, and the document's, whose box et may hold anything yet. -/
structure Nx (w : World) (B et : Nat) (s : Q.St) (n : Nat) (p : Option Addr) (m c : Nat) (X : World) : Prop where
  ex : ∃ loc, Pn w X B s n (.slice p m c) loc ∧ loc et
  new : w.heap.size ≤ et
  ne : cBlk (.slice p m c) ≠ some et
  q : ∃ x0 x1, X.cell? ⟨et, 0, none⟩ = some x0 ∧ X.cell? ⟨et, 1, none⟩ = some x1
  f : ∀ j, X.frozen? ⟨et, j, none⟩ = false
  len : m = s.ls.length

/-- Its box holds it. -/
structure Pl (w : World) (B et : Nat) (s : Q.St) (n : Nat) (p : Option Addr) (m c : Nat) (X : World) : Prop where
  nx : Nx w B et s n p m c X
  q0 : X.cell? ⟨et, 0, none⟩ = some (.int .i64 s.most)
  q1 : X.cell? ⟨et, 1, none⟩ = some (.slice p m c)

section
variable {w X Y : World} {B et n : Nat} {s s' : Q.St} {p : Option Addr} {m c : Nat}

theorem Nx.et_lt (h : Nx w B et s n p m c X) : et < X.heap.size := by
  obtain ⟨_, _, q, _⟩ := h.q
  exact World.block_lt_of_cell? _ _ q
theorem Nx.old (h : Nx w B et s n p m c X) : Below w.heap.size w X := by
  obtain ⟨_, h, _⟩ := h.ex
  exact h.1.old
theorem Nx.below (h : Nx w B et s n p m c X) (hb : Below X.heap.size X Y) : Nx w B et s n p m c Y := by
  obtain ⟨loc, h1, h2⟩ := h.ex
  obtain ⟨x0, x1, h3, h4⟩ := h.q
  have hl := h.et_lt
  exact ⟨⟨loc, h1.below hb, h2⟩, h.new, h.ne, ⟨x0, x1, (hb.cell (p := ⟨et, 0, none⟩) hl).trans h3, (hb.cell (p := ⟨et, 1, none⟩) hl).trans h4⟩, fun j => (hb.frozen (p := ⟨et, j, none⟩) hl).trans (h.f j), h.len⟩
theorem Pl.below (h : Pl w B et s n p m c X) (hb : Below X.heap.size X Y) : Pl w B et s n p m c Y :=
  ⟨h.nx.below hb, (hb.cell (p := ⟨et, 0, none⟩) h.nx.et_lt).trans h.q0, (hb.cell (p := ⟨et, 1, none⟩) h.nx.et_lt).trans h.q1⟩
/-- The box is written. -/
theorem Nx.done (h : Nx w B et s n p m c X) : Pl w B et s n p m c (fin2 X et (.int .i64 s.most) (.slice p m c)) := by
  obtain ⟨loc, h1, h2⟩ := h.ex
  obtain ⟨x0, x1, h3, h4⟩ := h.q
  obtain ⟨t0, t1⟩ := fin2_cells h3 h4 (.int .i64 s.most) (.slice p m c)
  refine ⟨⟨⟨loc, ⟨(h1.1.set et 0 h2 h.new _).set et 1 h2 h.new _, RowC.carry h1.2.1 (fun k hk => fin2_other (fun e => h.ne (by rw [← e]; exact hk)) _ _), h1.2.2⟩, h2⟩, h.new, h.ne, ⟨_, _, t0, t1⟩, fun j => ?_, h.len⟩, t0, t1⟩
  unfold fin2
  rw [World.frozen?_setCell, World.frozen?_setCell]
  exact h.f j

theorem Pl.next (h : Pl w B et s n p m c X) {loc : Nat → Prop} (hp : Pn w X B s n (.slice p m c) loc) (he : loc et) {v' : Value} (hE : PnE w X Y B s' n v' loc (.slice p m c)) : ∃ p' m' c', v' = .slice p' m' c' ∧ m' = s'.ls.length ∧ Nx w B et s' (n + 1) p' m' c' Y := by
  obtain ⟨loc', h1, h2, h3, h4⟩ := hE
  obtain ⟨p', c', hv, _⟩ := RowC.form h1.2.1
  subst hv
  have hb := h3 et he
  have hl := hp.1.lloc he
  refine ⟨p', _, c', rfl, rfl, ⟨⟨loc', h1, h2 et he⟩, h.nx.new, fun e => ?_, ⟨_, _, (World.cell?_of_block (a := ⟨et, 0, none⟩) hb).trans h.q0, (World.cell?_of_block (a := ⟨et, 1, none⟩) hb).trans h.q1⟩, fun j => (World.frozen?_of_block (a := ⟨et, j, none⟩) hb).trans (h.nx.f j), rfl⟩⟩
  rcases h4 et e with q | q
  · exact h.nx.ne q
  · omega

theorem put_most (s : Q.St) (l : Q.Lt) : (Q.put s l).most = s.most := by
  unfold Q.put
  split <;> rfl
theorem tw_most (s : Q.St) (k : Int) : (twS s k).most = s.most := by
  unfold twS
  split
  · split <;> rfl
  · rfl

/-- Whatever the call: the same on both sides. -/
theorem does_anyE {loc : Nat → Prop} (hp : Pn w X B s n (.slice p m c) loc) (hn : n < 1099511627775) (o : Op8) (ho : Op8In o) :
    Calls Try.prog 12 #[.pointer (some ⟨B, 0, none⟩), .agg #[.int .i64 s.most, .slice p m c], .agg #[.int .i64 o.kind, .int .i64 o.n, .int .i64 o.m, .string o.tx]] X fun e Y => ∃ s' v', e = .returned (.tuple #[.agg #[.int .i64 s.most, v'], .bool true]) ∧ s'.most = s.most ∧ PnE w X Y B s' n v' loc (.slice p m c) := by
  obtain ⟨most, ls⟩ := s
  obtain ⟨kd, a, b, tx⟩ := o
  obtain ⟨hk, ha, hb, htx⟩ := ho
  have htx : tx.size ≤ 9223372036854775807 := by unfold maxLen at htx; exact htx
  have fin : ∀ s' : Q.St, s'.most = most → ∀ e Y, (∃ v', e = Ending.returned (.tuple #[.agg #[.int .i64 most, v'], .bool true]) ∧ PnE w X Y B s' n v' loc (.slice p m c)) → ∃ (s' : Q.St) (v' : Value), e = .returned (.tuple #[.agg #[.int .i64 most, v'], .bool true]) ∧ s'.most = most ∧ PnE w X Y B s' n v' loc (.slice p m c) := by
    rintro s' hs e Y ⟨v', rfl, hE⟩
    exact ⟨s', v', rfl, hs, hE⟩
  by_cases k1 : kd = 1
  · subst k1
    exact (does_Put hp hn a b tx ha hb htx).mono (fin _ (put_most _ _))
  by_cases k2 : kd = 2
  · subst k2
    cases hl : ls[Q.place a ls.length]? with
    | some l => exact (does_Take_some hp hn a b tx hl).mono (fin _ rfl)
    | none =>
      refine (does_Take_none hp a b tx ?_).mono (fin _ rfl)
      cases ls with
      | nil => rfl
      | cons x xs =>
        exfalso
        have q := Q.place_lt a (n := (x :: xs).length) (by simp)
        rw [List.getElem?_eq_getElem q] at hl
        cases hl
  by_cases k3 : kd = 3
  · subst k3
    exact (does_Twice hp hn a b tx).mono (fin _ (tw_most _ _))
  by_cases k4 : kd = 4
  · subst k4
    exact (does_Cut hp hn a b tx ha).mono (fin _ rfl)
  by_cases k5 : kd = 5
  · subst k5
    exact (does_Between hp hn a b tx ha hb).mono (fin _ rfl)
  · exact (does_else hp kd a b tx k1 k2 k3 k4 k5).mono (fin _ rfl)

/-- The net, the document's, and the document's next one in a box of its own. -/
structure Nz (w : World) (B et en : Nat) (s : Q.St) (n : Nat) (p : Option Addr) (m c : Nat) (X : World) : Prop where
  nx : Nx w B et s n p m c X
  e0 : X.cell? ⟨en, 0, none⟩ = some (.int .i64 s.most)
  e1 : X.cell? ⟨en, 1, none⟩ = some (.slice p m c)

/-- The box is laid behind the call. -/
theorem does_behind (h : Pl w B et s n p m c X) (hn : n < 1099511627775) (o : Op8) (ho : Op8In o) :
    Calls Try.prog 12 #[.pointer (some ⟨B, 0, none⟩), .agg #[.int .i64 s.most, .slice p m c], .agg #[.int .i64 o.kind, .int .i64 o.n, .int .i64 o.m, .string o.tx]] X fun e Y => ∃ s' p' m' c', e = .returned (.tuple #[.agg #[.int .i64 s.most, .slice p' m' c'], .bool true]) ∧ s'.most = s.most ∧ Y.heap[et]? = X.heap[et]? ∧ Below w.heap.size w Y ∧
      ∀ T : TypeId, Nz w B et Y.heap.size s' (n + 1) p' m' c' (Y.alloc (.cells #[.int .i64 s.most, .slice p' m' c'] T)) := by
  obtain ⟨loc, hp, he⟩ := h.nx.ex
  refine (does_anyE hp hn o ho).mono ?_
  rintro e Y ⟨s', v', rfl, hs, hE⟩
  have hb := hE
  obtain ⟨loc', _, _, h3, _⟩ := hb
  obtain ⟨p', m', c', rfl, h1, h2⟩ := h.next hp he hE
  refine ⟨s', p', m', c', rfl, hs, h3 et he, h2.old, fun T => ⟨h2.below (below_alloc _ _), ?_, ?_⟩⟩
  · rw [hs]
    exact (cell_new Y _ T rfl 0).1
  · exact (cell_new Y _ T rfl 1).1

/-- The box is laid ahead of it. -/
theorem does_ahead (h : Pl w B et s n p m c X) (hn : n < 1099511627775) (o : Op8) (ho : Op8In o) (T : TypeId) :
    Calls Try.prog 12 #[.pointer (some ⟨B, 0, none⟩), .agg #[.int .i64 s.most, .slice p m c], .agg #[.int .i64 o.kind, .int .i64 o.n, .int .i64 o.m, .string o.tx]] (X.alloc (.cells #[.int .i64 0, .slice none 0 0] T)) fun e Y => ∃ s' p' m' c', e = .returned (.tuple #[.agg #[.int .i64 s.most, .slice p' m' c'], .bool true]) ∧ s'.most = s.most ∧ Y.heap[et]? = X.heap[et]? ∧ Below w.heap.size w Y ∧
      Y.cell? ⟨X.heap.size, 0, none⟩ = some (.int .i64 0) ∧ Y.cell? ⟨X.heap.size, 1, none⟩ = some (.slice none 0 0) ∧ (∀ j, Y.frozen? ⟨X.heap.size, j, none⟩ = false) ∧ Nz w B et X.heap.size s' (n + 1) p' m' c' (fin2 Y X.heap.size (.int .i64 s.most) (.slice p' m' c')) := by
  obtain ⟨loc, hp, he⟩ := h.nx.ex
  obtain ⟨Z, hZ⟩ : ∃ Z, Z = X.alloc (.cells #[.int .i64 0, .slice none 0 0] T) := ⟨_, rfl⟩
  have hbZ : Below X.heap.size X Z := by rw [hZ]; exact below_alloc _ _
  have hsZ : Z.heap.size = X.heap.size + 1 := by rw [hZ]; simp
  have hcZ : ∀ j, Z.cell? ⟨X.heap.size, j, none⟩ = (#[.int .i64 0, .slice none 0 0] : Array Value)[j]? ∧ Z.frozen? ⟨X.heap.size, j, none⟩ = false := fun j => by rw [hZ]; exact cell_new X _ T rfl j
  rw [← hZ]
  obtain ⟨en, hen⟩ : ∃ en, en = X.heap.size := ⟨_, rfl⟩
  rw [← hen] at hcZ hsZ ⊢
  have hetl := h.nx.et_lt
  have hpZ : Pn w Z B s n (.slice p m c) (fun k => loc k ∨ (X.heap.size ≤ k ∧ k < Z.heap.size)) := ⟨hp.1.grow hbZ, hp.2.1.below hbZ, fun k hk => .inl (hp.2.2 k hk)⟩
  have hPZ := h.below hbZ
  have henl : X.heap.size ≤ en ∧ en < Z.heap.size := by omega
  have hwX := h.nx.old.size
  refine (does_anyE hpZ hn o ho).mono ?_
  rintro e Y ⟨s', v', rfl, hs, hE⟩
  have hb := hE
  obtain ⟨loc', q1, q2, q3, q4⟩ := hb
  obtain ⟨p', m', c', rfl, h1, h2⟩ := hPZ.next hpZ (.inl he) hE
  have hYe := q3 en (.inr henl)
  have hne : cBlk (.slice p' m' c') ≠ some en := fun e => by
    rcases q4 en e with q | q
    · have := RowC.lt hp.2.1 (by omega) q
      omega
    · omega
  have y0 : Y.cell? ⟨en, 0, none⟩ = some (.int .i64 0) := (World.cell?_of_block (a := ⟨en, 0, none⟩) hYe).trans (hcZ 0).1
  have y1 : Y.cell? ⟨en, 1, none⟩ = some (.slice none 0 0) := (World.cell?_of_block (a := ⟨en, 1, none⟩) hYe).trans (hcZ 1).1
  obtain ⟨t0, t1⟩ := fin2_cells y0 y1 (.int .i64 s.most) (.slice p' m' c')
  have hete : et ≠ en := by omega
  have hwe : w.heap.size ≤ en := by omega
  refine ⟨s', p', m', c', rfl, hs, (q3 et (.inl he)).trans (hbZ.block et hetl), h2.old, y0, y1, fun j => (World.frozen?_of_block (a := ⟨en, j, none⟩) hYe).trans (hcZ j).2, ⟨?_, by rw [hs]; exact t0, t1⟩⟩
  obtain ⟨x0, x1, h3, h4⟩ := h2.q
  refine ⟨⟨loc', ⟨(q1.1.set en 0 (q2 en (.inr henl)) hwe _).set en 1 (q2 en (.inr henl)) hwe _, RowC.carry q1.2.1 (fun k hk => fin2_other (fun e => hne (by rw [← e]; exact hk)) _ _), q1.2.2⟩, q2 et (.inl he)⟩, h2.new, h2.ne, ⟨x0, x1, (World.cell?_of_block (a := ⟨et, 0, none⟩) (fin2_other hete _ _)).trans h3, (World.cell?_of_block (a := ⟨et, 1, none⟩) (fin2_other hete _ _)).trans h4⟩, fun j => ?_, h2.len⟩
  rw [World.frozen?_of_block (a := ⟨et, j, none⟩) (fin2_other hete _ _)]
  exact h2.f j

/-- A letter is taken on both sides. -/
theorem does_one (h : Pl w B et s n p m c X) (hn : n < 1099511627775) (hm : 0 < m) :
    Calls Try.prog 12 #[.pointer (some ⟨B, 0, none⟩), .agg #[.int .i64 s.most, .slice p m c], .agg #[.int .i64 2, .int .i64 0, .int .i64 0, .string ⟨#[]⟩]] X fun e Y => ∃ s' p' m' c', e = .returned (.tuple #[.agg #[.int .i64 s.most, .slice p' m' c'], .bool true]) ∧ s'.most = s.most ∧ m' + 1 = m ∧ Nx w B et s' (n + 1) p' m' c' Y := by
  obtain ⟨loc, hp, he⟩ := h.nx.ex
  have hml := h.nx.len
  obtain ⟨most, ls⟩ := s
  dsimp only at hml
  have hpl := Q.place_lt 0 (n := ls.length) (by omega)
  refine (does_Take_some hp hn 0 0 ⟨#[]⟩ (List.getElem?_eq_getElem hpl)).mono ?_
  rintro e Y ⟨v', rfl, hE⟩
  obtain ⟨p', m', c', rfl, h1, h2⟩ := h.next hp he hE
  refine ⟨⟨most, ls.eraseIdx (Q.place 0 ls.length)⟩, p', m', c', rfl, rfl, ?_, h2⟩
  rw [h1]
  show (ls.eraseIdx _).length + 1 = m
  rw [List.length_eraseIdx_of_lt hpl]
  omega

theorem Nx.mle (h : Nx w B et s n p m c X) : m ≤ n := by
  obtain ⟨loc, hp, _⟩ := h.ex
  rw [h.len]
  exact hp.1.len

/-- Len. -/
theorem Nx.lenC (h : Nx w B et s n p m c X) : Calls Try.prog 13 #[.pointer (some ⟨B, 0, none⟩)] X fun e Y => e = .returned (.int .i64 (m : Int)) ∧ Y = X := by
  obtain ⟨loc, hp, _⟩ := h.ex
  rw [h.len]
  exact hp.1.lenC

end
end Go.Proofs.Ytpopanfefpehnaa
