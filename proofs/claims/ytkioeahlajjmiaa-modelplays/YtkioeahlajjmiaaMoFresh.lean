/-
  A model that was made in this call, beside what the caller holds; the law package's own 'awake'.
-/
import Derived.Test.YtkioeahlajjmiaaMoDo
namespace Go.Proofs.Ytkioeahlajjmiaa
open Go.RowKit

theorem may_kind {o : Mo.Op} (h : Mo.may o = true) : o.kind = 1 ∨ o.kind = 2 ∨ o.kind = 3 ∨ o.kind = 4 ∨ o.kind = 5 ∨ o.kind = 6 ∨ o.kind = 7 := by
  by_cases h1 : o.kind = 1
  · exact .inl h1
  by_cases h2 : o.kind = 2
  · exact .inr (.inl h2)
  by_cases h3 : o.kind = 3
  · exact .inr (.inr (.inl h3))
  by_cases h4 : o.kind = 4
  · exact .inr (.inr (.inr (.inl h4)))
  by_cases h5 : o.kind = 5
  · exact .inr (.inr (.inr (.inr (.inl h5))))
  by_cases h6 : o.kind = 6
  · exact .inr (.inr (.inr (.inr (.inr (.inl h6)))))
  by_cases h7 : o.kind = 7
  · exact .inr (.inr (.inr (.inr (.inr (.inr h7)))))
  unfold Mo.may at h
  simp [h1, h2, h3, h4, h5, h6, h7] at h

/-- Block B holds a model made since w; the blocks 'loc' are the caller's own. -/
def Mf (w X : World) (B : Nat) (s : Mo.St) (n : Nat) (loc : Nat → Prop) : Prop :=
  ∃ who, Md X B s who n ∧ Below w.heap.size w X ∧ (∀ k, who k ≠ 0 → w.heap.size ≤ k) ∧ ∀ k, loc k → k < X.heap.size ∧ who k = 0

section
variable {w X Y : World} {B : Nat} {s : Mo.St} {n : Nat} {loc : Nat → Prop}

theorem Mf.old (h : Mf w X B s n loc) : Below w.heap.size w X := by obtain ⟨who, _, h, _⟩ := h; exact h
theorem Mf.lloc (h : Mf w X B s n loc) {k : Nat} (hk : loc k) : k < X.heap.size := by obtain ⟨who, _, _, _, h⟩ := h; exact (h k hk).1
theorem Mf.less {loc' : Nat → Prop} (h : Mf w X B s n loc) (hl : ∀ k, loc' k → loc k) : Mf w X B s n loc' := by
  obtain ⟨who, h1, h2, h3, h4⟩ := h
  exact ⟨who, h1, h2, h3, fun k hk => h4 k (hl k hk)⟩
theorem Mf.more {m : Nat} (h : Mf w X B s n loc) (hm : n ≤ m) : Mf w X B s m loc := by
  obtain ⟨who, h1, h2⟩ := h
  exact ⟨who, h1.mono hm, h2⟩
theorem Mf.grow (h : Mf w X B s n loc) (hb : Below X.heap.size X Y) : Mf w Y B s n (fun k => loc k ∨ (X.heap.size ≤ k ∧ k < Y.heap.size)) := by
  obtain ⟨who, h1, h2, h3, h4⟩ := h
  have hs := hb.size
  refine ⟨who, h1.below hb, h2.trans (hb.mono h2.size), h3, fun k hk => ?_⟩
  rcases hk with q | q
  · have := h4 k q
    exact ⟨by omega, this.2⟩
  · refine ⟨q.2, ?_⟩
    by_cases e : who k = 0
    · exact e
    · have := h1.here k e
      omega
theorem Mf.below (h : Mf w X B s n loc) (hb : Below X.heap.size X Y) : Mf w Y B s n loc := (h.grow hb).less (fun _ hk => .inl hk)

/-- What a call leaves. -/
theorem Mf.aft {who who' : Nat → Nat} {s' : Mo.St} {n' : Nat} (h2 : Below w.heap.size w X) (h3 : ∀ k, who k ≠ 0 → w.heap.size ≤ k) (h4 : ∀ k, loc k → k < X.heap.size ∧ who k = 0) (ha : AftM who X Y B s' n' who') {loc' : Nat → Prop} (hl : ∀ k, loc' k → k < Y.heap.size ∧ who' k = 0) :
    Mf w Y B s' n' (fun k => loc k ∨ loc' k) ∧ (∀ k, loc k → Y.heap[k]? = X.heap[k]?) := by
  have hs := ha.2.2.size
  refine ⟨⟨who', ha.1, ⟨ha.2.2.os.trans h2.os, ha.2.2.tape.trans h2.tape, ha.2.2.output.trans h2.output, Nat.le_trans h2.size hs, fun k hk => ?_⟩, fun k hk => ?_, fun k hk => ?_⟩, fun k hk => ha.2.2.block k (h4 k hk).1 (h4 k hk).2⟩
  · have hk0 : who k = 0 := by
      by_cases e : who k = 0
      · exact e
      · have := h3 k e
        omega
    exact (ha.2.2.block k (Nat.lt_of_lt_of_le hk h2.size) hk0).trans (h2.block k hk)
  · by_cases q : k < w.heap.size
    · exfalso
      have hk0 : who k = 0 := by
        by_cases e : who k = 0
        · exact e
        · have := h3 k e
          omega
      exact hk (ha.2.1 k (Nat.lt_of_lt_of_le q h2.size) hk0)
    · omega
  · rcases hk with q | q
    · have := h4 k q
      exact ⟨by omega, ha.2.1 k this.1 this.2⟩
    · exact hl k q

/-- What Do leaves. -/
def DoF (w X : World) (B : Nat) (s : Mo.St) (n : Nat) (loc : Nat → Prop) (o : Mo.Op) (e : Ending) (Y : World) : Prop :=
  ∃ p m c, e = .returned (.agg #[.int .i64 (Mo.tells s o).err, .int .i64 (Mo.tells s o).at_, .slice p m c]) ∧ m = (Mo.tells s o).posts.length ∧ RowC Y 2 (.slice p m c) m (poCells (Mo.tells s o).posts) ∧ Mf w Y B (Mo.does s o) (n + 1) (fun k => loc k ∨ cBlk (.slice p m c) = some k) ∧ (∀ k, loc k → Y.heap[k]? = X.heap[k]?) ∧ X.heap.size ≤ Y.heap.size

theorem Mf.doOf (h : Mf w X B s n loc) (o : Mo.Op) (hc : ∀ who bc bo f cs, MdV X B s who n bc bo f cs → Calls Try.prog 10 #[.pointer (some ⟨B, 0, none⟩), .agg #[.int .i64 o.kind, .string o.space, .string o.channel, .string o.user, .string o.text, .string o.toSpace, .string o.to, .int .i64 o.frm, .int .i64 o.most]] X (DoOut who X B s n o)) :
    Calls Try.prog 10 #[.pointer (some ⟨B, 0, none⟩), .agg #[.int .i64 o.kind, .string o.space, .string o.channel, .string o.user, .string o.text, .string o.toSpace, .string o.to, .int .i64 o.frm, .int .i64 o.most]] X (DoF w X B s n loc o) := by
  obtain ⟨who, ⟨bc, bo, f, cs, h1⟩, h2, h3, h4⟩ := h
  refine (hc who bc bo f cs h1).mono ?_
  rintro e Y ⟨v, who', rfl, hr, hg, ha⟩
  obtain ⟨p, c, hv, _⟩ := hr.form
  subst hv
  obtain ⟨q1, q2⟩ := Mf.aft (w := w) h2 h3 h4 ha (loc' := fun k => cBlk (.slice p (Mo.tells s o).posts.length c) = some k) (fun k hk => ⟨RowC.lt hr (by omega) hk, (hg k hk).2⟩)
  exact ⟨p, _, c, rfl, rfl, hr, q1, q2, ha.2.2.size⟩

/-- Do of any op but a move and a close. -/
theorem Mf.doC (h : Mf w X B s n loc) (hn : n < 1099511627776) (o : Mo.Op) (ho : OpOk o) (h5 : o.kind ≠ 5) (h6 : o.kind ≠ 6) :
    Calls Try.prog 10 #[.pointer (some ⟨B, 0, none⟩), .agg #[.int .i64 o.kind, .string o.space, .string o.channel, .string o.user, .string o.text, .string o.toSpace, .string o.to, .int .i64 o.frm, .int .i64 o.most]] X (DoF w X B s n loc o) := by
  refine h.doOf o (fun who bc bo f cs hV => ?_)
  cases hm : Mo.may o with
  | false => exact Do_bad hV o ho hm
  | true =>
    rcases may_kind hm with q | q | q | q | q | q | q
    · exact Do_1 hV hn o ho hm q
    · exact Do_2 hV hn o ho hm q
    · exact Do_3 hV o ho hm q
    · exact Do_4 hV o ho hm q
    · exact absurd q h5
    · exact absurd q h6
    · exact Do_7 hV hn o ho hm q

/-- A model that New gave. -/
theorem New_fresh (X : World) (h0 : Below w.heap.size w X) : Calls Try.prog 9 #[] X fun e Y => e = .returned (.pointer (some ⟨X.heap.size + 2, 0, none⟩)) ∧ Mf w Y (X.heap.size + 2) Mo.new 0 (fun k => k < X.heap.size) ∧ Below X.heap.size X Y := by
  refine (New_c X).mono ?_
  rintro e Y ⟨rfl, who, h1, h2, h3⟩
  have hs := h0.size
  have hs' := h3.size
  refine ⟨rfl, ⟨who, h1, h0.trans (h3.mono h0.size), fun k hk => by have := h2 k hk; omega, fun k hk => ⟨by omega, ?_⟩⟩, h3⟩
  by_cases e : who k = 0
  · exact e
  · have := h2 k e
    omega

/-- A model beside boxes of replies. -/
def Mb (w X : World) (B : Nat) (s : Mo.St) (n : Nat) (l : List (Nat × Int × Int)) : Prop :=
  ∃ loc, Mf w X B s n loc ∧ ∀ q ∈ l, loc q.1 ∧ X.cell? ⟨q.1, 0, none⟩ = some (.int .i64 q.2.1) ∧ X.cell? ⟨q.1, 1, none⟩ = some (.int .i64 q.2.2)

theorem Mb.old {l : List (Nat × Int × Int)} (h : Mb w X B s n l) : Below w.heap.size w X := by obtain ⟨loc, h, _⟩ := h; exact h.old
theorem Mb.more {m : Nat} {l : List (Nat × Int × Int)} (h : Mb w X B s n l) (hm : n ≤ m) : Mb w X B s m l := by
  obtain ⟨loc, h1, h2⟩ := h
  exact ⟨loc, h1.more hm, h2⟩
theorem Mb.below {l : List (Nat × Int × Int)} (h : Mb w X B s n l) (hb : Below X.heap.size X Y) : Mb w Y B s n l := by
  obtain ⟨loc, h1, h2⟩ := h
  exact ⟨loc, h1.below hb, fun q hq => ⟨(h2 q hq).1, (hb.cell (p := ⟨q.1, 0, none⟩) (h1.lloc (h2 q hq).1)).trans (h2 q hq).2.1, (hb.cell (p := ⟨q.1, 1, none⟩) (h1.lloc (h2 q hq).1)).trans (h2 q hq).2.2⟩⟩
theorem Mb.less {l l' : List (Nat × Int × Int)} (h : Mb w X B s n l) (hl : ∀ q ∈ l', q ∈ l) : Mb w X B s n l' := by
  obtain ⟨loc, h1, h2⟩ := h
  exact ⟨loc, h1, fun q hq => h2 q (hl q hq)⟩
theorem Mb.box {l : List (Nat × Int × Int)} (h : Mb w X B s n l) (E A : Int) (v : Value) (T : TypeId) : Mb w (X.alloc (.cells #[.int .i64 E, .int .i64 A, v] T)) B s n ((X.heap.size, E, A) :: l) := by
  have hb := below_alloc X (.cells #[.int .i64 E, .int .i64 A, v] T)
  have hx := h.below hb
  obtain ⟨loc, h1, h2⟩ := h
  obtain ⟨loc', _, _⟩ := hx
  refine ⟨_, h1.grow hb, fun q hq => ?_⟩
  rcases List.mem_cons.1 hq with rfl | hq
  · exact ⟨.inr ⟨Nat.le_refl _, by simp⟩, World.cell?_alloc_mark X _ _ _ 0, World.cell?_alloc_mark X _ _ _ 1⟩
  · exact ⟨.inl (h2 q hq).1, (hb.cell (p := ⟨q.1, 0, none⟩) (h1.lloc (h2 q hq).1)).trans (h2 q hq).2.1, (hb.cell (p := ⟨q.1, 1, none⟩) (h1.lloc (h2 q hq).1)).trans (h2 q hq).2.2⟩

/-- What Do leaves beside boxes. -/
def DoB (w : World) (B : Nat) (s : Mo.St) (n : Nat) (l : List (Nat × Int × Int)) (o : Mo.Op) (e : Ending) (Y : World) : Prop :=
  ∃ p m c, e = .returned (.agg #[.int .i64 (Mo.tells s o).err, .int .i64 (Mo.tells s o).at_, .slice p m c]) ∧ m = (Mo.tells s o).posts.length ∧ RowC Y 2 (.slice p m c) m (poCells (Mo.tells s o).posts) ∧ Mb w Y B (Mo.does s o) (n + 1) l

theorem Mb.doC {l : List (Nat × Int × Int)} (h : Mb w X B s n l) (hn : n < 1099511627776) (o : Mo.Op) (ho : OpOk o) (h5 : o.kind ≠ 5) (h6 : o.kind ≠ 6) :
    Calls Try.prog 10 #[.pointer (some ⟨B, 0, none⟩), .agg #[.int .i64 o.kind, .string o.space, .string o.channel, .string o.user, .string o.text, .string o.toSpace, .string o.to, .int .i64 o.frm, .int .i64 o.most]] X (DoB w B s n l o) := by
  obtain ⟨loc, h1, h2⟩ := h
  refine (h1.doC hn o ho h5 h6).mono ?_
  rintro e Y ⟨p, m, c, rfl, hm, hr, hM, hk, _⟩
  exact ⟨p, m, c, rfl, hm, hr, _, hM, fun q hq => ⟨.inl (h2 q hq).1, (World.cell?_of_block (a := ⟨q.1, 0, none⟩) (hk _ (h2 q hq).1)).trans (h2 q hq).2.1, (World.cell?_of_block (a := ⟨q.1, 1, none⟩) (hk _ (h2 q hq).1)).trans (h2 q hq).2.2⟩⟩

end

/-- Small texts may be. -/
theorem Ok.of {x : ByteArray} (h : x.size ≤ 2000) : Ok x := by unfold Ok maxLen; omega

/-- w/c has ann, who is not off, and posts. -/
def Gd (s : Mo.St) (y : ByteArray) (posts : List Mo.Po) : Prop := ∃ mem, s.ch ⟨#[119]⟩ y = some ⟨mem, posts⟩ ∧ mem ⟨#[97, 110, 110]⟩ = true ∧ s.off ⟨#[97, 110, 110]⟩ = false

theorem Gd.join {s : Mo.St} {y : ByteArray} {c : Mo.Ch} (h : s.ch ⟨#[119]⟩ y = some c) (hc : c.posts = []) (ho : s.off ⟨#[97, 110, 110]⟩ = false) (hm : c.mem ⟨#[97, 110, 110]⟩ = false) (hmay : Mo.may ⟨2, ⟨#[119]⟩, y, ⟨#[97, 110, 110]⟩, ⟨#[]⟩, ⟨#[]⟩, ⟨#[]⟩, 0, 0⟩ = true) : Mo.tells s ⟨2, ⟨#[119]⟩, y, ⟨#[97, 110, 110]⟩, ⟨#[]⟩, ⟨#[]⟩, ⟨#[]⟩, 0, 0⟩ = ⟨0, 0, []⟩ ∧ Gd (Mo.does s ⟨2, ⟨#[119]⟩, y, ⟨#[97, 110, 110]⟩, ⟨#[]⟩, ⟨#[]⟩, ⟨#[]⟩, 0, 0⟩) y [] := by
  refine ⟨by simp [Mo.tells, hmay, h, ho, hm], ?_⟩
  have : Mo.does s ⟨2, ⟨#[119]⟩, y, ⟨#[97, 110, 110]⟩, ⟨#[]⟩, ⟨#[]⟩, ⟨#[]⟩, 0, 0⟩ = Mo.setC s ⟨#[119]⟩ y (some (Mo.withM c ⟨#[97, 110, 110]⟩)) := by simp [Mo.does, hmay, h, ho, hm]
  rw [this]
  exact ⟨fun x => if x = ⟨#[97, 110, 110]⟩ then true else c.mem x, by simp [Mo.setC, Mo.withM, hc], by simp, ho⟩

theorem Gd.post {s : Mo.St} {y : ByteArray} {posts : List Mo.Po} (h : Gd s y posts) {t : ByteArray} (hl : posts.length < 1024) (hmay : Mo.may ⟨3, ⟨#[119]⟩, y, ⟨#[97, 110, 110]⟩, t, ⟨#[]⟩, ⟨#[]⟩, 0, 0⟩ = true) : Mo.tells s ⟨3, ⟨#[119]⟩, y, ⟨#[97, 110, 110]⟩, t, ⟨#[]⟩, ⟨#[]⟩, 0, 0⟩ = ⟨0, (posts.length : Int), []⟩ ∧ Gd (Mo.does s ⟨3, ⟨#[119]⟩, y, ⟨#[97, 110, 110]⟩, t, ⟨#[]⟩, ⟨#[]⟩, 0, 0⟩) y (posts ++ [⟨⟨#[97, 110, 110]⟩, t⟩]) := by
  obtain ⟨mem, h1, h2, h3⟩ := h
  have hz : Mo.mayPost s ⟨mem, posts⟩ ⟨#[97, 110, 110]⟩ = 0 := by
    unfold Mo.mayPost
    dsimp only
    rw [if_neg (by rw [h3]; decide), if_neg (by rw [h2]; decide), if_neg (by omega)]
  refine ⟨by simp [Mo.tells, hmay, h1, hz], ?_⟩
  have : Mo.does s ⟨3, ⟨#[119]⟩, y, ⟨#[97, 110, 110]⟩, t, ⟨#[]⟩, ⟨#[]⟩, 0, 0⟩ = Mo.setC s ⟨#[119]⟩ y (some (Mo.withP ⟨mem, posts⟩ ⟨⟨#[97, 110, 110]⟩, t⟩)) := by simp [Mo.does, hmay, h1, hz]
  rw [this]
  exact ⟨mem, by simp [Mo.setC, Mo.withP], h2, h3⟩

theorem Gd.full {s : Mo.St} {y : ByteArray} {posts : List Mo.Po} (h : Gd s y posts) {t : ByteArray} (hl : 1024 ≤ posts.length) (hmay : Mo.may ⟨3, ⟨#[119]⟩, y, ⟨#[97, 110, 110]⟩, t, ⟨#[]⟩, ⟨#[]⟩, 0, 0⟩ = true) : Mo.tells s ⟨3, ⟨#[119]⟩, y, ⟨#[97, 110, 110]⟩, t, ⟨#[]⟩, ⟨#[]⟩, 0, 0⟩ = ⟨2, 0, []⟩ ∧ Gd (Mo.does s ⟨3, ⟨#[119]⟩, y, ⟨#[97, 110, 110]⟩, t, ⟨#[]⟩, ⟨#[]⟩, 0, 0⟩) y posts := by
  obtain ⟨mem, h1, h2, h3⟩ := h
  have hz : Mo.mayPost s ⟨mem, posts⟩ ⟨#[97, 110, 110]⟩ = 2 := by
    unfold Mo.mayPost
    dsimp only
    rw [if_neg (by rw [h3]; decide), if_neg (by rw [h2]; decide), if_pos hl]
  have : Mo.does s ⟨3, ⟨#[119]⟩, y, ⟨#[97, 110, 110]⟩, t, ⟨#[]⟩, ⟨#[]⟩, 0, 0⟩ = s := by simp [Mo.does, hmay, h1, hz]
  exact ⟨by simp [Mo.tells, hmay, h1, hz], by rw [this]; exact ⟨mem, h1, h2, h3⟩⟩

theorem make_first {s : Mo.St} {y : ByteArray} (h : s.ch ⟨#[119]⟩ y = none) (hmay : Mo.may ⟨1, ⟨#[119]⟩, y, ⟨#[]⟩, ⟨#[]⟩, ⟨#[]⟩, ⟨#[]⟩, 0, 0⟩ = true) : Mo.tells s ⟨1, ⟨#[119]⟩, y, ⟨#[]⟩, ⟨#[]⟩, ⟨#[]⟩, ⟨#[]⟩, 0, 0⟩ = ⟨0, 0, []⟩ ∧ Mo.does s ⟨1, ⟨#[119]⟩, y, ⟨#[]⟩, ⟨#[]⟩, ⟨#[]⟩, ⟨#[]⟩, 0, 0⟩ = Mo.setC s ⟨#[119]⟩ y (some Mo.newC) :=
  ⟨by simp [Mo.tells, hmay, h], by simp [Mo.does, hmay, h]⟩

theorem may_make : Mo.may ⟨1, ⟨#[119]⟩, ⟨#[99]⟩, ⟨#[]⟩, ⟨#[]⟩, ⟨#[]⟩, ⟨#[]⟩, 0, 0⟩ = true := by decide
theorem may_join : Mo.may ⟨2, ⟨#[119]⟩, ⟨#[99]⟩, ⟨#[97, 110, 110]⟩, ⟨#[]⟩, ⟨#[]⟩, ⟨#[]⟩, 0, 0⟩ = true := by decide
theorem may_off : Mo.may ⟨7, ⟨#[]⟩, ⟨#[]⟩, ⟨#[97, 110, 110]⟩, ⟨#[]⟩, ⟨#[]⟩, ⟨#[]⟩, 0, 0⟩ = true := by decide

/-- The law's post. -/
theorem post_op (t : ByteArray) (w : World) : Calls Try.prog 16 #[.string t] w fun e w' => e = .returned (.agg #[.int .i64 3, .string ⟨#[119]⟩, .string ⟨#[99]⟩, .string ⟨#[97, 110, 110]⟩, .string t, .string ⟨#[]⟩, .string ⟨#[]⟩, .int .i64 0, .int .i64 0]) ∧ Below w.heap.size w w' := by
  have HB : Hid (∀ o, Below w.heap.size w (w.alloc o)) := fun o => below_alloc w o
  go_enter Try.func16, Try.ntmps16
  go_wp2
  refine bodyPost_ret (v := .agg #[.int .i64 3, .string ⟨#[119]⟩, .string ⟨#[99]⟩, .string ⟨#[97, 110, 110]⟩, .string t, .string ⟨#[]⟩, .string ⟨#[]⟩, .int .i64 0, .int .i64 0]) ?qres rfl ?qpost
  case qres => simp [results, Try.results16, go_sem]
  case qpost => exact ⟨rfl, HB.out _⟩

set_option maxHeartbeats 1600000 in
set_option maxRecDepth 20000 in
theorem awake_c (w : World) : Calls Try.prog 11 #[] w fun e w' => e = .returned (.bool true) ∧ Below w.heap.size w w' := by
  have HNew : Hid _ := New_fresh (w := w) w (Below.refl _ w)
  obtain ⟨B, hB⟩ : ∃ B, B = w.heap.size + 2 := ⟨_, rfl⟩
  rw [← hB] at HNew
  have HP : Hid (∀ t X, Calls Try.prog 16 #[.string t] X fun e w' => e = .returned (.agg #[.int .i64 3, .string ⟨#[119]⟩, .string ⟨#[99]⟩, .string ⟨#[97, 110, 110]⟩, .string t, .string ⟨#[]⟩, .string ⟨#[]⟩, .int .i64 0, .int .i64 0]) ∧ Below X.heap.size X w') := post_op
  obtain ⟨a1, b1⟩ := make_first (s := Mo.new) rfl may_make
  obtain ⟨s1, hs1⟩ : ∃ s1, s1 = Mo.does Mo.new ⟨1, ⟨#[119]⟩, ⟨#[99]⟩, ⟨#[]⟩, ⟨#[]⟩, ⟨#[]⟩, ⟨#[]⟩, 0, 0⟩ := ⟨_, rfl⟩
  rw [← hs1] at b1
  obtain ⟨a2, g2⟩ := Gd.join (s := s1) (c := Mo.newC) (y := ⟨#[99]⟩) (by rw [b1]; rfl) rfl (by rw [b1]; rfl) rfl may_join
  obtain ⟨s2, hs2⟩ : ∃ s2, s2 = Mo.does s1 ⟨2, ⟨#[119]⟩, ⟨#[99]⟩, ⟨#[97, 110, 110]⟩, ⟨#[]⟩, ⟨#[]⟩, ⟨#[]⟩, 0, 0⟩ := ⟨_, rfl⟩
  rw [← hs2] at g2
  obtain ⟨a3, g3⟩ := g2.post (t := ⟨#[104, 105]⟩) (by simp) (by decide)
  obtain ⟨s3, hs3⟩ : ∃ s3, s3 = Mo.does s2 ⟨3, ⟨#[119]⟩, ⟨#[99]⟩, ⟨#[97, 110, 110]⟩, ⟨#[104, 105]⟩, ⟨#[]⟩, ⟨#[]⟩, 0, 0⟩ := ⟨_, rfl⟩
  rw [← hs3] at g3
  obtain ⟨a4, g4⟩ := g3.post (t := ⟨#[104, 111]⟩) (by simp) (by decide)
  obtain ⟨s4, hs4⟩ : ∃ s4, s4 = Mo.does s3 ⟨3, ⟨#[119]⟩, ⟨#[99]⟩, ⟨#[97, 110, 110]⟩, ⟨#[104, 111]⟩, ⟨#[]⟩, ⟨#[]⟩, 0, 0⟩ := ⟨_, rfl⟩
  rw [← hs4] at g4
  obtain ⟨mem, m1, m2, m3⟩ := g4
  have a5 : Mo.tells s4 ⟨7, ⟨#[]⟩, ⟨#[]⟩, ⟨#[97, 110, 110]⟩, ⟨#[]⟩, ⟨#[]⟩, ⟨#[]⟩, 0, 0⟩ = ⟨0, 0, []⟩ := by simp [Mo.tells, may_off, m3]
  obtain ⟨s5, hs5⟩ : ∃ s5, s5 = Mo.does s4 ⟨7, ⟨#[]⟩, ⟨#[]⟩, ⟨#[97, 110, 110]⟩, ⟨#[]⟩, ⟨#[]⟩, ⟨#[]⟩, 0, 0⟩ := ⟨_, rfl⟩
  have b5 : s5 = ⟨fun a b => (s4.ch a b).map (Mo.lessM · ⟨#[97, 110, 110]⟩), fun x => if x = ⟨#[97, 110, 110]⟩ then true else s4.off x⟩ := by rw [hs5]; simp [Mo.does, may_off, m3]
  have a6 : Mo.tells s5 ⟨3, ⟨#[119]⟩, ⟨#[99]⟩, ⟨#[97, 110, 110]⟩, ⟨#[110, 111]⟩, ⟨#[]⟩, ⟨#[]⟩, 0, 0⟩ = ⟨92, 0, []⟩ := by
    have hmay : Mo.may ⟨3, ⟨#[119]⟩, ⟨#[99]⟩, ⟨#[97, 110, 110]⟩, ⟨#[110, 111]⟩, ⟨#[]⟩, ⟨#[]⟩, 0, 0⟩ = true := by decide
    obtain ⟨c5, hch⟩ : ∃ c5, s5.ch ⟨#[119]⟩ ⟨#[99]⟩ = some c5 := ⟨_, by rw [b5]; show (s4.ch ⟨#[119]⟩ ⟨#[99]⟩).map _ = _; rw [m1]; rfl⟩
    have hof : s5.off ⟨#[97, 110, 110]⟩ = true := by rw [b5]; simp
    simp [Mo.tells, hmay, hch, hof, Mo.mayPost]
  have HD1 : Hid (∀ X l, Mb w X B Mo.new 0 l → Calls Try.prog 10 #[.pointer (some ⟨B, 0, none⟩), .agg #[.int .i64 1, .string ⟨#[119]⟩, .string ⟨#[99]⟩, .string ⟨#[]⟩, .string ⟨#[]⟩, .string ⟨#[]⟩, .string ⟨#[]⟩, .int .i64 0, .int .i64 0]] X fun e Y => ∃ p m c, e = .returned (.agg #[.int .i64 0, .int .i64 0, .slice p m c]) ∧ Mb w Y B s1 1 l) := fun X l h => by
    refine (h.doC (by omega) ⟨1, ⟨#[119]⟩, ⟨#[99]⟩, ⟨#[]⟩, ⟨#[]⟩, ⟨#[]⟩, ⟨#[]⟩, 0, 0⟩ ⟨Ok.of (by decide), Ok.of (by decide), Ok.of (by decide), Ok.of (by decide), Ok.of (by decide), Ok.of (by decide)⟩ (by decide) (by decide)).mono ?_
    rintro e Y ⟨p, m, c, he, _, _, hM⟩
    rw [a1] at he
    rw [← hs1] at hM
    exact ⟨p, m, c, he, hM⟩
  have HD2 : Hid (∀ X l, Mb w X B s1 1 l → Calls Try.prog 10 #[.pointer (some ⟨B, 0, none⟩), .agg #[.int .i64 2, .string ⟨#[119]⟩, .string ⟨#[99]⟩, .string ⟨#[97, 110, 110]⟩, .string ⟨#[]⟩, .string ⟨#[]⟩, .string ⟨#[]⟩, .int .i64 0, .int .i64 0]] X fun e Y => ∃ p m c, e = .returned (.agg #[.int .i64 0, .int .i64 0, .slice p m c]) ∧ Mb w Y B s2 2 l) := fun X l h => by
    refine (h.doC (by omega) ⟨2, ⟨#[119]⟩, ⟨#[99]⟩, ⟨#[97, 110, 110]⟩, ⟨#[]⟩, ⟨#[]⟩, ⟨#[]⟩, 0, 0⟩ ⟨Ok.of (by decide), Ok.of (by decide), Ok.of (by decide), Ok.of (by decide), Ok.of (by decide), Ok.of (by decide)⟩ (by decide) (by decide)).mono ?_
    rintro e Y ⟨p, m, c, he, _, _, hM⟩
    rw [a2] at he
    rw [← hs2] at hM
    exact ⟨p, m, c, he, hM⟩
  have HD3 : Hid (∀ X l, Mb w X B s2 2 l → Calls Try.prog 10 #[.pointer (some ⟨B, 0, none⟩), .agg #[.int .i64 3, .string ⟨#[119]⟩, .string ⟨#[99]⟩, .string ⟨#[97, 110, 110]⟩, .string ⟨#[104, 105]⟩, .string ⟨#[]⟩, .string ⟨#[]⟩, .int .i64 0, .int .i64 0]] X fun e Y => ∃ p m c, e = .returned (.agg #[.int .i64 0, .int .i64 0, .slice p m c]) ∧ Mb w Y B s3 3 l) := fun X l h => by
    refine (h.doC (by omega) ⟨3, ⟨#[119]⟩, ⟨#[99]⟩, ⟨#[97, 110, 110]⟩, ⟨#[104, 105]⟩, ⟨#[]⟩, ⟨#[]⟩, 0, 0⟩ ⟨Ok.of (by decide), Ok.of (by decide), Ok.of (by decide), Ok.of (by decide), Ok.of (by decide), Ok.of (by decide)⟩ (by decide) (by decide)).mono ?_
    rintro e Y ⟨p, m, c, he, _, _, hM⟩
    rw [a3] at he
    rw [← hs3] at hM
    exact ⟨p, m, c, he, hM⟩
  have HD4 : Hid (∀ X l, Mb w X B s3 3 l → Calls Try.prog 10 #[.pointer (some ⟨B, 0, none⟩), .agg #[.int .i64 3, .string ⟨#[119]⟩, .string ⟨#[99]⟩, .string ⟨#[97, 110, 110]⟩, .string ⟨#[104, 111]⟩, .string ⟨#[]⟩, .string ⟨#[]⟩, .int .i64 0, .int .i64 0]] X fun e Y => ∃ p m c, e = .returned (.agg #[.int .i64 0, .int .i64 1, .slice p m c]) ∧ Mb w Y B s4 4 l) := fun X l h => by
    refine (h.doC (by omega) ⟨3, ⟨#[119]⟩, ⟨#[99]⟩, ⟨#[97, 110, 110]⟩, ⟨#[104, 111]⟩, ⟨#[]⟩, ⟨#[]⟩, 0, 0⟩ ⟨Ok.of (by decide), Ok.of (by decide), Ok.of (by decide), Ok.of (by decide), Ok.of (by decide), Ok.of (by decide)⟩ (by decide) (by decide)).mono ?_
    rintro e Y ⟨p, m, c, he, _, _, hM⟩
    rw [a4] at he
    rw [← hs4] at hM
    exact ⟨p, m, c, he, hM⟩
  have HD5 : Hid (∀ X l, Mb w X B s4 4 l → Calls Try.prog 10 #[.pointer (some ⟨B, 0, none⟩), .agg #[.int .i64 7, .string ⟨#[]⟩, .string ⟨#[]⟩, .string ⟨#[97, 110, 110]⟩, .string ⟨#[]⟩, .string ⟨#[]⟩, .string ⟨#[]⟩, .int .i64 0, .int .i64 0]] X fun e Y => ∃ p m c, e = .returned (.agg #[.int .i64 0, .int .i64 0, .slice p m c]) ∧ Mb w Y B s5 5 l) := fun X l h => by
    refine (h.doC (by omega) ⟨7, ⟨#[]⟩, ⟨#[]⟩, ⟨#[97, 110, 110]⟩, ⟨#[]⟩, ⟨#[]⟩, ⟨#[]⟩, 0, 0⟩ ⟨Ok.of (by decide), Ok.of (by decide), Ok.of (by decide), Ok.of (by decide), Ok.of (by decide), Ok.of (by decide)⟩ (by decide) (by decide)).mono ?_
    rintro e Y ⟨p, m, c, he, _, _, hM⟩
    rw [a5] at he
    rw [← hs5] at hM
    exact ⟨p, m, c, he, hM⟩
  have HD6 : Hid (∀ X l, Mb w X B s5 5 l → Calls Try.prog 10 #[.pointer (some ⟨B, 0, none⟩), .agg #[.int .i64 3, .string ⟨#[119]⟩, .string ⟨#[99]⟩, .string ⟨#[97, 110, 110]⟩, .string ⟨#[110, 111]⟩, .string ⟨#[]⟩, .string ⟨#[]⟩, .int .i64 0, .int .i64 0]] X fun e Y => ∃ p m c, e = .returned (.agg #[.int .i64 92, .int .i64 0, .slice p m c]) ∧ Mb w Y B (Mo.does s5 ⟨3, ⟨#[119]⟩, ⟨#[99]⟩, ⟨#[97, 110, 110]⟩, ⟨#[110, 111]⟩, ⟨#[]⟩, ⟨#[]⟩, 0, 0⟩) 6 l) := fun X l h => by
    refine (h.doC (by omega) ⟨3, ⟨#[119]⟩, ⟨#[99]⟩, ⟨#[97, 110, 110]⟩, ⟨#[110, 111]⟩, ⟨#[]⟩, ⟨#[]⟩, 0, 0⟩ ⟨Ok.of (by decide), Ok.of (by decide), Ok.of (by decide), Ok.of (by decide), Ok.of (by decide), Ok.of (by decide)⟩ (by decide) (by decide)).mono ?_
    rintro e Y ⟨p, m, c, he, _, _, hM⟩
    rw [a6] at he
    skip
    exact ⟨p, m, c, he, hM⟩
  clear a1 b1 a2 g2 a3 g3 a4 a5 b5 a6 m1 m2 m3 hB hs1 hs2 hs3 hs4 hs5
  go_enter Try.func11, Try.ntmps11
  go_wp2_with fail
  refine Calls.mono HNew.out ?_
  rintro e w0 ⟨rfl, hM, _⟩
  have H0 : Hid (Mb w w0 B Mo.new 0 []) := ⟨_, hM, fun q hq => (by cases hq)⟩
  clear hM
  go_wp2_with fail
  refine (HD1.out _ _ H0.out).mono ?_
  rintro e y1 ⟨p1, m1, c1, rfl, hM⟩
  obtain ⟨b1, hb⟩ : ∃ b, b = y1.heap.size := ⟨_, rfl⟩
  obtain ⟨w1, hw⟩ : ∃ z, z = y1.alloc (.cells #[.int .i64 0, .int .i64 0, .slice p1 m1 c1] 29) := ⟨_, rfl⟩
  have H1 : Hid (Mb w w1 B s1 1 [(b1, 0, 0)]) := by rw [hw, hb]; exact hM.box _ _ _ _
  have HE1 : Hid (b1 = y1.heap.size ∧ w1 = y1.alloc (.cells #[.int .i64 0, .int .i64 0, .slice p1 m1 c1] 29)) := ⟨hb, hw⟩
  clear hb hw hM
  go_wp2_with fail
  rw [← HE1.out.2, ← HE1.out.1]
  refine (HD2.out _ _ H1.out).mono ?_
  rintro e y2 ⟨p2, m2, c2, rfl, hM⟩
  obtain ⟨b2, hb⟩ : ∃ b, b = y2.heap.size := ⟨_, rfl⟩
  obtain ⟨w2, hw⟩ : ∃ z, z = y2.alloc (.cells #[.int .i64 0, .int .i64 0, .slice p2 m2 c2] 29) := ⟨_, rfl⟩
  have H2 : Hid (Mb w w2 B s2 2 [(b2, 0, 0), (b1, 0, 0)]) := by rw [hw, hb]; exact hM.box _ _ _ _
  have HE2 : Hid (b2 = y2.heap.size ∧ w2 = y2.alloc (.cells #[.int .i64 0, .int .i64 0, .slice p2 m2 c2] 29)) := ⟨hb, hw⟩
  clear hb hw hM
  go_wp2_with fail
  rw [← HE2.out.2, ← HE2.out.1]
  refine (HP.out _ _).mono ?_
  rintro e z2 ⟨rfl, hb⟩
  have H2 : Hid (Mb w z2 B s2 2 [(b2, 0, 0), (b1, 0, 0)]) := H2.out.below hb
  clear hb
  go_wp2_with fail
  refine (HD3.out _ _ H2.out).mono ?_
  rintro e y3 ⟨p3, m3, c3, rfl, hM⟩
  obtain ⟨b3, hb⟩ : ∃ b, b = y3.heap.size := ⟨_, rfl⟩
  obtain ⟨w3, hw⟩ : ∃ z, z = y3.alloc (.cells #[.int .i64 0, .int .i64 0, .slice p3 m3 c3] 29) := ⟨_, rfl⟩
  have H3 : Hid (Mb w w3 B s3 3 [(b3, 0, 0), (b2, 0, 0), (b1, 0, 0)]) := by rw [hw, hb]; exact hM.box _ _ _ _
  have HE3 : Hid (b3 = y3.heap.size ∧ w3 = y3.alloc (.cells #[.int .i64 0, .int .i64 0, .slice p3 m3 c3] 29)) := ⟨hb, hw⟩
  clear hb hw hM
  go_wp2_with fail
  rw [← HE3.out.2, ← HE3.out.1]
  refine (HP.out _ _).mono ?_
  rintro e z3 ⟨rfl, hb⟩
  have H3 : Hid (Mb w z3 B s3 3 [(b3, 0, 0), (b2, 0, 0), (b1, 0, 0)]) := H3.out.below hb
  clear hb
  go_wp2_with fail
  refine (HD4.out _ _ H3.out).mono ?_
  rintro e y4 ⟨p4, m4, c4, rfl, hM⟩
  obtain ⟨b4, hb⟩ : ∃ b, b = y4.heap.size := ⟨_, rfl⟩
  obtain ⟨w4, hw⟩ : ∃ z, z = y4.alloc (.cells #[.int .i64 0, .int .i64 1, .slice p4 m4 c4] 29) := ⟨_, rfl⟩
  have H4 : Hid (Mb w w4 B s4 4 [(b4, 0, 1), (b3, 0, 0), (b2, 0, 0), (b1, 0, 0)]) := by rw [hw, hb]; exact hM.box _ _ _ _
  have HE4 : Hid (b4 = y4.heap.size ∧ w4 = y4.alloc (.cells #[.int .i64 0, .int .i64 1, .slice p4 m4 c4] 29)) := ⟨hb, hw⟩
  clear hb hw hM
  go_wp2_with fail
  rw [← HE4.out.2, ← HE4.out.1]
  refine (HD5.out _ _ H4.out).mono ?_
  rintro e y5 ⟨p5, m5, c5, rfl, hM⟩
  obtain ⟨b5, hb⟩ : ∃ b, b = y5.heap.size := ⟨_, rfl⟩
  obtain ⟨w5, hw⟩ : ∃ z, z = y5.alloc (.cells #[.int .i64 0, .int .i64 0, .slice p5 m5 c5] 29) := ⟨_, rfl⟩
  have H5 : Hid (Mb w w5 B s5 5 [(b5, 0, 0), (b4, 0, 1), (b3, 0, 0), (b2, 0, 0), (b1, 0, 0)]) := by rw [hw, hb]; exact hM.box _ _ _ _
  have HE5 : Hid (b5 = y5.heap.size ∧ w5 = y5.alloc (.cells #[.int .i64 0, .int .i64 0, .slice p5 m5 c5] 29)) := ⟨hb, hw⟩
  clear hb hw hM
  go_wp2_with fail
  rw [← HE5.out.2, ← HE5.out.1]
  refine (HP.out _ _).mono ?_
  rintro e z5 ⟨rfl, hb⟩
  have H5 : Hid (Mb w z5 B s5 5 [(b5, 0, 0), (b4, 0, 1), (b3, 0, 0), (b2, 0, 0), (b1, 0, 0)]) := H5.out.below hb
  clear hb
  go_wp2_with fail
  refine (HD6.out _ _ H5.out).mono ?_
  rintro e y6 ⟨p6, m6, c6, rfl, hM⟩
  obtain ⟨b6, hb⟩ : ∃ b, b = y6.heap.size := ⟨_, rfl⟩
  obtain ⟨w6, hw⟩ : ∃ z, z = y6.alloc (.cells #[.int .i64 92, .int .i64 0, .slice p6 m6 c6] 29) := ⟨_, rfl⟩
  have H6 : Hid (Mb w w6 B (Mo.does s5 ⟨3, ⟨#[119]⟩, ⟨#[99]⟩, ⟨#[97, 110, 110]⟩, ⟨#[110, 111]⟩, ⟨#[]⟩, ⟨#[]⟩, 0, 0⟩) 6 [(b6, 92, 0), (b5, 0, 0), (b4, 0, 1), (b3, 0, 0), (b2, 0, 0), (b1, 0, 0)]) := by rw [hw, hb]; exact hM.box _ _ _ _
  have HE6 : Hid (b6 = y6.heap.size ∧ w6 = y6.alloc (.cells #[.int .i64 92, .int .i64 0, .slice p6 m6 c6] 29)) := ⟨hb, hw⟩
  clear hb hw hM
  have HOld := H6.out.old
  obtain ⟨loc, _, hL⟩ := H6.out
  obtain ⟨_, c10, c11⟩ := hL (b1, 0, 0) (by simp)
  obtain ⟨_, c20, c21⟩ := hL (b2, 0, 0) (by simp)
  obtain ⟨_, c30, c31⟩ := hL (b3, 0, 0) (by simp)
  obtain ⟨_, c40, c41⟩ := hL (b4, 0, 1) (by simp)
  obtain ⟨_, c50, c51⟩ := hL (b5, 0, 0) (by simp)
  obtain ⟨_, c60, c61⟩ := hL (b6, 92, 0) (by simp)
  have HOl : Hid (Below w.heap.size w w6) := HOld
  dsimp only at c10 c11 c20 c21 c30 c31 c40 c41 c50 c51 c60 c61
  rw [HE6.out.2, HE6.out.1] at c60 c61
  rw [HE6.out.2] at c10 c11 c20 c21 c30 c31 c40 c41 c50 c51
  clear hL HOld
  go_wp2
  go_ret
  exact ⟨rfl, by rw [← HE6.out.2]; exact HOl.out⟩

end Go.Proofs.Ytkioeahlajjmiaa
