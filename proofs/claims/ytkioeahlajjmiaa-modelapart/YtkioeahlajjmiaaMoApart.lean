/-
  Two channels with posts of one user; a model beside the law's own arrays.
-/
import Derived.Test.YtkioeahlajjmiaaMoUsers
namespace Go.Proofs.Ytkioeahlajjmiaa
open Go.RowKit

/-- The name of channel k. -/
def cnB (k : Nat) : ByteArray := if k = 0 then ⟨#[99]⟩ else ⟨#[100]⟩
theorem cnB_ok (k : Nat) : Ok (cnB k) := Ok.of (by unfold cnB; split <;> decide)
theorem cnB_inj {a b : Nat} (ha : a < 2) (hb : b < 2) (h : cnB a = cnB b) : a = b := by
  have h1 : a = 0 ∨ a = 1 := by omega
  have h2 : b = 0 ∨ b = 1 := by omega
  rcases h1 with rfl | rfl <;> rcases h2 with rfl | rfl
  · rfl
  · exact absurd h (by decide)
  · exact absurd h (by decide)
  · rfl
/-- The text of post j. -/
def tzB (j : Nat) : ByteArray := ⟨#[(97 + j).toUInt8]⟩
def pz (n : Nat) : List Mo.Po := (List.range n).map fun j => ⟨⟨#[97, 110, 110]⟩, tzB j⟩
theorem pz_len (n : Nat) : (pz n).length = n := by simp [pz]
theorem pz_succ (n : Nat) : pz (n + 1) = pz n ++ [⟨⟨#[97, 110, 110]⟩, tzB n⟩] := by simp [pz, List.range_succ]
theorem pz_at (n j : Nat) (h : j < n) : (pz n)[j]? = some ⟨⟨#[97, 110, 110]⟩, tzB j⟩ := by simp [pz, h]
theorem may_post2 : ∀ (k : Fin 2) (j : Fin 31), Mo.may ⟨3, ⟨#[119]⟩, cnB k.val, ⟨#[97, 110, 110]⟩, tzB j.val, ⟨#[]⟩, ⟨#[]⟩, 0, 0⟩ = true := by decide +kernel
theorem may_make2 : ∀ k : Fin 2, Mo.may ⟨1, ⟨#[119]⟩, cnB k.val, ⟨#[]⟩, ⟨#[]⟩, ⟨#[]⟩, ⟨#[]⟩, 0, 0⟩ = true := by decide +kernel
theorem may_join2 : ∀ k : Fin 2, Mo.may ⟨2, ⟨#[119]⟩, cnB k.val, ⟨#[97, 110, 110]⟩, ⟨#[]⟩, ⟨#[]⟩, ⟨#[]⟩, 0, 0⟩ = true := by decide +kernel
theorem may_read2 : ∀ k : Fin 2, Mo.may ⟨4, ⟨#[119]⟩, cnB k.val, ⟨#[]⟩, ⟨#[]⟩, ⟨#[]⟩, ⟨#[]⟩, 0, 64⟩ = true := by decide +kernel

theorem Gd.aside {s : Mo.St} {x y : ByteArray} {posts : List Mo.Po} {c : Option Mo.Ch} (h : Gd s y posts) (hne : y ≠ x) : Gd (Mo.setC s ⟨#[119]⟩ x c) y posts := by
  obtain ⟨mem, h1, h2, h3⟩ := h
  exact ⟨mem, by simp [Mo.setC, hne, h1], h2, h3⟩

/-- So many channels are made, and ann is a member. -/
def Mk1 (i : Nat) (s : Mo.St) : Prop := s.off = (fun _ => false) ∧ ∀ k, k < 2 → if k < i then Gd s (cnB k) [] else s.ch ⟨#[119]⟩ (cnB k) = none
theorem Mk1.new : Mk1 0 Mo.new := ⟨rfl, fun k _ => by rw [if_neg (by omega)]; rfl⟩
theorem Mk1.step {i : Nat} {s : Mo.St} (h : Mk1 i s) (hi : i < 2) : Mk1 (i + 1) (Mo.does (Mo.does s ⟨1, ⟨#[119]⟩, cnB i, ⟨#[]⟩, ⟨#[]⟩, ⟨#[]⟩, ⟨#[]⟩, 0, 0⟩) ⟨2, ⟨#[119]⟩, cnB i, ⟨#[97, 110, 110]⟩, ⟨#[]⟩, ⟨#[]⟩, ⟨#[]⟩, 0, 0⟩) := by
  obtain ⟨ho, hk⟩ := h
  have hm1 := may_make2 ⟨i, hi⟩
  have hm2 := may_join2 ⟨i, hi⟩
  dsimp only at hm1 hm2
  have hn := hk i hi
  rw [if_neg (by omega)] at hn
  rw [(make_first hn hm1).2]
  obtain ⟨S1, hS1⟩ : ∃ S1, S1 = Mo.setC s ⟨#[119]⟩ (cnB i) (some Mo.newC) := ⟨_, rfl⟩
  have hc : S1.ch ⟨#[119]⟩ (cnB i) = some Mo.newC := by rw [hS1]; simp [Mo.setC]
  have hof : S1.off = fun _ => false := by rw [hS1]; exact ho
  have hot : ∀ k, k < 2 → k ≠ i → S1.ch ⟨#[119]⟩ (cnB k) = s.ch ⟨#[119]⟩ (cnB k) := fun k hk2 e1 => by
    have hne : cnB k ≠ cnB i := fun q => e1 (cnB_inj hk2 hi q)
    rw [hS1]
    simp [Mo.setC, hne]
  rw [← hS1]
  have hga := (Gd.join (s := S1) (y := cnB i) (c := Mo.newC) hc rfl (by rw [hof]) rfl hm2).2
  have e : Mo.does S1 ⟨2, ⟨#[119]⟩, cnB i, ⟨#[97, 110, 110]⟩, ⟨#[]⟩, ⟨#[]⟩, ⟨#[]⟩, 0, 0⟩ = Mo.setC S1 ⟨#[119]⟩ (cnB i) (some (Mo.withM Mo.newC ⟨#[97, 110, 110]⟩)) := by
    have hcm : Mo.newC.mem ⟨#[97, 110, 110]⟩ = false := rfl
    simp [Mo.does, hm2, hc, hof, hcm]
  refine ⟨by rw [e]; exact hof, fun k hk2 => ?_⟩
  by_cases e1 : k = i
  · subst e1
    rw [if_pos (by omega)]
    exact hga
  · have hne : cnB k ≠ cnB i := fun q => e1 (cnB_inj hk2 hi q)
    have q := hk k hk2
    rw [e]
    by_cases e2 : k < i
    · rw [if_pos e2] at q
      rw [if_pos (by omega)]
      rw [hS1]
      exact (q.aside hne).aside hne
    · rw [if_neg e2] at q
      rw [if_neg (by omega)]
      have : (Mo.setC S1 ⟨#[119]⟩ (cnB i) (some (Mo.withM Mo.newC ⟨#[97, 110, 110]⟩))).ch ⟨#[119]⟩ (cnB k) = S1.ch ⟨#[119]⟩ (cnB k) := by simp [Mo.setC, hne]
      rw [this, hot k hk2 e1]
      exact q

/-- So many posts in each. -/
def Mk2 (A : Nat → Nat) (s : Mo.St) : Prop := ∀ k, k < 2 → Gd s (cnB k) (pz (A k))
def upA (A : Nat → Nat) (k : Nat) : Nat → Nat := fun j => if j = k then A k + 1 else A j
theorem Mk1.two {s : Mo.St} (h : Mk1 2 s) : Mk2 (fun _ => 0) s := fun k hk => by
  have := h.2 k hk
  rw [if_pos hk] at this
  exact this
theorem Mk2.post {A : Nat → Nat} {s : Mo.St} (h : Mk2 A s) {k : Nat} (hk : k < 2) (ha : A k < 31) :
    Mo.tells s ⟨3, ⟨#[119]⟩, cnB k, ⟨#[97, 110, 110]⟩, tzB (A k), ⟨#[]⟩, ⟨#[]⟩, 0, 0⟩ = ⟨0, (A k : Int), []⟩ ∧ Mk2 (upA A k) (Mo.does s ⟨3, ⟨#[119]⟩, cnB k, ⟨#[97, 110, 110]⟩, tzB (A k), ⟨#[]⟩, ⟨#[]⟩, 0, 0⟩) := by
  have hm := may_post2 ⟨k, hk⟩ ⟨A k, ha⟩
  dsimp only at hm
  have hl : (pz (A k)).length < 1024 := by rw [pz_len]; omega
  obtain ⟨q1, q2⟩ := (h k hk).post hl hm
  refine ⟨by rw [q1, pz_len], fun j hj => ?_⟩
  by_cases e : j = k
  · subst e
    unfold upA
    rw [if_pos rfl, pz_succ]
    exact q2
  · unfold upA
    rw [if_neg e]
    obtain ⟨mem, h1, h2, h3⟩ := h k hk
    have hz : Mo.mayPost s ⟨mem, pz (A k)⟩ ⟨#[97, 110, 110]⟩ = 0 := by
      unfold Mo.mayPost
      dsimp only
      rw [if_neg (by rw [h3]; decide), if_neg (by rw [h2]; decide), if_neg (by omega)]
    have : Mo.does s ⟨3, ⟨#[119]⟩, cnB k, ⟨#[97, 110, 110]⟩, tzB (A k), ⟨#[]⟩, ⟨#[]⟩, 0, 0⟩ = Mo.setC s ⟨#[119]⟩ (cnB k) (some (Mo.withP ⟨mem, pz (A k)⟩ ⟨⟨#[97, 110, 110]⟩, tzB (A k)⟩)) := by simp [Mo.does, hm, h1, hz]
    rw [this]
    exact (h j hj).aside (fun q => e (cnB_inj hj hk q))
theorem Mk2.read {A : Nat → Nat} {s : Mo.St} (h : Mk2 A s) {k : Nat} (hk : k < 2) (ha : A k < 32) :
    Mo.tells s ⟨4, ⟨#[119]⟩, cnB k, ⟨#[]⟩, ⟨#[]⟩, ⟨#[]⟩, ⟨#[]⟩, 0, 64⟩ = ⟨0, (A k : Int), pz (A k)⟩ ∧ Mo.does s ⟨4, ⟨#[119]⟩, cnB k, ⟨#[]⟩, ⟨#[]⟩, ⟨#[]⟩, ⟨#[]⟩, 0, 64⟩ = s := by
  have hm := may_read2 ⟨k, hk⟩
  dsimp only at hm
  obtain ⟨mem, h1, _⟩ := h k hk
  have e1 : Mo.frmN ⟨4, ⟨#[119]⟩, cnB k, ⟨#[]⟩, ⟨#[]⟩, ⟨#[]⟩, ⟨#[]⟩, 0, 64⟩ ⟨mem, pz (A k)⟩ = 0 := by unfold Mo.frmN; simp
  have e2 : Mo.endN ⟨4, ⟨#[119]⟩, cnB k, ⟨#[]⟩, ⟨#[]⟩, ⟨#[]⟩, ⟨#[]⟩, 0, 64⟩ ⟨mem, pz (A k)⟩ = A k := by unfold Mo.endN; rw [e1]; dsimp only; rw [pz_len]; show min (0 + 64) (A k) = A k; omega
  refine ⟨?_, by simp [Mo.does, hm]⟩
  simp [Mo.tells, hm, h1, e1, e2]
  exact List.take_of_length_le (by rw [pz_len]; exact Nat.le_refl _)

/-- A store into a block of the caller's own. -/
theorem Mf.set {w X : World} {B : Nat} {s : Mo.St} {n : Nat} {loc : Nat → Prop} (h : Mf w X B s n loc) {b o : Nat} (hb : loc b) (hw : w.heap.size ≤ b) (v : Value) : Mf w (X.setCell ⟨b, o, none⟩ v) B s n loc := by
  obtain ⟨who, m1, m2, m3, m4⟩ := h
  have hw0 := (m4 b hb).2
  have hs : (X.setCell ⟨b, o, none⟩ v).heap.size = X.heap.size := by simp [World.setCell]
  exact ⟨who, m1.carry (by rw [hs]; exact Nat.le_refl _) (fun i hi => Below.heap_setCell _ _ _ _ (fun e => hi (by rw [e]; exact hw0))), m2.setCell (p := ⟨b, o, none⟩) hw _, m3, fun q hq => ⟨by rw [hs]; exact (m4 q hq).1, (m4 q hq).2⟩⟩

/-- The names, and how many of each there are, and shall be. -/
structure Ar (X : World) (bn ba : Nat) (A : Nat → Nat) : Prop where
  nm : ∀ k, k < 2 → X.cell? ⟨bn, k, none⟩ = some (.string (cnB k))
  at_ : ∀ k, k < 2 → X.cell? ⟨ba, k, none⟩ = some (.int .i64 (A k : Int))
  fz : ∀ j, X.frozen? ⟨ba, j, none⟩ = false
def Lo (X : World) (bz : Nat) (N : Nat → Nat) : Prop := ∀ k, k < 2 → X.cell? ⟨bz, k, none⟩ = some (.int .i64 (N k : Int))
section
variable {X Y : World} {bn ba bz : Nat} {A N : Nat → Nat}
theorem Ar.keep (h : Ar X bn ba A) (h1 : Y.heap[bn]? = X.heap[bn]?) (h2 : Y.heap[ba]? = X.heap[ba]?) : Ar Y bn ba A :=
  ⟨fun k hk => by rw [World.cell?_of_block (a := ⟨bn, k, none⟩) h1]; exact h.nm k hk, fun k hk => by rw [World.cell?_of_block (a := ⟨ba, k, none⟩) h2]; exact h.at_ k hk, fun j => by rw [World.frozen?_of_block (a := ⟨ba, j, none⟩) h2]; exact h.fz j⟩
theorem Lo.keep (h : Lo X bz N) (h1 : Y.heap[bz]? = X.heap[bz]?) : Lo Y bz N := fun k hk => by rw [World.cell?_of_block (a := ⟨bz, k, none⟩) h1]; exact h k hk
theorem Ar.up (h : Ar X bn ba A) (hne : bn ≠ ba) {k : Nat} (hk : k < 2) : Ar (X.setCell ⟨ba, k, none⟩ (.int .i64 ((A k : Int) + 1))) bn ba (upA A k) := by
  refine ⟨fun j hj => ?_, fun j hj => ?_, fun j => by rw [World.frozen?_setCell]; exact h.fz j⟩
  · rw [World.cell?_of_block (a := ⟨bn, j, none⟩) (Below.heap_setCell _ _ _ _ hne)]
    exact h.nm j hj
  · unfold upA
    by_cases e : j = k
    · subst e
      rw [if_pos rfl, World.cell?_setCell_same _ _ _ (by rw [h.at_ j hj])]
      rfl
    · rw [if_neg e, World.cell?_setCell_other _ _ _ _ (by intro q; injection q with _ q; exact e q.symm)]
      exact h.at_ j hj
end

/-- The whole, ahead of the numbers. -/
def Ap1 (w X : World) (B : Nat) (s : Mo.St) (n bn ba : Nat) (A : Nat → Nat) : Prop :=
  ∃ loc, Mf w X B s n loc ∧ loc bn ∧ loc ba ∧ bn ≠ ba ∧ w.heap.size ≤ ba ∧ Ar X bn ba A
/-- .. and behind. -/
def Ap2 (w X : World) (B : Nat) (s : Mo.St) (n bn ba bz : Nat) (A N : Nat → Nat) : Prop :=
  ∃ loc, Mf w X B s n loc ∧ (loc bn ∧ loc ba ∧ loc bz) ∧ (bn ≠ ba ∧ bz ≠ ba ∧ w.heap.size ≤ ba) ∧ Ar X bn ba A ∧ Lo X bz N
section
variable {w X Y : World} {B : Nat} {s : Mo.St} {n bn ba bz : Nat} {A N : Nat → Nat}
theorem Ap1.old (h : Ap1 w X B s n bn ba A) : Below w.heap.size w X := by obtain ⟨loc, h, _⟩ := h; exact h.old
theorem Ap2.old (h : Ap2 w X B s n bn ba bz A N) : Below w.heap.size w X := by obtain ⟨loc, h, _⟩ := h; exact h.old
theorem Ap1.ar (h : Ap1 w X B s n bn ba A) : Ar X bn ba A := by obtain ⟨loc, _, _, _, _, _, h⟩ := h; exact h
theorem Ap2.ar (h : Ap2 w X B s n bn ba bz A N) : Ar X bn ba A := by obtain ⟨loc, _, _, _, h, _⟩ := h; exact h
theorem Ap2.lo (h : Ap2 w X B s n bn ba bz A N) : Lo X bz N := by obtain ⟨loc, _, _, _, _, h⟩ := h; exact h
theorem Ap2.below (h : Ap2 w X B s n bn ba bz A N) (hb : Below X.heap.size X Y) : Ap2 w Y B s n bn ba bz A N := by
  obtain ⟨loc, h1, ⟨l1, l2, l3⟩, h3, h4, h5⟩ := h
  exact ⟨loc, h1.below hb, ⟨l1, l2, l3⟩, h3, h4.keep (hb.block _ (h1.lloc l1)) (hb.block _ (h1.lloc l2)), h5.keep (hb.block _ (h1.lloc l3))⟩
theorem Ap2.more {m : Nat} (h : Ap2 w X B s n bn ba bz A N) (hm : n ≤ m) : Ap2 w X B s m bn ba bz A N := by
  obtain ⟨loc, h1, h2⟩ := h
  exact ⟨loc, h1.more hm, h2⟩
theorem Ap1.do6 (h : Ap1 w X B s n bn ba A) (hn : n < 1099511627776) (o : Mo.Op) (ho : OpOk o) :
    Calls Try.prog 10 #[.pointer (some ⟨B, 0, none⟩), .agg #[.int .i64 o.kind, .string o.space, .string o.channel, .string o.user, .string o.text, .string o.toSpace, .string o.to, .int .i64 o.frm, .int .i64 o.most]] X fun e Y => ∃ p m c, e = .returned (.agg #[.int .i64 (Mo.tells s o).err, .int .i64 (Mo.tells s o).at_, .slice p m c]) ∧ Ap1 w Y B (Mo.does s o) (n + 1) bn ba A := by
  obtain ⟨loc, h1, l1, l2, h3, h4, h5⟩ := h
  refine (h1.do6 hn o ho).mono ?_
  rintro e Y ⟨p, m, c, rfl, hm, hr, hM, hk, _⟩
  exact ⟨p, m, c, rfl, _, hM, .inl l1, .inl l2, h3, h4, h5.keep (hk _ l1) (hk _ l2)⟩
/-- Do, beside any further block of the caller's own that may be written. -/
theorem Ap2.do6 (h : Ap2 w X B s n bn ba bz A N) (hn : n < 1099511627776) (o : Mo.Op) (ho : OpOk o) :
    Calls Try.prog 10 #[.pointer (some ⟨B, 0, none⟩), .agg #[.int .i64 o.kind, .string o.space, .string o.channel, .string o.user, .string o.text, .string o.toSpace, .string o.to, .int .i64 o.frm, .int .i64 o.most]] X fun e Y => ∃ p m c, e = .returned (.agg #[.int .i64 (Mo.tells s o).err, .int .i64 (Mo.tells s o).at_, .slice p m c]) ∧ m = (Mo.tells s o).posts.length ∧ RowC Y 2 (.slice p m c) m (poCells (Mo.tells s o).posts) ∧ Ap2 w Y B (Mo.does s o) (n + 1) bn ba bz A N := by
  obtain ⟨loc, h1, ⟨l1, l2, l3⟩, h3, h4, h5⟩ := h
  refine (h1.do6 hn o ho).mono ?_
  rintro e Y ⟨p, m, c, rfl, hm, hr, hM, hk, _⟩
  exact ⟨p, m, c, rfl, hm, hr, _, hM, ⟨.inl l1, .inl l2, .inl l3⟩, h3, h4.keep (hk _ l1) (hk _ l2), h5.keep (hk _ l3)⟩
/-- .. a box that was laid ahead of the call: it stays, and may be written then. -/
theorem Ap2.doB (h : Ap2 w X B s n bn ba bz A N) (hn : n < 1099511627776) (o : Mo.Op) (ho : OpOk o) {Z : World} (hb : Below X.heap.size X Z) {b : Nat} (h1b : X.heap.size ≤ b) (h2b : b < Z.heap.size) :
    Calls Try.prog 10 #[.pointer (some ⟨B, 0, none⟩), .agg #[.int .i64 o.kind, .string o.space, .string o.channel, .string o.user, .string o.text, .string o.toSpace, .string o.to, .int .i64 o.frm, .int .i64 o.most]] Z fun e Y => ∃ p m c, e = .returned (.agg #[.int .i64 (Mo.tells s o).err, .int .i64 (Mo.tells s o).at_, .slice p m c]) ∧ Y.heap[b]? = Z.heap[b]? ∧ Ap2 w Y B (Mo.does s o) (n + 1) bn ba bz A N ∧ ∀ x y z, Ap2 w (((Y.setCell ⟨b, 0, none⟩ x).setCell ⟨b, 1, none⟩ y).setCell ⟨b, 2, none⟩ z) B (Mo.does s o) (n + 1) bn ba bz A N := by
  obtain ⟨loc, h1, ⟨l1, l2, l3⟩, h3, h4, h5⟩ := h
  have hZ := h1.grow hb
  have hwb : w.heap.size ≤ b := Nat.le_trans h1.old.size h1b
  have n1 : bn ≠ b := by have := h1.lloc l1; omega
  have n2 : ba ≠ b := by have := h1.lloc l2; omega
  have n3 : bz ≠ b := by have := h1.lloc l3; omega
  refine (hZ.do6 hn o ho).mono ?_
  rintro e Y ⟨p, m, c, rfl, hm, hr, hM, hk, _⟩
  have k1 := (hk bn (.inl l1)).trans (hb.block _ (h1.lloc l1))
  have k2 := (hk ba (.inl l2)).trans (hb.block _ (h1.lloc l2))
  have k3 := (hk bz (.inl l3)).trans (hb.block _ (h1.lloc l3))
  refine ⟨p, m, c, rfl, hk b (.inr ⟨h1b, h2b⟩), ⟨_, hM, ⟨.inl (.inl l1), .inl (.inl l2), .inl (.inl l3)⟩, h3, h4.keep k1 k2, h5.keep k3⟩, fun x y z => ?_⟩
  have hb' : ∀ q, q ≠ b → (((Y.setCell ⟨b, 0, none⟩ x).setCell ⟨b, 1, none⟩ y).setCell ⟨b, 2, none⟩ z).heap[q]? = Y.heap[q]? := fun q hq => by rw [Below.heap_setCell _ _ _ _ hq, Below.heap_setCell _ _ _ _ hq, Below.heap_setCell _ _ _ _ hq]
  exact ⟨_, ((hM.set (b := b) (o := 0) (.inl (.inr ⟨h1b, h2b⟩)) hwb x).set (b := b) (o := 1) (.inl (.inr ⟨h1b, h2b⟩)) hwb y).set (b := b) (o := 2) (.inl (.inr ⟨h1b, h2b⟩)) hwb z, ⟨.inl (.inl l1), .inl (.inl l2), .inl (.inl l3)⟩, h3, h4.keep ((hb' _ n1).trans k1) ((hb' _ n2).trans k2), h5.keep ((hb' _ n3).trans k3)⟩
/-- One more. -/
theorem Ap2.up (h : Ap2 w X B s n bn ba bz A N) {k : Nat} (hk : k < 2) : Ap2 w (X.setCell ⟨ba, k, none⟩ (.int .i64 ((A k : Int) + 1))) B s n bn ba bz (upA A k) N := by
  obtain ⟨loc, h1, ⟨l1, l2, l3⟩, ⟨n1, n2, n3⟩, h4, h5⟩ := h
  exact ⟨loc, h1.set l2 n3 _, ⟨l1, l2, l3⟩, ⟨n1, n2, n3⟩, h4.up n1 hk, h5.keep (Below.heap_setCell _ _ _ _ n2)⟩
theorem Ap1.begin {loc : Nat → Prop} (h : Mf w X B s n loc) (A : Nat → Nat) (hA : ∀ k, A k = 0) : Ap1 w ((X.alloc (.cells #[.string ⟨#[99]⟩, .string ⟨#[100]⟩] 9)).alloc (.cells #[.int .i64 0, .int .i64 0] 22)) B s n X.heap.size (X.heap.size + 1) A := by
  obtain ⟨X1, hX1⟩ : ∃ X1, X1 = X.alloc (.cells #[.string ⟨#[99]⟩, .string ⟨#[100]⟩] 9) := ⟨_, rfl⟩
  have hb1 : Below X.heap.size X X1 := by rw [hX1]; exact below_alloc _ _
  have hs : X1.heap.size = X.heap.size + 1 := by rw [hX1]; simp
  have hc1 : ∀ k, X1.cell? ⟨X.heap.size, k, none⟩ = (#[.string ⟨#[99]⟩, .string ⟨#[100]⟩] : Array Value)[k]? := fun k => by rw [hX1]; exact World.cell?_alloc_mark X _ _ _ k
  rw [← hX1]
  have hb2 := below_alloc X1 (.cells #[.int .i64 0, .int .i64 0] 22)
  have h2 := (h.grow hb1).grow hb2
  rw [← hs]
  refine ⟨_, h2, .inl (.inr ⟨Nat.le_refl _, by omega⟩), .inr ⟨Nat.le_refl _, by simp⟩, by omega, by have := h.old.size; omega, ⟨fun k hk => ?_, fun k hk => ?_, fun j => ?_⟩⟩
  · rw [hb2.cell (p := ⟨X.heap.size, k, none⟩) (by show X.heap.size < _; omega), hc1]
    have : k = 0 ∨ k = 1 := by omega
    rcases this with rfl | rfl <;> rfl
  · rw [World.cell?_alloc_mark, hA]
    have : k = 0 ∨ k = 1 := by omega
    rcases this with rfl | rfl <;> rfl
  · rw [World.frozen?_alloc_mark]
    simp
theorem Ap1.next (h : Ap1 w X B s n bn ba A) (N : Nat → Nat) : Ap2 w (X.alloc (.cells #[.int .i64 (N 0 : Int), .int .i64 (N 1 : Int)] 22)) B s n bn ba X.heap.size A N := by
  obtain ⟨loc, h1, l1, l2, h3, h4, h5⟩ := h
  have hb := below_alloc X (.cells #[.int .i64 (N 0 : Int), .int .i64 (N 1 : Int)] 22)
  refine ⟨_, h1.grow hb, ⟨.inl l1, .inl l2, .inr ⟨Nat.le_refl _, by simp⟩⟩, ⟨h3, by have := h1.lloc l2; omega, h4⟩, h5.keep (hb.block _ (h1.lloc l1)) (hb.block _ (h1.lloc l2)), fun k hk => ?_⟩
  rw [World.cell?_alloc_mark]
  have : k = 0 ∨ k = 1 := by omega
  rcases this with rfl | rfl <;> rfl
end

/-- A text of one byte. -/
theorem conv97 (k : Nat) (hk : k < 32) (X : World) : (convert 33 9 (.slice (some ⟨X.heap.size, 0, none⟩) 1 1)).run Try.prog (X.alloc (.cells #[.int .u8 (97 + (k : Int))] 5)) = .ok (.string (tzB k)) (X.alloc (.cells #[.int .u8 (97 + (k : Int))] 5)) := by
  refine run_convert_bytes_back (P := Try.prog) _ 33 9 5 ⟨X.heap.size, 0, none⟩ 1 [(97 + k).toUInt8] Try.underlying33 Try.underlying5 Try.underlying9 ?_
  intro j hj
  have hj0 : j = 0 := by simp at hj; omega
  subst hj0
  rw [addr_add0, World.cell?_alloc_mark]
  simp
  omega

end Go.Proofs.Ytkioeahlajjmiaa
