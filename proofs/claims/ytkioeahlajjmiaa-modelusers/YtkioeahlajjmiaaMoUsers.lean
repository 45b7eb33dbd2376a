/-
  Users out of numbers: their names, who is a member of one channel; a model beside a row of sixteen notes.
-/
import Derived.Test.YtkioeahlajjmiaaMoEnds2
import Derived.Test.YtkioeahlajjmiaaMoLaw
namespace Go.Proofs.Ytkioeahlajjmiaa
open Go.RowKit

/-- The name of user k. -/
def nmB (k : Nat) : ByteArray := ⟨#[117, (97 + k).toUInt8]⟩
theorem nmB_inj_all : ∀ a b : Fin 16, nmB a.val = nmB b.val → a = b := by decide +kernel
theorem nmB_inj {a b : Nat} (ha : a < 16) (hb : b < 16) (h : nmB a = nmB b) : a = b := congrArg Fin.val (nmB_inj_all ⟨a, ha⟩ ⟨b, hb⟩ h)
theorem nmB_le_all : ∀ a b : Fin 16, a < b → decide ((nmB a.val).data.toList ≤ (nmB b.val).data.toList) = true := by decide +kernel
theorem nmB_join : ∀ a : Fin 16, Mo.may ⟨2, ⟨#[119]⟩, ⟨#[99]⟩, nmB a.val, ⟨#[]⟩, ⟨#[]⟩, ⟨#[]⟩, 0, 0⟩ = true := by decide +kernel
theorem nmB_off : ∀ a : Fin 16, Mo.may ⟨7, ⟨#[]⟩, ⟨#[]⟩, nmB a.val, ⟨#[]⟩, ⟨#[]⟩, ⟨#[]⟩, 0, 0⟩ = true := by decide +kernel
theorem nmB_ok (k : Nat) : Ok (nmB k) := Ok.of (by show (2 : Nat) ≤ 2000; decide)

/-- Those who are noted. -/
def nms (T : Nat → Bool) : List ByteArray := ((List.range 16).filter T).map nmB
theorem nms_mem {T : Nat → Bool} {a : ByteArray} : a ∈ nms T ↔ ∃ k, k < 16 ∧ T k = true ∧ a = nmB k := by
  unfold nms
  rw [List.mem_map]
  constructor
  · rintro ⟨k, hk, rfl⟩
    rw [List.mem_filter, List.mem_range] at hk
    exact ⟨k, hk.1, hk.2, rfl⟩
  · rintro ⟨k, h1, h2, rfl⟩
    exact ⟨k, by rw [List.mem_filter, List.mem_range]; exact ⟨h1, h2⟩, rfl⟩
theorem range_pair : (List.range 16).Pairwise (fun a b => a < b) := List.pairwise_lt_range
theorem nms_pair {R : ByteArray → ByteArray → Prop} (T : Nat → Bool) (h : ∀ a b, a < b → b < 16 → R (nmB a) (nmB b)) : (nms T).Pairwise R := by
  unfold nms
  rw [List.pairwise_map]
  have h1 : ((List.range 16).filter T).Pairwise (fun a b => a < b) := range_pair.filter _
  exact List.Pairwise.imp_of_mem (fun {a b} ha hb hab => h a b hab (by
    rw [List.mem_filter, List.mem_range] at hb
    exact hb.1)) h1
theorem nms_nodup (T : Nat → Bool) : (nms T).Nodup := nms_pair T fun a b hab hb e => by have := nmB_inj (by omega) hb e; omega
theorem nms_risen (T : Nat → Bool) : risen (nms T) = nms T := risen_of (by
  rw [List.pairwise_map]
  exact nms_pair T fun a b hab hb => nmB_le_all ⟨a, by omega⟩ ⟨b, hb⟩ hab)
/-- How many of the first k. -/
def cntT (T : Nat → Bool) (k : Nat) : Nat := ((List.range k).filter T).length
theorem cntT_succ (T : Nat → Bool) (k : Nat) : cntT T (k + 1) = cntT T k + if T k = true then 1 else 0 := by
  unfold cntT
  rw [List.range_succ, List.filter_append, List.length_append]
  congr 1
  cases h : T k <;> simp [h]
theorem cntT_all (T : Nat → Bool) : cntT T 16 = (nms T).length := by simp [cntT, nms]
theorem cntT_le (T : Nat → Bool) (k : Nat) : cntT T k ≤ k := by
  unfold cntT
  have := List.length_filter_le T (List.range k)
  rw [List.length_range] at this
  exact this
theorem nms_at {T : Nat → Bool} {k : Nat} (hk : k < 16) (ht : T k = true) : (nms T)[cntT T k]? = some (nmB k) := by
  have e : List.range 16 = List.range k ++ k :: (List.range (15 - k)).map (fun j => k + 1 + j) := by
    have h1 : List.range 16 = List.range (k + (16 - k)) := by congr 1; omega
    rw [h1, List.range_add]
    congr 1
    have h2 : 16 - k = (15 - k) + 1 := by omega
    rw [h2, List.range_succ_eq_map, List.map_cons, List.map_map]
    congr 1
    apply List.map_congr_left
    intro a _
    show k + (a + 1) = _
    omega
  unfold nms cntT
  rw [e, List.filter_append, List.filter_cons, if_pos ht, List.map_append, List.map_cons]
  rw [List.getElem?_append_right (by simp)]
  simp

/-- The channel's members. -/
def Us (s : Mo.St) (T : Nat → Bool) : Prop := ∃ mem, s.ch ⟨#[119]⟩ ⟨#[99]⟩ = some ⟨mem, []⟩ ∧ ∀ a, mem a = true ↔ a ∈ nms T
def upT (T : Nat → Bool) (k : Nat) (v : Bool) : Nat → Bool := fun j => if j = k then v else T j
theorem mem_nms {T : Nat → Bool} {k : Nat} (hk : k < 16) : nmB k ∈ nms T ↔ T k = true := by
  rw [nms_mem]
  constructor
  · rintro ⟨j, h1, h2, h3⟩
    rw [nmB_inj hk h1 h3]
    exact h2
  · intro h
    exact ⟨k, hk, h, rfl⟩
theorem Us.made {s : Mo.St} (h : s.ch ⟨#[119]⟩ ⟨#[99]⟩ = some Mo.newC) : Us s (fun _ => false) := ⟨_, h, fun a => by rw [nms_mem]; simp⟩
theorem Us.join {s : Mo.St} {T : Nat → Bool} (h : Us s T) (ho : s.off = fun _ => false) {k : Nat} (hk : k < 16) :
    Mo.tells s ⟨2, ⟨#[119]⟩, ⟨#[99]⟩, nmB k, ⟨#[]⟩, ⟨#[]⟩, ⟨#[]⟩, 0, 0⟩ = ⟨if T k = true then 90 else 0, 0, []⟩ ∧ Us (Mo.does s ⟨2, ⟨#[119]⟩, ⟨#[99]⟩, nmB k, ⟨#[]⟩, ⟨#[]⟩, ⟨#[]⟩, 0, 0⟩) (upT T k true) ∧ (Mo.does s ⟨2, ⟨#[119]⟩, ⟨#[99]⟩, nmB k, ⟨#[]⟩, ⟨#[]⟩, ⟨#[]⟩, 0, 0⟩).off = fun _ => false := by
  obtain ⟨mem, h1, h2⟩ := h
  have hm := nmB_join ⟨k, hk⟩
  dsimp only at hm
  have hmk : mem (nmB k) = T k := by
    have := h2 (nmB k)
    rw [mem_nms hk] at this
    exact Bool.eq_iff_iff.2 this
  have hup : ∀ a, a ∈ nms (upT T k true) ↔ a = nmB k ∨ a ∈ nms T := fun a => by
    rw [nms_mem, nms_mem]
    constructor
    · rintro ⟨j, q1, q2, q3⟩
      by_cases e : j = k
      · exact .inl (by rw [q3, e])
      · exact .inr ⟨j, q1, by simpa [upT, e] using q2, q3⟩
    · rintro (e | ⟨j, q1, q2, q3⟩)
      · exact ⟨k, hk, by simp [upT], e⟩
      · exact ⟨j, q1, by unfold upT; split; rfl; exact q2, q3⟩
  cases ht : T k with
  | true =>
    have e1 : Mo.does s ⟨2, ⟨#[119]⟩, ⟨#[99]⟩, nmB k, ⟨#[]⟩, ⟨#[]⟩, ⟨#[]⟩, 0, 0⟩ = s := by simp [Mo.does, hm, h1, ho, hmk, ht]
    refine ⟨by simp [Mo.tells, hm, h1, ho, hmk, ht], ?_, by rw [e1]; exact ho⟩
    rw [e1]
    refine ⟨mem, h1, fun a => ?_⟩
    rw [hup, h2]
    constructor
    · exact .inr
    · rintro (e | e)
      · rw [e, mem_nms hk]; exact ht
      · exact e
  | false =>
    have e1 : Mo.does s ⟨2, ⟨#[119]⟩, ⟨#[99]⟩, nmB k, ⟨#[]⟩, ⟨#[]⟩, ⟨#[]⟩, 0, 0⟩ = Mo.setC s ⟨#[119]⟩ ⟨#[99]⟩ (some (Mo.withM ⟨mem, []⟩ (nmB k))) := by simp [Mo.does, hm, h1, ho, hmk, ht]
    refine ⟨by simp [Mo.tells, hm, h1, ho, hmk, ht], ?_, by rw [e1]; exact ho⟩
    rw [e1]
    refine ⟨fun x => if x = nmB k then true else mem x, by simp [Mo.setC, Mo.withM], fun a => ?_⟩
    rw [hup, ← h2]
    by_cases e : a = nmB k
    · simp [e]
    · simp [e]
theorem Us.off {s : Mo.St} {T : Nat → Bool} (h : Us s T) (ho : s.off = fun _ => false) {k : Nat} (hk : k < 16) :
    Mo.tells s ⟨7, ⟨#[]⟩, ⟨#[]⟩, nmB k, ⟨#[]⟩, ⟨#[]⟩, ⟨#[]⟩, 0, 0⟩ = ⟨0, 0, []⟩ ∧ Us (Mo.does s ⟨7, ⟨#[]⟩, ⟨#[]⟩, nmB k, ⟨#[]⟩, ⟨#[]⟩, ⟨#[]⟩, 0, 0⟩) (upT T k false) := by
  obtain ⟨mem, h1, h2⟩ := h
  have hm := nmB_off ⟨k, hk⟩
  dsimp only at hm
  refine ⟨by simp [Mo.tells, hm, ho], fun x => if x = nmB k then false else mem x, by simp [Mo.does, hm, ho, h1, Mo.lessM], fun a => ?_⟩
  have hup : a ∈ nms (upT T k false) ↔ a ≠ nmB k ∧ a ∈ nms T := by
    rw [nms_mem, nms_mem]
    constructor
    · rintro ⟨j, q1, q2, q3⟩
      by_cases e : j = k
      · simp [upT, e] at q2
      · exact ⟨fun e' => e (nmB_inj q1 hk (q3.symm.trans e')), j, q1, by simpa [upT, e] using q2, q3⟩
    · rintro ⟨e, j, q1, q2, q3⟩
      have : j ≠ k := fun e' => e (by rw [q3, e'])
      exact ⟨j, q1, by simpa [upT, this] using q2, q3⟩
  rw [hup, ← h2]
  by_cases e : a = nmB k
  · simp [e]
  · simp [e]

/-- A model beside sixteen notes. -/
def Mw (w X : World) (B : Nat) (s : Mo.St) (n bt : Nat) (T : Nat → Bool) : Prop :=
  ∃ loc, Mf w X B s n loc ∧ loc bt ∧ w.heap.size ≤ bt ∧ (∀ i, i < 16 → X.cell? ⟨bt, i, none⟩ = some (.bool (T i))) ∧ ∀ j, X.frozen? ⟨bt, j, none⟩ = false

section
variable {w X Y : World} {B : Nat} {s : Mo.St} {n bt : Nat} {T : Nat → Bool}
theorem Mw.old (h : Mw w X B s n bt T) : Below w.heap.size w X := by obtain ⟨loc, h, _⟩ := h; exact h.old
theorem Mw.more {m : Nat} (h : Mw w X B s n bt T) (hm : n ≤ m) : Mw w X B s m bt T := by
  obtain ⟨loc, h1, h2⟩ := h
  exact ⟨loc, h1.more hm, h2⟩
theorem Mw.at (h : Mw w X B s n bt T) {i : Nat} (hi : i < 16) : X.cell? ⟨bt, i, none⟩ = some (.bool (T i)) ∧ X.frozen? ⟨bt, i, none⟩ = false := by
  obtain ⟨loc, _, _, _, h1, h2⟩ := h
  exact ⟨h1 i hi, h2 i⟩
theorem Mw.below (h : Mw w X B s n bt T) (hb : Below X.heap.size X Y) : Mw w Y B s n bt T := by
  obtain ⟨loc, h1, h2, h3, h4, h5⟩ := h
  have hl := h1.lloc h2
  exact ⟨loc, h1.below hb, h2, h3, fun i hi => (hb.cell (p := ⟨bt, i, none⟩) hl).trans (h4 i hi), fun j => (hb.frozen (p := ⟨bt, j, none⟩) hl).trans (h5 j)⟩
theorem Mw.mb (h : Mw w X B s n bt T) : Mb w X B s n [] := by
  obtain ⟨loc, h1, _⟩ := h
  exact ⟨loc, h1, fun q hq => by cases hq⟩
theorem Mw.do6 (h : Mw w X B s n bt T) (hn : n < 1099511627776) (o : Mo.Op) (ho : OpOk o) :
    Calls Try.prog 10 #[.pointer (some ⟨B, 0, none⟩), .agg #[.int .i64 o.kind, .string o.space, .string o.channel, .string o.user, .string o.text, .string o.toSpace, .string o.to, .int .i64 o.frm, .int .i64 o.most]] X fun e Y => ∃ p m c, e = .returned (.agg #[.int .i64 (Mo.tells s o).err, .int .i64 (Mo.tells s o).at_, .slice p m c]) ∧ Mw w Y B (Mo.does s o) (n + 1) bt T := by
  obtain ⟨loc, h1, h2, h3, h4, h5⟩ := h
  refine (h1.do6 hn o ho).mono ?_
  rintro e Y ⟨p, m, c, rfl, hm, hr, hM, hk, _⟩
  exact ⟨p, m, c, rfl, _, hM, .inl h2, h3, fun i hi => (World.cell?_of_block (a := ⟨bt, i, none⟩) (hk _ h2)).trans (h4 i hi), fun j => (World.frozen?_of_block (a := ⟨bt, j, none⟩) (hk _ h2)).trans (h5 j)⟩
/-- A note is written. -/
theorem Mw.set (h : Mw w X B s n bt T) {k : Nat} (hk : k < 16) (v : Bool) : Mw w (X.setCell ⟨bt, k, none⟩ (.bool v)) B s n bt (upT T k v) := by
  obtain ⟨loc, ⟨who, m1, m2, m3, m4⟩, h2, h3, h4, h5⟩ := h
  have hw0 := (m4 bt h2).2
  have hs : (X.setCell ⟨bt, k, none⟩ (.bool v)).heap.size = X.heap.size := by simp [World.setCell]
  refine ⟨loc, ⟨who, m1.carry (by rw [hs]; exact Nat.le_refl _) (fun i hi => Below.heap_setCell _ _ _ _ (fun e => hi (by rw [e]; exact hw0))), m2.setCell (p := ⟨bt, k, none⟩) h3 _, m3, fun q hq => ⟨by rw [hs]; exact (m4 q hq).1, (m4 q hq).2⟩⟩, h2, h3, fun i hi => ?_, fun j => by rw [World.frozen?_setCell]; exact h5 j⟩
  unfold upT
  by_cases e : i = k
  · subst e
    rw [if_pos rfl]
    exact World.cell?_setCell_same _ _ _ (by rw [h4 i hi])
  · rw [if_neg e, World.cell?_setCell_other _ _ _ _ (by intro q; injection q with _ q; exact e q.symm)]
    exact h4 i hi
end

theorem infoBool : (Try.prog.info? 4).map (fun i => (i.zero, i.size, i.bytes)) = some (some (.bool false), 1, 1) := by kernel_rfl
def no16 : Array Value := madeCells (Value.bool false).cells (16 * 1)
theorem no16_at (i : Nat) (h : i < 16) : no16[i]? = some (.bool false) := by
  have e : no16.toList = List.replicate 16 (Value.bool false) := by
    unfold no16
    rw [show (Value.bool false).cells = #[Value.bool false] from rfl, toList_madeCells_one]
  rw [← Array.getElem?_toList, e, List.getElem?_replicate, if_pos h]
theorem run_make16 (W : World) : (Instr.makeSlice 41 (.int .i64 16) (.int .i64 16)).run Try.prog W = .ok (.slice (some ⟨W.heap.size, 0, none⟩) 16 16) (W.alloc (.cells no16 4)) := by
  obtain ⟨i0, hi, hz0, hz1, hz2⟩ := info_parts infoBool
  have h := run_make (P := Try.prog) W 41 4 i0 (.bool false) Try.underlying41 hi hz0 .i64 .i64 16 16 (by decide) (by decide) (by rw [hz2]; decide) (by decide)
  rw [hz1] at h
  exact h
theorem Mw.begin {w X : World} {B : Nat} {s : Mo.St} {n : Nat} (h : Mb w X B s n []) : Mw w (X.alloc (.cells no16 4)) B s n X.heap.size (fun _ => false) := by
  obtain ⟨loc, h1, _⟩ := h
  have hb := below_alloc X (.cells no16 4)
  refine ⟨_, h1.grow hb, .inr ⟨Nat.le_refl _, by simp⟩, h1.old.size, fun i hi => ?_, fun j => ?_⟩
  · rw [World.cell?_alloc_mark, no16_at _ hi]
  · rw [World.frozen?_alloc_mark]
    simp

/-- A name is made of two bytes. -/
theorem convN (k : Nat) (hk : k < 16) (X : World) : (convert 33 9 (.slice (some ⟨X.heap.size, 0, none⟩) 2 2)).run Try.prog (X.alloc (.cells #[.int .u8 117, .int .u8 (97 + (k : Int))] 5)) = .ok (.string (nmB k)) (X.alloc (.cells #[.int .u8 117, .int .u8 (97 + (k : Int))] 5)) := by
  refine run_convert_bytes_back (P := Try.prog) _ 33 9 5 ⟨X.heap.size, 0, none⟩ 2 [117, (97 + k).toUInt8] Try.underlying33 Try.underlying5 Try.underlying9 ?_
  intro j hj
  have hj2 : j = 0 ∨ j = 1 := by simp at hj; omega
  rcases hj2 with rfl | rfl
  · rw [addr_add0, World.cell?_alloc_mark]
    rfl
  · rw [Addr.add_lit, World.cell?_alloc_mark]
    simp
    omega
theorem nums97 {k : Nat} (h : k < 32) : IntKind.i64.wrap (97 + (k : Int)) = 97 + (k : Int) ∧ IntKind.u8.wrap (97 + (k : Int)) = 97 + (k : Int) :=
  ⟨by rw [IntKind.wrap_i64]; omega, by rw [IntKind.wrap_u8]; omega⟩

end Go.Proofs.Ytkioeahlajjmiaa
