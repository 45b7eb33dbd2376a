/-
  A net that was made in this call, beside what the caller holds; the law package's own 'awake'.
-/
import Derived.Test.YtpopanfefpehnaaNnTake
namespace Go.Proofs.Ytpopanfefpehnaa
open Go.RowKit

/-- Block B holds a net made since w; the blocks 'loc' are the caller's own. -/
def Nf (w X : World) (B : Nat) (s : Q.St) (n : Nat) (loc : Nat → Prop) : Prop :=
  ∃ own, Nn X B s own n ∧ Below w.heap.size w X ∧ w.heap.size ≤ B ∧ (∀ k, own k → w.heap.size ≤ k) ∧ ∀ k, loc k → k < X.heap.size ∧ k ≠ B ∧ ¬ own k

theorem Nf.old {w X : World} {B : Nat} {s : Q.St} {n : Nat} {loc : Nat → Prop} (h : Nf w X B s n loc) : Below w.heap.size w X := by obtain ⟨own, _, h, _⟩ := h; exact h
theorem Nf.ok {w X : World} {B : Nat} {s : Q.St} {n : Nat} {loc : Nat → Prop} (h : Nf w X B s n loc) : Q.Ok s := by obtain ⟨own, h, _⟩ := h; exact h.ok
theorem Nf.len {w X : World} {B : Nat} {s : Q.St} {n : Nat} {loc : Nat → Prop} (h : Nf w X B s n loc) : s.ls.length ≤ n := by obtain ⟨own, h, _⟩ := h; exact h.len
theorem Nf.lloc {w X : World} {B : Nat} {s : Q.St} {n : Nat} {loc : Nat → Prop} (h : Nf w X B s n loc) {k : Nat} (hk : loc k) : k < X.heap.size := by obtain ⟨own, _, _, _, _, h⟩ := h; exact (h k hk).1
theorem Nf.less {w X : World} {B : Nat} {s : Q.St} {n : Nat} {loc loc' : Nat → Prop} (h : Nf w X B s n loc) (hl : ∀ k, loc' k → loc k) : Nf w X B s n loc' := by
  obtain ⟨own, h1, h2, h3, h4, h5⟩ := h
  exact ⟨own, h1, h2, h3, h4, fun k hk => h5 k (hl k hk)⟩
theorem Nf.more {w X : World} {B : Nat} {s : Q.St} {n m : Nat} {loc : Nat → Prop} (h : Nf w X B s n loc) (hm : n ≤ m) : Nf w X B s m loc := by
  obtain ⟨own, h1, h2, h3, h4, h5⟩ := h
  exact ⟨own, h1.more hm, h2, h3, h4, h5⟩
theorem Nf.grow {w X Y : World} {B : Nat} {s : Q.St} {n : Nat} {loc : Nat → Prop} (h : Nf w X B s n loc) (hb : Below X.heap.size X Y) : Nf w Y B s n (fun k => loc k ∨ (X.heap.size ≤ k ∧ k < Y.heap.size)) := by
  obtain ⟨own, h1, h2, h3, h4, h5⟩ := h
  have hs := hb.size
  refine ⟨own, h1.below hb, h2.trans (hb.mono h2.size), h3, h4, fun k hk => ?_⟩
  rcases hk with q | q
  · have := h5 k q
    exact ⟨by omega, this.2⟩
  · exact ⟨q.2, by have := h1.lt; omega, fun e => by have := (h1.here k e).1; omega⟩
theorem Nf.below {w X Y : World} {B : Nat} {s : Q.St} {n : Nat} {loc : Nat → Prop} (h : Nf w X B s n loc) (hb : Below X.heap.size X Y) : Nf w Y B s n loc := (h.grow hb).less (fun _ hk => .inl hk)
/-- What a call leaves. -/
theorem Nf.call {w X : World} {B : Nat} {s : Q.St} {n : Nat} {loc : Nat → Prop} (h : Nf w X B s n loc) : ∃ own, Nn X B s own n ∧ ∀ Y s' n', AftQ own X Y B s' n' → Nf w Y B s' n' loc ∧ (∀ k, loc k → Y.heap[k]? = X.heap[k]?) ∧ X.heap.size ≤ Y.heap.size := by
  obtain ⟨own, h1, h2, h3, h4, h5⟩ := h
  refine ⟨own, h1, fun Y s' n' ha => ⟨⟨_, ha.1, ?_, h3, fun k hk => ?_, fun k hk => ?_⟩, fun k hk => ha.2.block k (h5 k hk).1 (h5 k hk).2.1 (h5 k hk).2.2, ha.2.size⟩⟩
  · exact h2.trans (ha.2.below h3 h4 h2.size)
  · have := h2.size
    rcases hk with q | q
    · exact h4 k q
    · omega
  · have hs := ha.2.size
    have := h5 k hk
    refine ⟨by omega, this.2.1, fun e => ?_⟩
    rcases e with q | q
    · exact this.2.2 q
    · omega
/-- What the caller holds is written. -/
theorem Nf.set {w X : World} {B : Nat} {s : Q.St} {n : Nat} {loc : Nat → Prop} (h : Nf w X B s n loc) (b o : Nat) (hb : loc b) (hw : w.heap.size ≤ b) (v : Value) : Nf w (X.setCell ⟨b, o, none⟩ v) B s n loc := by
  obtain ⟨own, h1, h2, h3, h4, h5⟩ := h
  have hbb := h5 b hb
  refine ⟨own, h1.carry (by rw [size_set6]; exact Nat.le_refl _) (Below.heap_setCell _ _ _ _ (fun e => hbb.2.1 e.symm)) (fun k hk => Below.heap_setCell _ _ _ _ (fun e => hbb.2.2 (by have e' : k = b := e; rw [← e']; exact hk))), h2.setCell (p := ⟨b, o, none⟩) hw _, h3, h4, fun k hk => ?_⟩
  rw [size_set6]
  exact h5 k hk

/-- A net that New gave. -/
theorem New_fresh (most : Int) (h : 1 ≤ most ∧ most ≤ 4096) (w : World) {w0 : World} (h0 : Below w0.heap.size w0 w) : Calls Try.prog 9 #[.int .i64 most] w fun e w' => e = .returned (.tuple #[.pointer (some ⟨w.heap.size + 1, 0, none⟩), .int .i64 0]) ∧
    Nf w0 w' (w.heap.size + 1) ⟨most, []⟩ 0 (fun k => k < w.heap.size) ∧ Below w.heap.size w w' := by
  refine (New_yes most h w).mono ?_
  rintro e w' ⟨rfl, h1, h2⟩
  have := h0.size
  have := h2.size
  exact ⟨rfl, ⟨_, h1, h0.trans (h2.mono h0.size), by omega, fun k hk => by omega, fun k hk => ⟨by omega, by omega, fun e => by omega⟩⟩, h2⟩

theorem Nf.put {w X : World} {B : Nat} {s : Q.St} {n : Nat} {loc : Nat → Prop} (h : Nf w X B s n loc) (hn : n < 1099511627776) (fr tt : Int) (tx : ByteArray) (h64 : In64 fr ∧ In64 tt) (hsz : tx.size ≤ 9223372036854775807) :
    Calls Try.prog 29 #[.pointer (some ⟨B, 0, none⟩), .agg #[.int .i64 fr, .int .i64 tt, .string tx]] X fun e Y => e = .returned (.int .i64 (Q.putE s ⟨fr, tt, tx⟩)) ∧ Nf w Y B (Q.put s ⟨fr, tt, tx⟩) (n + 1) loc ∧ (∀ k, loc k → Y.heap[k]? = X.heap[k]?) ∧ X.heap.size ≤ Y.heap.size := by
  obtain ⟨own, h1, h2⟩ := h.call
  refine (Put_c h1 hn ⟨fr, tt, tx⟩ h64 hsz).mono ?_
  rintro e Y ⟨rfl, ha⟩
  exact ⟨rfl, h2 Y _ _ ha⟩
theorem Nf.take {w X : World} {B : Nat} {s : Q.St} {n : Nat} {loc : Nat → Prop} (h : Nf w X B s n loc) (hn : n < 1099511627776) (k : Int) {l : Q.Lt} (hl : s.ls[Q.place k s.ls.length]? = some l) :
    Calls Try.prog 30 #[.pointer (some ⟨B, 0, none⟩), .int .i64 k] X fun e Y => e = .returned (.tuple #[.agg #[.int .i64 l.fr, .int .i64 l.tt, .string l.tx], .bool true]) ∧ Nf w Y B { s with ls := s.ls.eraseIdx (Q.place k s.ls.length) } (n + 1) loc ∧ (∀ k, loc k → Y.heap[k]? = X.heap[k]?) ∧ X.heap.size ≤ Y.heap.size := by
  obtain ⟨own, h1, h2⟩ := h.call
  refine (Take_yes h1 hn k hl).mono ?_
  rintro e Y ⟨rfl, ha⟩
  exact ⟨rfl, h2 Y _ _ ha⟩
theorem Nf.takeNo {w X : World} {B : Nat} {s : Q.St} {n : Nat} {loc : Nat → Prop} (h : Nf w X B s n loc) (k : Int) (h0 : s.ls = []) :
    Calls Try.prog 30 #[.pointer (some ⟨B, 0, none⟩), .int .i64 k] X fun e Y => e = .returned (.tuple #[.agg #[.int .i64 0, .int .i64 0, .string ⟨#[]⟩], .bool false]) ∧ Nf w Y B s (n + 1) loc ∧ (∀ k, loc k → Y.heap[k]? = X.heap[k]?) ∧ X.heap.size ≤ Y.heap.size := by
  obtain ⟨own, h1, h2⟩ := h.call
  refine (Take_no h1 k h0).mono ?_
  rintro e Y ⟨rfl, ha⟩
  exact ⟨rfl, h2 Y _ _ ha⟩
theorem Nf.lenC {w X : World} {B : Nat} {s : Q.St} {n : Nat} {loc : Nat → Prop} (h : Nf w X B s n loc) :
    Calls Try.prog 13 #[.pointer (some ⟨B, 0, none⟩)] X fun e Y => e = .returned (.int .i64 (s.ls.length : Int)) ∧ Y = X := by
  obtain ⟨own, h1, h2⟩ := h
  exact Len_c h1

def lx : Q.Lt := ⟨0, 1, ⟨#[120]⟩⟩
def ly : Q.Lt := ⟨1, 0, ⟨#[]⟩⟩

set_option maxHeartbeats 800000 in
theorem awake_c (w : World) : Calls Try.prog 11 #[] w fun e w' => e = .returned (.bool true) ∧ Below w.heap.size w w' := by
  have HNew : Hid _ := New_fresh 1 (by omega) w (Below.refl _ w)
  obtain ⟨B, hB⟩ : ∃ B, B = w.heap.size + 1 := ⟨_, rfl⟩
  rw [← hB] at HNew
  have HP1 : Hid (∀ X loc, Nf w X B ⟨1, []⟩ 0 loc → Calls Try.prog 29 #[.pointer (some ⟨B, 0, none⟩), .agg #[.int .i64 0, .int .i64 1, .string ⟨#[120]⟩]] X fun e Y => e = .returned (.int .i64 0) ∧ Nf w Y B ⟨1, [lx]⟩ 1 loc) := fun X loc h => by
    refine (h.put (by omega) 0 1 ⟨#[120]⟩ ⟨⟨by omega, by omega⟩, ⟨by omega, by omega⟩⟩ (by decide)).mono ?_
    rintro e Y ⟨rfl, h1, _⟩
    exact ⟨rfl, h1⟩
  have HP2 : Hid (∀ X loc, Nf w X B ⟨1, [lx]⟩ 1 loc → Calls Try.prog 29 #[.pointer (some ⟨B, 0, none⟩), .agg #[.int .i64 0, .int .i64 1, .string ⟨#[]⟩]] X fun e Y => e = .returned (.int .i64 2) ∧ Nf w Y B ⟨1, [lx]⟩ 2 loc) := fun X loc h => by
    refine (h.put (by omega) 0 1 ⟨#[]⟩ ⟨⟨by omega, by omega⟩, ⟨by omega, by omega⟩⟩ (by decide)).mono ?_
    rintro e Y ⟨rfl, h1, _⟩
    exact ⟨rfl, h1⟩
  have HP3 : Hid (∀ X loc, Nf w X B ⟨1, [lx]⟩ 2 loc → Calls Try.prog 29 #[.pointer (some ⟨B, 0, none⟩), .agg #[.int .i64 1, .int .i64 0, .string ⟨#[]⟩]] X fun e Y => e = .returned (.int .i64 0) ∧ Nf w Y B ⟨1, [lx, ly]⟩ 3 loc) := fun X loc h => by
    refine (h.put (by omega) 1 0 ⟨#[]⟩ ⟨⟨by omega, by omega⟩, ⟨by omega, by omega⟩⟩ (by decide)).mono ?_
    rintro e Y ⟨rfl, h1, _⟩
    exact ⟨rfl, h1⟩
  have HT : Hid (∀ X loc, Nf w X B ⟨1, [lx, ly]⟩ 3 loc → Calls Try.prog 30 #[.pointer (some ⟨B, 0, none⟩), .int .i64 0] X fun e Y => e = .returned (.tuple #[.agg #[.int .i64 0, .int .i64 1, .string ⟨#[120]⟩], .bool true]) ∧ Nf w Y B ⟨1, [ly]⟩ 4 loc) := fun X loc h => by
    refine (h.take (by omega) 0 (l := lx) rfl).mono ?_
    rintro e Y ⟨rfl, h1, _⟩
    exact ⟨rfl, h1⟩
  have HL : Hid (∀ X loc, Nf w X B ⟨1, [ly]⟩ 4 loc → Calls Try.prog 13 #[.pointer (some ⟨B, 0, none⟩)] X fun e Y => e = .returned (.int .i64 1) ∧ Y = X) := fun X loc h => h.lenC
  clear hB
  go_enter Try.func11, Try.ntmps11
  go_wp2_with fail
  refine Calls.mono HNew.out ?_
  rintro e w1 ⟨rfl, hl, _⟩
  have H1 : Hid _ := hl
  clear hl
  go_wp2_with fail
  refine (HP1.out _ _ H1.out).mono ?_
  rintro e w2 ⟨rfl, hl⟩
  have H2 : Hid _ := hl
  clear hl
  go_wp2_with fail
  refine (HP2.out _ _ H2.out).mono ?_
  rintro e w3 ⟨rfl, hl⟩
  have H3 : Hid _ := hl
  clear hl
  go_wp2_with fail
  refine (HP3.out _ _ H3.out).mono ?_
  rintro e w4 ⟨rfl, hl⟩
  have H4 : Hid _ := hl
  clear hl
  go_wp2_with fail
  refine (HT.out _ _ H4.out).mono ?_
  rintro e w5 ⟨rfl, hl⟩
  have H5 : Hid _ := hl
  clear hl
  go_wp2_with fail
  refine (HL.out _ _ (Nf.below H5.out (below_alloc _ _))).mono ?_
  rintro e w6 ⟨rfl, hw⟩
  subst hw
  go_wp2
  go_ret
  exact ⟨rfl, (Nf.below H5.out (below_alloc _ _)).old⟩

end Go.Proofs.Ytpopanfefpehnaa
