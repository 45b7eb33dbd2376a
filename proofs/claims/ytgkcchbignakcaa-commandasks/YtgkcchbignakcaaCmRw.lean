/-
  The document's writer, over a base that keeps what was there.
-/
import Derived.Test.YtgkcchbignakcaaCmOutOp
import Derived.Test.YtgkcchbignakcaaCmEls
namespace Go.Proofs.Ytgkcchbignakcaa
open Go.RowKit

/-- The writer in block B, made since w0. -/
structure Rw (w0 : World) (B n k : Nat) (x : Option (List UInt8)) (X : World) : Prop where
  ro : ∃ g, Ro w0 B (n + k) x g X
  ok : x ≠ some []
  small : n < 6000

def bv (b : Bool) : Int := if b then 1 else 0

theorem catF_ne : ∀ (l : List (Cm.K × Cm.V)) {y : Option (List UInt8)}, y ≠ some [] → catF y l ≠ some []
  | [], _, h => h
  | _ :: r, _, h => catF_ne r (cat_ne h)

theorem Rw.num {w0 : World} {B n k : Nat} {x : Option (List UInt8)} {X : World} (h : Rw w0 B n k x X) (v : Int) (hk : k < 500) :
    Calls Try.prog 31 #[.pointer (some ⟨B, 0, none⟩), .int .i64 v] X fun e Y => e = .returned (.tuple #[]) ∧ Rw w0 B n (k + 1) (cat x (Cm.enc1 (.n Cm.mI) (.n v))) Y := by
  obtain ⟨g, hr⟩ := h.ro
  refine (out_num hr v (by have := h.small; omega)).mono ?_
  rintro e Y ⟨rfl, g', h1, -, -⟩
  exact ⟨rfl, ⟨g', h1⟩, cat_ne h.ok, h.small⟩
theorem Rw.text {w0 : World} {B n k : Nat} {x : Option (List UInt8)} {X : World} (h : Rw w0 B n k x X) (s : ByteArray) (hk : k < 500) :
    Calls Try.prog 34 #[.pointer (some ⟨B, 0, none⟩), .string s] X fun e Y => e = .returned (.tuple #[]) ∧ Rw w0 B n (k + 2) (cat x (Cm.enc1 .t (.t s))) Y := by
  obtain ⟨g, hr⟩ := h.ro
  refine (out_text hr s (by have := h.small; omega)).mono ?_
  rintro e Y ⟨rfl, g', h1, -, -⟩
  exact ⟨rfl, ⟨g', h1⟩, cat_ne h.ok, h.small⟩
theorem Rw.truth {w0 : World} {B n k : Nat} {x : Option (List UInt8)} {X : World} (h : Rw w0 B n k x X) (v : Bool) (hk : k < 500) :
    Calls Try.prog 32 #[.pointer (some ⟨B, 0, none⟩), .bool v] X fun e Y => e = .returned (.tuple #[]) ∧ Rw w0 B n (k + 1) (cat x (Cm.enc1 (.n 1) (.n (bv v)))) Y := by
  obtain ⟨g, hr⟩ := h.ro
  refine (out_truth hr v (by have := h.small; omega)).mono ?_
  rintro e Y ⟨rfl, g', h1, -, -⟩
  exact ⟨rfl, ⟨g', h1⟩, cat_ne h.ok, h.small⟩
theorem Rw.op {w0 : World} {B n k : Nat} {x : Option (List UInt8)} {X : World} (h : Rw w0 B n k x X) (o : OpD) (hk : k < 500) :
    Calls Try.prog 33 #[.pointer (some ⟨B, 0, none⟩), .agg o.cells.toArray] X fun e Y => e = .returned (.tuple #[]) ∧ Rw w0 B n (k + 15) (catF x o.pss.flatten) Y := by
  obtain ⟨g, hr⟩ := h.ro
  refine (out_op hr h.ok o (by have := h.small; omega)).mono ?_
  rintro e Y ⟨rfl, g', h1, -, -⟩
  exact ⟨rfl, ⟨g', h1⟩, catF_ne _ h.ok, h.small⟩
theorem Rw.ends {w0 : World} {B n k : Nat} {x : Option (List UInt8)} {X : World} (h : Rw w0 B n k x X) :
    Calls Try.prog 35 #[.pointer (some ⟨B, 0, none⟩)] X fun e Y => e = .returned (.tuple #[.string (endS x), .int .i64 (putE x)]) ∧ Y = X := by
  obtain ⟨g, hr⟩ := h.ro
  exact out_ends hr h.ok
theorem Rw.below {w0 : World} {B n k : Nat} {x : Option (List UInt8)} {X : World} (h : Rw w0 B n k x X) : Below w0.heap.size w0 X := by
  obtain ⟨g, hr⟩ := h.ro
  exact hr.below
theorem Rw.re {w0 : World} {B n k : Nat} {x : Option (List UInt8)} {X : World} (h : Rw w0 B n k x X) {m : Nat} (hm : n + k ≤ m) (h2 : m < 6000) {y : Option (List UInt8)} (e : x = y) : Rw w0 B m 0 y X := by
  obtain ⟨g, hr⟩ := h.ro
  subst e
  exact ⟨⟨g, hr.more hm⟩, h.ok, h2⟩

theorem Rw.fresh (w : World) (m : UInt8) : Rw w (w.heap.size + 1) 1 0 (some [m]) ((w.alloc (.cells #[.int .u8 (m.toNat : Int)] 5)).alloc (.cells #[.slice (some ⟨w.heap.size, 0, none⟩) 1 1, .bool false] 65)) :=
  ⟨⟨_, Ro.fresh (Below.refl _ w) m⟩, fun e => (by cases e), by omega⟩

theorem put_end (m : UInt8) {E Y : Option (List UInt8)} (h : Y = cat (some [m]) E) : Ending.returned (.tuple #[.string (endS Y), .int .i64 (putE Y)]) = putO ⟨#[m]⟩ E := by
  subst h
  rw [putO_eq]
  cases E <;> rfl

theorem enc_mem_none : ∀ {l : List (Cm.K × Cm.V)} {p : Cm.K × Cm.V}, p ∈ l → Cm.enc1 p.1 p.2 = none → Cm.enc l = none
  | (k, v) :: r, p, hp, h => by
    simp only [Cm.enc]
    rcases List.mem_cons.1 hp with rfl | hp
    · rw [h]
    · cases Cm.enc1 k v with
      | none => rfl
      | some a =>
        simp only
        rw [enc_mem_none hp h]

theorem enc_up {m n : Nat} (hm : m ≤ Cm.mI) (hn : n ≤ m) : Cm.enc1 (.n Cm.mI) (.n (n : Int)) = Cm.enc1 (.n m) (.n (n : Int)) := by
  rw [Cm.enc1, Cm.enc1, if_pos (by omega), if_pos (by omega)]

def rowF {α : Type} (f : α → List (Cm.K × Cm.V)) (l : List α) (k : Nat) : List (Cm.K × Cm.V) := ((l.take k).map f).flatten
theorem rowF_all {α : Type} (f : α → List (Cm.K × Cm.V)) (l : List α) : rowF f l l.length = (l.map f).flatten := by unfold rowF; rw [List.take_length]
theorem catF_take {α : Type} (f : α → List (Cm.K × Cm.V)) (y : Option (List UInt8)) (l : List α) (k : Nat) (e : α) (he : l[k]? = some e) : catF y (rowF f l (k + 1)) = catF (catF y (rowF f l k)) (f e) := by
  unfold rowF
  rw [List.take_add_one, he, List.map_append, List.flatten_append, catF_app]
  simp

end Go.Proofs.Ytgkcchbignakcaa
