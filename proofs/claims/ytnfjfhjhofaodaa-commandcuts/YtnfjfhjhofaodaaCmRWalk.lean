/-
  Fields that are read: what of a field's contract a walk over fields wants.
-/
import Derived.Test.YtnfjfhjhofaodaaCmRdT
namespace Go.Proofs.Ytnfjfhjhofaodaa
open Go.RowKit

def rdV (R : Nat) : Value := .iface 105 (.pointer (some ⟨R, 0, none⟩))

/-- A field that is read: what of bytes (D), into which cells (S), what they must be ahead (Z) and are behind it (H: with blocks of its own from N on). -/
structure Rf where
  D : List UInt8 → Option (List (Cm.K × Cm.V) × List UInt8)
  S : Nat → Nat → Prop
  Z : World → Prop
  H : Nat → World → List (Cm.K × Cm.V) → Prop

structure Rf.Ok (q : Rf) : Prop where
  z : ∀ (T : Nat → Nat → Prop) (w w' : World), q.Z w → KeptC T w w' → (∀ c p, q.S c p → ¬ T c p) → q.Z w'
  h : ∀ (T : Nat → Nat → Prop) (N : Nat) (w w' : World) (vs : List (Cm.K × Cm.V)), q.H N w vs → KeptC T w w' → (∀ c p, T c p → c < N ∧ ¬ q.S c p) → q.H N w' vs
  m : ∀ (N N' : Nat) (w : World) (vs : List (Cm.K × Cm.V)), q.H N w vs → N' ≤ N → q.H N' w vs

def qNum (b o : Nat) : Rf where
  D := Cm.dec [.n Cm.mI]
  S := fun c p => c = b ∧ p = o
  Z := fun w => (∃ v : Int, w.cell? ⟨b, o, none⟩ = some (.int .i64 v)) ∧ w.frozen? ⟨b, o, none⟩ = false
  H := fun _ w vs => ∃ v : Int, vs = [(.n Cm.mI, .n v)] ∧ w.cell? ⟨b, o, none⟩ = some (.int .i64 v)

def qBool (b o : Nat) : Rf where
  D := Cm.dec [.n 1]
  S := fun c p => c = b ∧ p = o
  Z := fun w => w.cell? ⟨b, o, none⟩ = some (.bool false) ∧ w.frozen? ⟨b, o, none⟩ = false
  H := fun _ w vs => ∃ v : Int, vs = [(.n 1, .n v)] ∧ w.cell? ⟨b, o, none⟩ = some (.bool (v == 1))

def qStr (b o : Nat) : Rf where
  D := Cm.dec [.t]
  S := fun c p => c = b ∧ p = o
  Z := fun w => (∃ x, w.cell? ⟨b, o, none⟩ = some x) ∧ w.frozen? ⟨b, o, none⟩ = false
  H := fun _ w vs => ∃ s : ByteArray, vs = [(.t, .t s)] ∧ w.cell? ⟨b, o, none⟩ = some (.string s)

theorem qNum_ok (b o : Nat) : (qNum b o).Ok := by
  refine ⟨?_, ?_, fun _ _ _ _ h _ => h⟩
  · rintro T w w' ⟨⟨v, hc⟩, hz⟩ hk hs
    have hl : b < w.heap.size := World.block_lt_of_cell? _ _ hc
    exact ⟨⟨v, by rw [hk.cell b o hl (hs b o ⟨rfl, rfl⟩)]; exact hc⟩, by rw [hk.frozen b o hl]; exact hz⟩
  · rintro T N w w' vs ⟨v, hv, hc⟩ hk hs
    have hl : b < w.heap.size := World.block_lt_of_cell? _ _ hc
    exact ⟨v, hv, by rw [hk.cell b o hl (fun x => (hs b o x).2 ⟨rfl, rfl⟩)]; exact hc⟩

theorem qBool_ok (b o : Nat) : (qBool b o).Ok := by
  refine ⟨?_, ?_, fun _ _ _ _ h _ => h⟩
  · rintro T w w' ⟨hc, hz⟩ hk hs
    have hl : b < w.heap.size := World.block_lt_of_cell? _ _ hc
    exact ⟨by rw [hk.cell b o hl (hs b o ⟨rfl, rfl⟩)]; exact hc, by rw [hk.frozen b o hl]; exact hz⟩
  · rintro T N w w' vs ⟨v, hv, hc⟩ hk hs
    have hl : b < w.heap.size := World.block_lt_of_cell? _ _ hc
    exact ⟨v, hv, by rw [hk.cell b o hl (fun x => (hs b o x).2 ⟨rfl, rfl⟩)]; exact hc⟩

theorem qStr_ok (b o : Nat) : (qStr b o).Ok := by
  refine ⟨?_, ?_, fun _ _ _ _ h _ => h⟩
  · rintro T w w' ⟨⟨v, hc⟩, hz⟩ hk hs
    have hl : b < w.heap.size := World.block_lt_of_cell? _ _ hc
    exact ⟨⟨v, by rw [hk.cell b o hl (hs b o ⟨rfl, rfl⟩)]; exact hc⟩, by rw [hk.frozen b o hl]; exact hz⟩
  · rintro T N w w' vs ⟨v, hv, hc⟩ hk hs
    have hl : b < w.heap.size := World.block_lt_of_cell? _ _ hc
    exact ⟨v, hv, by rw [hk.cell b o hl (fun x => (hs b o x).2 ⟨rfl, rfl⟩)]; exact hc⟩

/-- One behind the other. -/
def dseq : List Rf → List UInt8 → Option (List (Cm.K × Cm.V) × List UInt8)
  | [], l => some ([], l)
  | q :: qs, l => match q.D l with
    | none => none
    | some (a, r) => match dseq qs r with
      | none => none
      | some (b, r') => some (a ++ b, r')

def seqH : List Rf → Nat → World → List (Cm.K × Cm.V) → Prop
  | [], _, _, vs => vs = []
  | q :: qs, N, w, vs => ∃ a b, vs = a ++ b ∧ q.H N w a ∧ seqH qs N w b

def seqR (qs : List Rf) : Rf where
  D := dseq qs
  S := fun c p => ∃ q ∈ qs, q.S c p
  Z := fun w => ∀ q ∈ qs, q.Z w
  H := seqH qs

theorem seqH_h : ∀ (qs : List Rf), (∀ q ∈ qs, q.Ok) → ∀ (T : Nat → Nat → Prop) (N : Nat) (w w' : World) (vs : List (Cm.K × Cm.V)), seqH qs N w vs → KeptC T w w' → (∀ c p, T c p → c < N ∧ ∀ q ∈ qs, ¬ q.S c p) → seqH qs N w' vs
  | [], _, _, _, _, _, _, h, _, _ => h
  | q :: qs, hq, T, N, w, w', vs, h, hk, hs => by
    obtain ⟨a, b, e, ha, hb⟩ := h
    exact ⟨a, b, e, (hq q (List.mem_cons_self ..)).h T N w w' a ha hk (fun c p x => ⟨(hs c p x).1, (hs c p x).2 q (List.mem_cons_self ..)⟩),
      seqH_h qs (fun q hm => hq q (List.mem_cons_of_mem _ hm)) T N w w' b hb hk (fun c p x => ⟨(hs c p x).1, fun q hm => (hs c p x).2 q (List.mem_cons_of_mem _ hm)⟩)⟩

theorem seqH_m : ∀ (qs : List Rf), (∀ q ∈ qs, q.Ok) → ∀ (N N' : Nat) (w : World) (vs : List (Cm.K × Cm.V)), seqH qs N w vs → N' ≤ N → seqH qs N' w vs
  | [], _, _, _, _, _, h, _ => h
  | q :: qs, hq, N, N', w, vs, h, hn => by
    obtain ⟨a, b, e, ha, hb⟩ := h
    exact ⟨a, b, e, (hq q (List.mem_cons_self ..)).m N N' w a ha hn, seqH_m qs (fun q hm => hq q (List.mem_cons_of_mem _ hm)) N N' w b hb hn⟩

theorem seqR_ok {qs : List Rf} (hq : ∀ q ∈ qs, q.Ok) : (seqR qs).Ok :=
  ⟨fun T w w' hz hk hs q hm => (hq q hm).z T w w' (hz q hm) hk (fun c p x => hs c p ⟨q, hm, x⟩),
   fun T N w w' vs h hk hs => seqH_h qs hq T N w w' vs h hk (fun c p x => ⟨(hs c p x).1, fun q hm y => (hs c p x).2 ⟨q, hm, y⟩⟩),
   fun N N' w vs h hn => seqH_m qs hq N N' w vs h hn⟩

theorem seqH_snoc : ∀ (qs : List Rf) (q : Rf) (N : Nat) (w : World) (a b : List (Cm.K × Cm.V)), seqH qs N w a → q.H N w b → seqH (qs ++ [q]) N w (a ++ b)
  | [], q, N, w, a, b, h, hb => by
    have : a = [] := h
    subst this
    exact ⟨b, [], by simp, hb, rfl⟩
  | p :: qs, q, N, w, a, b, h, hb => by
    obtain ⟨a1, a2, rfl, h1, h2⟩ := h
    exact ⟨a1, a2 ++ b, by rw [List.append_assoc], h1, seqH_snoc qs q N w a2 b h2 hb⟩

theorem dseq_append : ∀ (xs ys : List Rf) (l : List UInt8), dseq (xs ++ ys) l = match dseq xs l with
    | none => none
    | some (a, r) => match dseq ys r with
      | none => none
      | some (b, r') => some (a ++ b, r')
  | [], ys, l => by
    simp only [List.nil_append, dseq]
    cases dseq ys l with
    | none => rfl
    | some p => simp
  | q :: xs, ys, l => by
    simp only [List.cons_append, dseq]
    cases q.D l with
    | none => rfl
    | some p =>
      obtain ⟨a, r⟩ := p
      simp only
      rw [dseq_append xs ys r]
      cases dseq xs r with
      | none => rfl
      | some p2 =>
        obtain ⟨b, r2⟩ := p2
        simp only
        cases dseq ys r2 with
        | none => rfl
        | some p3 => simp

theorem dseq_one (q : Rf) (l : List UInt8) : dseq [q] l = q.D l := by
  simp only [dseq]
  cases q.D l with
  | none => rfl
  | some p => simp

/-- What walk does with fields that are read. -/
def RWalkC (fs : List Fd) (q : Rf) : Prop :=
  ∀ (w : World) (R : Nat) (s : ByteArray) (eb : Nat), Rd w R s → Elems w eb fs → eb ≠ R → q.Z w → (∀ o, ¬ q.S R o) → (∀ o, ¬ q.S eb o) → (∀ c p, q.S c p → c < w.heap.size) →
    Calls Try.prog 43 #[rdV R, .slice (some ⟨eb, 0, none⟩) fs.length fs.length] w (ROut w R q.S (q.D s.data.toList) (q.H w.heap.size))

/-- What walkList does with a list that is read. -/
def RListC (fn : FuncId) (most b o : Nat) (q : Rf) : Prop :=
  ∀ (w : World) (R : Nat) (s : ByteArray), Rd w R s → q.Z w → (∀ o, ¬ q.S R o) → (∀ c p, q.S c p → c < w.heap.size) →
    Calls Try.prog fn #[rdV R, .pointer (some ⟨b, o, none⟩), .int .i64 (most : Int)] w (ROut w R q.S (q.D s.data.toList) (q.H w.heap.size))

/-- A field and how it is read. -/
def FR : Fd → Rf → Prop
  | .inl (b, o), q => q = qNum b o
  | .inr (.inl (b, o)), q => q = qNum b o
  | .inr (.inr (.inl (b, o))), q => q = qBool b o
  | .inr (.inr (.inr (.inl (b, o)))), q => q = qStr b o
  | .inr (.inr (.inr (.inr (.inl (b, o))))), q => RListC 53 16 b o q
  | .inr (.inr (.inr (.inr (.inr (.inl (b, o)))))), q => RListC 54 64 b o q
  | .inr (.inr (.inr (.inr (.inr (.inr (t, b, o)))))), q => RWalkC (fields b o t) q

/-- The reader under way: so many fields are read. -/
structure Ry (w wr : World) (R : Nat) (l : List UInt8) (qs : List Rf) (k : Nat) : Prop where
  out : ∃ vs t, dseq (qs.take k) l = some (vs, t.data.toList) ∧ Rd wr R t ∧ seqH (qs.take k) w.heap.size wr vs
  zero : ∀ i q, k ≤ i → qs[i]? = some q → q.Z wr
  kept : KeptC (fun c p => c = R ∨ ∃ q ∈ qs, q.S c p) w wr
  ok : ∀ q ∈ qs, q.Ok
  far : ∀ q ∈ qs, ∀ o, ¬ q.S R o
  low : ∀ q ∈ qs, ∀ c p, q.S c p → c < w.heap.size
  rlt : R < w.heap.size
  apart : ∀ (i j : Nat) (q r : Rf), i ≠ j → qs[i]? = some q → qs[j]? = some r → ∀ c p, q.S c p → ¬ r.S c p

theorem Ry.step {w wr w' : World} {R : Nat} {l : List UInt8} {qs : List Rf} {k : Nat} (h : Ry w wr R l qs k) {q : Rf} (hq : qs[k]? = some q) {vs : List (Cm.K × Cm.V)} {t : ByteArray} (hd : dseq (qs.take k) l = some (vs, t.data.toList)) (hh : seqH (qs.take k) w.heap.size wr vs)
    {a : List (Cm.K × Cm.V)} {r : List UInt8} (hD : q.D t.data.toList = some (a, r)) {t2 : ByteArray} (ht2 : Rd w' R t2) (hr : t2.data.toList = r) {N : Nat} (hN : w.heap.size ≤ N) (hH : q.H N w' a) (hk : KeptC (fun c p => c = R ∨ q.S c p) wr w') : Ry w w' R l qs (k + 1) := by
  have hmem : q ∈ qs := List.mem_of_getElem? hq
  have htk : qs.take (k + 1) = qs.take k ++ [q] := by rw [List.take_add_one, hq]; rfl
  have hinT : ∀ x ∈ qs.take k, ∃ i, i < k ∧ qs[i]? = some x := by
    intro x hx
    obtain ⟨i, hi, e⟩ := List.mem_iff_getElem.1 hx
    have hi' : i < k := by simp at hi; omega
    refine ⟨i, hi', ?_⟩
    rw [← e, List.getElem_take]
    exact List.getElem?_eq_getElem _
  refine ⟨⟨vs ++ a, t2, ?_, ht2, ?_⟩, fun i x hi hx => ?_, ?_, h.ok, h.far, h.low, h.rlt, h.apart⟩
  · rw [htk, dseq_append, hd]
    simp only
    rw [dseq_one, hD, ← hr]
  · rw [htk]
    refine seqH_snoc _ _ _ _ _ _ (seqH_h (qs.take k) (fun x hx => h.ok x (List.mem_of_mem_take hx)) _ _ _ _ _ hh hk (fun c p hT => ?_)) ((h.ok q hmem).m _ _ _ _ hH hN)
    rcases hT with rfl | hT
    · exact ⟨h.rlt, fun x hx => h.far x (List.mem_of_mem_take hx) p⟩
    · refine ⟨h.low q hmem c p hT, fun x hx hS => ?_⟩
      obtain ⟨i, hi, e⟩ := hinT x hx
      exact h.apart i k x q (by omega) e hq c p hS hT
  · refine (h.ok x (List.mem_of_getElem? hx)).z _ _ _ (h.zero i x (by omega) hx) hk (fun c p hS hT => ?_)
    rcases hT with rfl | hT
    · exact h.far x (List.mem_of_getElem? hx) p hS
    · exact h.apart i k x q (by omega) hx hq c p hS hT
  · refine h.kept.trans hk (fun c p _ x => ?_)
    rcases x with x | x
    · exact .inl x
    · exact .inr ⟨q, hmem, x⟩

theorem Ry.panic {w wr w' : World} {R : Nat} {l : List UInt8} {qs : List Rf} {k : Nat} (h : Ry w wr R l qs k) {q : Rf} (hq : qs[k]? = some q) {vs : List (Cm.K × Cm.V)} {t : ByteArray} (hd : dseq (qs.take k) l = some (vs, t.data.toList))
    (hD : q.D t.data.toList = none) (hk : KeptC (fun c p => c = R ∨ q.S c p) wr w') {ty : TypeId} {v : Value} : ROut w R (seqR qs).S ((seqR qs).D l) ((seqR qs).H w.heap.size) (.panicked [{ v := .iface ty v, recovered := false }]) w' := by
  have hmem : q ∈ qs := List.mem_of_getElem? hq
  refine ⟨h.kept.trans hk (fun c p _ x => ?_), ?_⟩
  · rcases x with x | x
    · exact .inl x
    · exact .inr ⟨q, hmem, x⟩
  · have e : (seqR qs).D l = none := by
      show dseq qs l = none
      rw [← List.take_append_drop (k + 1) qs, dseq_append, List.take_add_one, hq]
      have e1 : (some q).toList = [q] := rfl
      rw [e1, dseq_append, hd]
      simp only
      rw [dseq_one, hD]
    rw [e]
    exact ⟨_, _, rfl⟩

theorem Ry.end_ {w wr : World} {R : Nat} {l : List UInt8} {qs : List Rf} (h : Ry w wr R l qs qs.length) : ROut w R (seqR qs).S ((seqR qs).D l) ((seqR qs).H w.heap.size) (.returned (.tuple #[])) wr := by
  obtain ⟨vs, t, hd, ht, hh⟩ := h.out
  rw [List.take_length] at hd hh
  refine ⟨h.kept, ?_⟩
  have e : (seqR qs).D l = some (vs, t.data.toList) := hd
  rw [e]
  exact ⟨rfl, ⟨t, ht, rfl⟩, hh⟩

theorem Ry.start {w : World} {R : Nat} {s : ByteArray} {qs : List Rf} (hr : Rd w R s) (hz : (seqR qs).Z w) (hR : ∀ o, ¬ (seqR qs).S R o) (hl : ∀ c p, (seqR qs).S c p → c < w.heap.size) (hok : ∀ q ∈ qs, q.Ok) (hap : ∀ (i j : Nat) (q r : Rf), i ≠ j → qs[i]? = some q → qs[j]? = some r → ∀ c p, q.S c p → ¬ r.S c p) : Ry w w R s.data.toList qs 0 :=
  ⟨⟨[], s, rfl, hr, rfl⟩, fun _ q _ h => hz q (List.mem_of_getElem? h), KeptC.refl _ _, hok, fun q hq o x => hR o ⟨q, hq, x⟩, fun q hq c p x => hl c p ⟨q, hq, x⟩, hr.lt, hap⟩

end Go.Proofs.Ytnfjfhjhofaodaa
