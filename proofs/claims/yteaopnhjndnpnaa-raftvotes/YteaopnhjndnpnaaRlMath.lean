/-
  A raft log over plain numbers and lists: what each call of it answers.
-/
namespace Go.Proofs.Yteaopnhjndnpnaa.G

structure L where
  base : Int
  term : Int
  ents : List (Int × ByteArray)

def last (l : L) : Int := l.base + (l.ents.length : Int)
def termAt (l : L) (i : Int) : Int := if i = l.base then l.term else match l.ents[(i - l.base - 1).toNat]? with
  | some e => e.1
  | none => 0
def within (i a b : Int) : Int := if i < a then 60 else if b < i then 3 else 0
def entAt (l : L) (i : Int) : Int × ByteArray := match l.ents[(i - l.base - 1).toNat]? with
  | some e => e
  | none => (0, ⟨#[]⟩)

def termE (l : L) (i : Int) : Int := within i l.base (last l)
def termA (l : L) (i : Int) : Int := if termE l i = 0 then termAt l i else 0
def entryE (l : L) (i : Int) : Int := within i (l.base + 1) (last l)
def entryA (l : L) (i : Int) : Int × ByteArray := if entryE l i = 0 then entAt l i else (0, ⟨#[]⟩)
def appE (l : L) (x : Int × ByteArray) : Int :=
  if 1099511627776 < x.1 ∨ 262144 < x.2.size then 1 else if x.1 < termAt l (last l) then 50 else if last l = 1099511627776 then 2 else 0
def app (l : L) (x : Int × ByteArray) : L := if appE l x = 0 then { l with ents := l.ents ++ [x] } else l
def appA (l : L) (x : Int × ByteArray) : Int := if appE l x = 0 then last l + 1 else 0
def cutE (l : L) (i : Int) : Int := within i (l.base + 1) (last l + 1)
def cut (l : L) (i : Int) : L := if cutE l i = 0 then { l with ents := l.ents.take (i - l.base - 1).toNat } else l
def cmp (l : L) (i : Int) : L := if termE l i = 0 then ⟨i, termAt l i, l.ents.drop (i - l.base).toNat⟩ else l
def sliceE (l : L) (i m : Int) : Int := if m < 0 then 1 else within i (l.base + 1) (last l + 1)
def slice (l : L) (i m : Int) : List (Int × ByteArray) := if sliceE l i m = 0 then (l.ents.drop (i - l.base - 1).toNat).take m.toNat else []
def newer (l : L) (i t : Int) : Bool := decide (termAt l (last l) < t) || (decide (t = termAt l (last l)) && decide (last l ≤ i))

/-- Base and last index are in their bounds. -/
structure Ok (l : L) : Prop where
  base : 0 ≤ l.base
  last : G.last l ≤ 1099511627776

theorem Ok.len {l : L} (h : Ok l) : l.ents.length ≤ 1099511627776 ∧ l.base ≤ 1099511627776 := by
  have h1 := h.base
  have h2 := h.last
  unfold G.last at h2
  omega

theorem within_zero {i a b : Int} : within i a b = 0 ↔ a ≤ i ∧ i ≤ b := by
  unfold within
  split
  · constructor
    · intro h; omega
    · intro h; omega
  · split
    · constructor
      · intro h; omega
      · intro h; omega
    · constructor
      · intro _; omega
      · intro _; rfl

theorem Ok.app {l : L} (h : Ok l) (x : Int × ByteArray) : Ok (app l x) := by
  unfold G.app
  split
  · rename_i e
    refine ⟨h.base, ?_⟩
    have h2 := h.last
    have h3 : G.last l ≠ 1099511627776 := by
      intro q
      unfold appE at e
      split at e
      · omega
      · split at e
        · omega
        · first
          | omega
          | (rw [if_pos q] at e; omega)
    unfold G.last at h2 h3 ⊢
    simp
    omega
  · exact h

theorem Ok.cut {l : L} (h : Ok l) (i : Int) : Ok (cut l i) := by
  unfold G.cut
  split
  · refine ⟨h.base, ?_⟩
    have h2 := h.last
    unfold G.last at h2 ⊢
    simp only [List.length_take]
    omega
  · exact h

theorem Ok.cmp {l : L} (h : Ok l) (i : Int) : Ok (cmp l i) := by
  unfold G.cmp
  split
  · rename_i e
    have e := within_zero.1 e
    have h1 := h.base
    have h2 := h.last
    refine ⟨?_, ?_⟩
    · show 0 ≤ i
      omega
    · unfold G.last at h2 e ⊢
      simp only [List.length_drop]
      omega
  · exact h

end Go.Proofs.Yteaopnhjndnpnaa.G
