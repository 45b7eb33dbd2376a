/-
  Eight sessions, and what each of them asked last.
-/
import Derived.Test.YtnfjfhjhofaodaaSeLaw
namespace Go.Proofs.Ytnfjfhjhofaodaa.Se

theorem few {lo : Int} : ∀ {s : St}, Rise s → (∀ p ∈ s, lo ≤ p.1 ∧ p.1 < 8) → lo ≤ 8 → s.length ≤ (8 - lo).toNat
  | [], _, _, _ => by simp
  | (k, l) :: r, h, hk, hl => by
    obtain ⟨h1, h2⟩ := List.pairwise_cons.1 h
    have hk0 : lo ≤ k ∧ k < 8 := hk (k, l) List.mem_cons_self
    have := few (lo := k + 1) h2 (fun p hp => by
      have h3 : k < p.1 := h1 p hp
      have h4 := (hk p (List.mem_cons_of_mem _ hp)).2
      omega) (by omega)
    rw [List.length_cons]
    omega

/-- L tells what each session asked last; 0: nothing. -/
structure Ap (s : St) (L : Nat → Int) : Prop where
  rise : Rise s
  keys : ∀ p ∈ s, (0 : Int) ≤ p.1 ∧ p.1 < 8
  none_ : ∀ a : Nat, a < 8 → get s (a : Int) = none → L a = 0
  some_ : ∀ (a : Nat) (l : Ls), a < 8 → get s (a : Int) = some l → L a = l.seq
  bare : ∀ k l, (k, l) ∈ s → l.re.posts = []

theorem Ap.nil : Ap [] (fun _ => 0) := ⟨List.Pairwise.nil, (fun _ h => by cases h), fun _ _ _ => rfl, (fun _ _ _ h => by cases h), fun _ _ h => by cases h⟩
theorem Ap.len {s : St} {L : Nat → Int} (h : Ap s L) : s.length ≤ 8 := few h.rise h.keys (by omega)

section
variable {s : St} {L : Nat → Int} {a b : Nat}
theorem Ap.may (ha : a < 8) (hb : 1 ≤ b) (hb2 : b ≤ 256) : Se.may (a : Int) (b : Int) = true := may_ok ⟨⟨by omega, by omega⟩, by omega, by omega⟩
theorem Ap.find (h : Ap s L) (ha : a < 8) (hb : 1 ≤ b) (hb2 : b ≤ 256) : ∃ re, Se.find s (a : Int) (b : Int) = (re, if L a = (b : Int) then 0 else if (b : Int) < L a then 110 else 3) := by
  unfold Se.find
  rw [Ap.may ha hb hb2, if_neg (by decide)]
  cases hg : get s (a : Int) with
  | none =>
    have := h.none_ a ha hg
    refine ⟨zero, ?_⟩
    dsimp only
    rw [this, if_neg (by omega), if_neg (by omega)]
  | some l =>
    have := h.some_ a l ha hg
    dsimp only
    rw [this]
    by_cases h1 : l.seq < (b : Int)
    · exact ⟨zero, by rw [if_pos h1, if_neg (by omega), if_neg (by omega)]⟩
    · by_cases h2 : (b : Int) < l.seq
      · exact ⟨zero, by rw [if_neg h1, if_pos h2, if_neg (by omega), if_pos h2]⟩
      · exact ⟨l.re, by rw [if_neg h1, if_neg h2, if_pos (by omega)]⟩
theorem Ap.putE (h : Ap s L) (ha : a < 8) (hb : 1 ≤ b) (hb2 : b ≤ 256) (t : Int) : Se.putE s (a : Int) (b : Int) ⟨0, t, []⟩ = if L a < (b : Int) then 0 else 110 := by
  unfold Se.putE
  have hl := h.len
  rw [Ap.may ha hb hb2, if_neg (by decide)]
  dsimp only
  rw [if_neg (by simp)]
  cases hg : get s (a : Int) with
  | none =>
    have := h.none_ a ha hg
    dsimp only
    rw [this, if_neg (by omega), if_pos (by omega)]
  | some l =>
    have := h.some_ a l ha hg
    dsimp only
    rw [this]
    split
    · rw [if_neg (by omega)]
    · rw [if_pos (by omega)]
theorem Ap.puts (h : Ap s L) (ha : a < 8) (hb : 1 ≤ b) (hb2 : b ≤ 256) (t : Int) (hL : L a < (b : Int)) : Ap (Se.put s (a : Int) (b : Int) ⟨0, t, []⟩) (fun x => if x = a then (b : Int) else L x) := by
  have e := h.putE ha hb hb2 t
  rw [if_pos hL] at e
  unfold Se.put
  rw [if_pos e]
  refine ⟨ins_rise h.rise, fun p hp => ?_, fun x hx hg => ?_, fun x l hx hg => ?_, fun k l hk => ?_⟩
  · rcases ins_mem hp with q | q
    · rw [q]
      show (0 : Int) ≤ (a : Int) ∧ (a : Int) < 8
      omega
    · exact h.keys p q
  · by_cases e1 : x = a
    · rw [e1, get_ins_same h.rise] at hg
      cases hg
    · rw [get_ins_other (by omega) h.rise] at hg
      rw [if_neg e1]
      exact h.none_ x hx hg
  · by_cases e1 : x = a
    · rw [e1, get_ins_same h.rise] at hg
      injection hg with hg
      rw [if_pos e1, ← hg]
    · rw [get_ins_other (by omega) h.rise] at hg
      rw [if_neg e1]
      exact h.some_ x l hx hg
  · rcases ins_mem hk with q | q
    · injection q with _ q
      rw [q]
    · exact h.bare k l q
theorem Ap.stays (h : Ap s L) (ha : a < 8) (hb : 1 ≤ b) (hb2 : b ≤ 256) (t : Int) (hL : ¬ L a < (b : Int)) : Se.put s (a : Int) (b : Int) ⟨0, t, []⟩ = s := by
  have e := h.putE ha hb hb2 t
  rw [if_neg hL] at e
  unfold Se.put
  rw [e, if_neg (by decide)]
end

end Go.Proofs.Ytnfjfhjhofaodaa.Se
