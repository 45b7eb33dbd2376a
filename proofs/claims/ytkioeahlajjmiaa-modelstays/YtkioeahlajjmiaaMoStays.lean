/-
  The posts of one channel: an accepted post is put behind them, nothing else but a move or a close turns them; a page of one.
-/
import Derived.Test.YtkioeahlajjmiaaMoDo6
namespace Go.Proofs.Ytkioeahlajjmiaa

/-- The posts of the channel c of w. -/
def Wc (s : Mo.St) : List Mo.Po := match s.ch ⟨#[119]⟩ ⟨#[99]⟩ with | none => [] | some ch => ch.posts

theorem Wc.setC {s : Mo.St} {x y : ByteArray} {c : Mo.Ch} (hp : ∀ c', s.ch x y = some c' → c.posts = c'.posts) (hn : s.ch x y = none → c.posts = []) : Wc (Mo.setC s x y (some c)) = Wc s := by
  unfold Wc Mo.setC
  dsimp only
  by_cases e : (⟨#[119]⟩ : ByteArray) = x ∧ (⟨#[99]⟩ : ByteArray) = y
  · rw [if_pos e, e.1, e.2]
    cases h : s.ch x y with
    | none => exact hn h
    | some c' => exact hp c' h
  · rw [if_neg e]

/-- An accepted post of it. -/
theorem Wc.post {s : Mo.St} {o : Mo.Op} (h3 : o.kind = 3) (hw : o.space = ⟨#[119]⟩) (hc : o.channel = ⟨#[99]⟩) (h0 : (Mo.tells s o).err = 0) : (Mo.tells s o).at_ = ((Wc s).length : Int) ∧ Wc (Mo.does s o) = Wc s ++ [⟨o.user, o.text⟩] := by
  cases hm : Mo.may o with
  | false => simp [Mo.tells, hm] at h0
  | true =>
    cases hs : s.ch ⟨#[119]⟩ ⟨#[99]⟩ with
    | none => simp [Mo.tells, hm, h3, hw, hc, hs] at h0
    | some ch =>
      have hz : Mo.mayPost s ch o.user = 0 := by
        by_cases q : Mo.mayPost s ch o.user = 0
        · exact q
        · simp [Mo.tells, hm, h3, hw, hc, hs, q] at h0
      refine ⟨by simp [Mo.tells, hm, h3, hw, hc, hs, hz, Wc], ?_⟩
      have e : Mo.does s o = Mo.setC s ⟨#[119]⟩ ⟨#[99]⟩ (some (Mo.withP ch ⟨o.user, o.text⟩)) := by simp [Mo.does, hm, h3, hw, hc, hs, hz]
      rw [e]
      simp [Wc, Mo.setC, Mo.withP, hs]

/-- Anything else that is no move and no close. -/
theorem Wc.other {s : Mo.St} {o : Mo.Op} (h5 : o.kind ≠ 5) (h6 : o.kind ≠ 6) (h : ¬ (o.kind = 3 ∧ o.space = ⟨#[119]⟩ ∧ o.channel = ⟨#[99]⟩ ∧ (Mo.tells s o).err = 0)) : Wc (Mo.does s o) = Wc s := by
  cases hm : Mo.may o with
  | false => simp [Mo.does, hm]
  | true =>
    unfold Mo.does
    rw [if_neg (by rw [hm]; decide)]
    split
    · split
      · rfl
      · rename_i hn
        exact Wc.setC (fun c' e => by rw [hn] at e; cases e) (fun _ => rfl)
    split
    · split
      · rfl
      · rename_i c hc
        split
        · rfl
        · split
          · rfl
          · exact Wc.setC (fun c' e => by rw [hc] at e; injection e with e; rw [← e]; rfl) (fun e => by rw [hc] at e; cases e)
    split
    · rename_i h3
      split
      · rfl
      · rename_i c hc
        split
        · rename_i hz
          have hne : ¬ ((⟨#[119]⟩ : ByteArray) = o.space ∧ (⟨#[99]⟩ : ByteArray) = o.channel) := fun e => h ⟨h3, e.1.symm, e.2.symm, by simp [Mo.tells, hm, h3, hc, hz]⟩
          unfold Wc Mo.setC
          dsimp only
          rw [if_neg hne]
        · rfl
    split
    · rfl
    try rw [if_neg h5, if_neg h6]
    split
    · rfl
    · unfold Wc
      dsimp only
      cases s.ch ⟨#[119]⟩ ⟨#[99]⟩ with
      | none => rfl
      | some c => rfl

/-- A page of one. -/
theorem Wc.page {s : Mo.St} {k : Nat} {p : Mo.Po} (h : (Wc s)[k]? = some p) (hk : (k : Int) ≤ 2147483647) : Mo.tells s ⟨4, ⟨#[119]⟩, ⟨#[99]⟩, ⟨#[]⟩, ⟨#[]⟩, ⟨#[]⟩, ⟨#[]⟩, (k : Int), 1⟩ = ⟨0, (k : Int) + 1, [p]⟩ ∧ Mo.does s ⟨4, ⟨#[119]⟩, ⟨#[99]⟩, ⟨#[]⟩, ⟨#[]⟩, ⟨#[]⟩, ⟨#[]⟩, (k : Int), 1⟩ = s := by
  have hm : Mo.may ⟨4, ⟨#[119]⟩, ⟨#[99]⟩, ⟨#[]⟩, ⟨#[]⟩, ⟨#[]⟩, ⟨#[]⟩, (k : Int), 1⟩ = true := by
    unfold Mo.may
    simp [Mo.labels, Mo.within, Mo.opEq, hk]
    decide
  cases hs : s.ch ⟨#[119]⟩ ⟨#[99]⟩ with
  | none => simp [Wc, hs] at h
  | some ch =>
    have h : ch.posts[k]? = some p := by simpa [Wc, hs] using h
    have hkl := (List.getElem?_eq_some_iff.1 h).1
    refine ⟨?_, by simp [Mo.does, hm]⟩
    have e1 : Mo.frmN ⟨4, ⟨#[119]⟩, ⟨#[99]⟩, ⟨#[]⟩, ⟨#[]⟩, ⟨#[]⟩, ⟨#[]⟩, (k : Int), 1⟩ ch = k := by unfold Mo.frmN; simp; omega
    have e2 : Mo.endN ⟨4, ⟨#[119]⟩, ⟨#[99]⟩, ⟨#[]⟩, ⟨#[]⟩, ⟨#[]⟩, ⟨#[]⟩, (k : Int), 1⟩ ch = k + 1 := by unfold Mo.endN; rw [e1]; simp; omega
    have e3 : (ch.posts.drop k).take 1 = [p] := by
      obtain ⟨_, hp⟩ := List.getElem?_eq_some_iff.1 h
      rw [List.drop_eq_getElem_cons hkl, hp]
      rfl
    simp [Mo.tells, hm, hs, e1, e2, e3]

end Go.Proofs.Ytkioeahlajjmiaa
