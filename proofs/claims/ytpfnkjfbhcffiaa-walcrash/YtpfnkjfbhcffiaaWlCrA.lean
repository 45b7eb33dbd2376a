/-
  What a crash leaves of a segment: its first records, whole, and behind them nothing that is taken. What the document says of any records that come one behind the other: All. WalCrash: the log, what the document says beside it, and the list of what was done, through the calls; a crash; the log behind it.
-/
import Derived.Test.YtpfnkjfbhcffiaaWlLo
import Derived.Test.YtpfnkjfbhcffiaaDkCrash
import Derived.Test.YtpfnkjfbhcffiaaWlPz
namespace Go.Proofs.Ytpfnkjfbhcffiaa
open Go.RowKit

namespace F
/-- Records one behind the other. -/
def frs : List ByteArray → ByteArray
  | [] => ⟨#[]⟩
  | p :: ps => record p ++ frs ps
theorem frs_list (p : ByteArray) (ps : List ByteArray) : (frs (p :: ps)).data.toList = (record p).data.toList ++ (frs ps).data.toList := by rw [frs, toL_append]
theorem frs_size (p : ByteArray) (ps : List ByteArray) : (frs (p :: ps)).size = 9 + p.size + (frs ps).size := by rw [frs, ByteArray.size_append, record_size]

theorem take_small {s : ByteArray} (h : s.size < 9) : ¬ (take s).2.2 = 0 := by
  intro e
  have := (take_yes e).2.1
  omega
/-- Bytes that begin as a record does, but for the last one, and are fewer. -/
theorem take_fewer {p : ByteArray} {s : ByteArray} (hp : p.size ≤ 262144) (h : s.size < 9 + p.size) (h8 : s.data.toList.take 8 = (record p).data.toList.take 8 ∨ s.size < 9) : ¬ (take s).2.2 = 0 := by
  rcases h8 with h8 | h8
  · intro e
    obtain ⟨_, h9, _, hle, _, _⟩ := take_yes e
    have hlen : lenOf s = p.size := by
      unfold lenOf
      have e1 : (s.data.toList.drop 1).take 4 = ((s.data.toList.take 8).drop 1).take 4 := by rw [List.drop_take, List.take_take]; rfl
      have e2 : (((record p).data.toList.take 8).drop 1).take 4 = ((record p).data.toList.drop 1).take 4 := by rw [List.drop_take, List.take_take]; rfl
      rw [e1, h8, e2, record_list, List.drop_succ_cons, List.drop_zero, List.take_append_of_le_length (by rw [M.putFix_length]; omega), List.take_of_length_le (by rw [M.putFix_length]; omega), le4 (by omega)]
    omega
  · exact take_small h8

theorem take_list_eq {a b : List UInt8} {s m : Nat} (hs : a.take s = b.take s) (hm : m ≤ s) : a.take m = b.take m := by
  have := congrArg (List.take m) hs
  rwa [List.take_take, List.take_take, Nat.min_eq_left hm] at this

/-- What is cut off records, its last byte maybe another one, is some records, whole, and behind them nothing that is taken. -/
theorem cut_frs : ∀ (ps : List ByteArray) (X : List UInt8) (s : Nat), (∀ p ∈ ps, p.size ≤ 262144) → X.length ≤ (frs ps).size → s ≤ X.length → X.take s = (frs ps).data.toList.take s → (s < X.length → X.take (X.length - 1) = (frs ps).data.toList.take (X.length - 1)) →
    ∃ j, j ≤ ps.length ∧ ∃ rest : ByteArray, X = (frs (ps.take j)).data.toList ++ rest.data.toList ∧ ¬ (take rest).2.2 = 0 ∧ ∀ q, q ≤ ps.length → (frs (ps.take q)).size ≤ s → q ≤ j
  | [], X, s, _, hl, _, _, _ => by
    have h0 : X = [] := List.eq_nil_of_length_eq_zero (by have : (frs []).size = 0 := rfl; omega)
    subst h0
    exact ⟨0, Nat.le_refl _, ⟨#[]⟩, by simp [frs], take_small (by decide), fun q hq _ => hq⟩
  | p :: ps, X, s, hp, hl, hs, hsure, hrest => by
    have hpp : p.size ≤ 262144 := hp p (by simp)
    have hk : (record p).data.toList.length = 9 + p.size := by rw [toL_length, record_size]
    have hR := frs_list p ps
    have hq0 : ∀ q, q ≤ (p :: ps).length → (frs ((p :: ps).take q)).size ≤ s → s < 9 + p.size → q ≤ 0 := by
      intro q _ hq hlt
      cases q with
      | zero => exact Nat.le_refl _
      | succ q =>
        rw [List.take_succ_cons, frs_size] at hq
        omega
    have e8 : ∀ m, m ≤ 9 + p.size → (frs (p :: ps)).data.toList.take m = (record p).data.toList.take m := fun m hm => by
      rw [hR, List.take_append_of_le_length (by omega)]
    by_cases h1 : X.length < 9 + p.size
    · refine ⟨0, Nat.zero_le _, ⟨X.toArray⟩, by simp [frs], ?_, fun q hq hz => hq0 q hq hz (by omega)⟩
      have hsz : (⟨X.toArray⟩ : ByteArray).size = X.length := by show X.toArray.size = _; simp
      refine take_fewer hpp (by rw [hsz]; exact h1) ?_
      rw [hsz]
      show X.take 8 = _ ∨ _
      by_cases h9 : X.length < 9
      · exact .inr h9
      · left
        by_cases e : s < X.length
        · rw [take_list_eq (hrest e) (show 8 ≤ X.length - 1 by omega), e8 8 (by omega)]
        · rw [take_list_eq hsure (show 8 ≤ s by omega), e8 8 (by omega)]
    · by_cases h2 : X.length = 9 + p.size
      · by_cases h3 : X = (record p).data.toList
        · refine ⟨1, by simp, ⟨#[]⟩, by rw [h3, List.take_succ_cons, List.take_zero, frs_list]; simp [frs], take_small (by decide), fun q hq hz => ?_⟩
          cases q with
          | zero => omega
          | succ q =>
            cases q with
            | zero => exact Nat.le_refl _
            | succ q =>
              cases ps with
              | nil => simp at hq
              | cons p2 ps =>
                rw [List.take_succ_cons, frs_size, List.take_succ_cons, frs_size] at hz
                omega
        · have hlt : s < X.length := by
            apply Classical.byContradiction
            intro hn
            apply h3
            have e1 : s = X.length := by omega
            rw [e1, List.take_length, h2, e8 _ (Nat.le_refl _), ← hk, List.take_length] at hsure
            exact hsure
          refine ⟨0, Nat.zero_le _, ⟨X.toArray⟩, by simp [frs], ?_, fun q hq hz => hq0 q hq hz (by omega)⟩
          have hr := hrest hlt
          rw [e8 _ (by omega)] at hr
          obtain ⟨b, hb⟩ : ∃ b, X[X.length - 1]? = some b := ⟨_, List.getElem?_eq_getElem (by omega)⟩
          have hX : X = (record p).data.toList.set (X.length - 1) b := by
            apply List.ext_getElem?
            intro i
            rw [List.getElem?_set]
            by_cases ei : X.length - 1 = i
            · rw [if_pos ei, if_pos (by rw [hk]; omega), ← ei]
              exact hb
            · rw [if_neg ei]
              by_cases eo : i < X.length - 1
              · have := congrArg (fun l => l[i]?) hr
                simp only [List.getElem?_take, if_pos eo] at this
                exact this
              · rw [List.getElem?_eq_none (by omega), List.getElem?_eq_none (by rw [hk]; omega)]
          have ht := take_turned p (X.length - 1) b ⟨X.toArray⟩ hpp (by rw [record_size]; omega) (.inr (by omega)) hX (by
            intro e
            apply h3
            have : (record p).data.toList.set (X.length - 1) b = (record p).data.toList := by rw [e]; exact List.set_getElem_self _
            rw [this] at hX
            exact hX)
          rw [ht]
          decide
      · have h4 : 9 + p.size < X.length := by omega
        have hXk : X.take (9 + p.size) = (record p).data.toList := by
          have : X.take (9 + p.size) = (frs (p :: ps)).data.toList.take (9 + p.size) := by
            by_cases e : s < X.length
            · exact take_list_eq (hrest e) (by omega)
            · exact take_list_eq hsure (by omega)
          rw [this, e8 _ (Nat.le_refl _), ← hk, List.take_length]
        have hdrop : ∀ m, 9 + p.size ≤ m → X.take m = (frs (p :: ps)).data.toList.take m → (X.drop (9 + p.size)).take (m - (9 + p.size)) = (frs ps).data.toList.take (m - (9 + p.size)) := by
          intro m hm he
          have := congrArg (List.drop (9 + p.size)) he
          rw [List.drop_take, List.drop_take, hR, ← hk, List.drop_left, hk] at this
          exact this
        have hl2 : (X.drop (9 + p.size)).length = X.length - (9 + p.size) := List.length_drop
        rw [frs_size] at hl
        obtain ⟨j, hj, rest, hr1, hr2, hr3⟩ := cut_frs ps (X.drop (9 + p.size)) (s - (9 + p.size)) (fun q hq => hp q (by simp [hq])) (by omega) (by omega) (by
          by_cases e : 9 + p.size ≤ s
          · exact hdrop s e hsure
          · rw [show s - (9 + p.size) = 0 by omega, List.take_zero, List.take_zero]) (fun hlt => by
          rw [hl2] at hlt ⊢
          have := hdrop (X.length - 1) (by omega) (hrest (by omega))
          rw [show X.length - (9 + p.size) - 1 = X.length - 1 - (9 + p.size) by omega]
          exact this)
        refine ⟨j + 1, by simp; omega, rest, ?_, hr2, fun q hq hz => ?_⟩
        · rw [List.take_succ_cons, frs_list, List.append_assoc, ← hr1, ← hXk, List.take_append_drop]
        · cases q with
          | zero => omega
          | succ q =>
            rw [List.take_succ_cons, frs_size] at hz
            have := hr3 q (by simp at hq; omega) (by omega)
            omega
end F

/-- A record's payload. -/
def payB (r : W.Rec) : ByteArray := ⟨(W.payload r).toArray⟩
theorem recs_frs : ∀ l : List W.Rec, W.recs l = F.frs (l.map payB)
  | [] => rfl
  | r :: l => by rw [W.recs, List.map_cons, F.frs, recs_frs l]; rfl
theorem segB_frs (t : Nat) (l : List W.Rec) : segB t l = F.frs (⟨(M.putVar t).toArray⟩ :: l.map payB) := by
  unfold segB W.head
  rw [recs_frs]
  rfl
theorem payB_size {r : W.Rec} (h : W.may r = true) : (payB r).size ≤ 262144 := by
  have := payload_size h
  show (W.payload r).toArray.size ≤ _
  rw [List.size_toArray]
  omega

/-- What is left of a file: at least so many bytes as they were, the last one behind them maybe another one. -/
structure Lf (l : List UInt8) (s : Nat) (l' : List UInt8) : Prop where
  least : s ≤ l'.length
  most : l'.length ≤ l.length
  sure : l'.take s = l.take s
  rest : s < l'.length → l'.take (l'.length - 1) = l.take (l'.length - 1)

theorem Lf.whole {l l' : List UInt8} (h : Lf l l.length l') : l' = l := by
  have h1 := h.sure
  have h2 : l'.length = l.length := by have := h.least; have := h.most; omega
  rw [List.take_length, ← h2, List.take_length] at h1
  exact h1

theorem lf_torn {l : List UInt8} {s k : Nat} (t : UInt8) (h : s + k ≤ l.length) : Lf l s (torn l s k t) := by
  have hl := torn_length t h
  have htk : ∀ m, (m ≤ s ∨ m + 1 ≤ s + k) → (torn l s k t).take m = l.take m := by
    intro m hm
    unfold torn
    split
    · rename_i e
      rw [List.take_take, Nat.min_eq_left (by omega)]
    · have hm2 : m ≤ s + k - 1 := by omega
      rw [List.take_set_of_le hm2, List.take_take, Nat.min_eq_left (by omega)]
  refine ⟨by omega, by omega, htk _ (.inl (Nat.le_refl _)), fun h2 => ?_⟩
  rw [hl]
  exact htk _ (.inr (by omega))

theorem crStep_far (t : UInt8) {i j : Nat} (c : Cr) (h : i ≠ j) : (crStep t j c).A i = c.A i ∧ (crStep t j c).S i = c.S i := by
  unfold crStep
  split
  · exact ⟨rfl, rfl⟩
  · exact ⟨upd_other _ _ h, upd_other _ _ h⟩
theorem crTo_far (t : UInt8) (c : Cr) (i : Nat) : ∀ n, n ≤ i → (crTo t c n).A i = c.A i ∧ (crTo t c n).S i = c.S i
  | 0, _ => ⟨rfl, rfl⟩
  | n + 1, h => by
    obtain ⟨h1, h2⟩ := crTo_far t c i n (by omega)
    obtain ⟨h3, h4⟩ := crStep_far t (i := i) (j := n) (crTo t c n) (by omega)
    exact ⟨h3.trans h1, h4.trans h2⟩
theorem crTo_lf (t : UInt8) (c : Cr) (i : Nat) (h : c.S i ≤ (c.A i).length) : ∀ n, i < n → Lf (c.A i) (c.S i) ((crTo t c n).A i)
  | 0, hn => by omega
  | n + 1, hn => by
    by_cases e : i = n
    · subst e
      obtain ⟨h1, h2⟩ := crTo_far t c i i (Nat.le_refl _)
      rw [crTo]
      unfold crStep
      split
      · rename_i q
        rw [h1]
        exact ⟨h, Nat.le_refl _, rfl, fun _ => rfl⟩
      · have hk := keeps_le ((crTo t c i).K.headD 0) (((crTo t c i).A i).length - (crTo t c i).S i)
        show Lf _ _ (upd _ i _ i)
        rw [upd_same]
        generalize keeps ((crTo t c i).K.headD 0) (((crTo t c i).A i).length - (crTo t c i).S i) = k at hk ⊢
        rw [h1, h2] at hk ⊢
        exact lf_torn t (by omega)
    · obtain ⟨h3, _⟩ := crStep_far t (i := i) (j := n) (crTo t c n) e
      rw [crTo, h3]
      exact crTo_lf t c i h n (by omega)

/-- What a crash leaves of a segment's file. -/
theorem torn_seg {t : Nat} {l : List W.Rec} (ht : t ≤ 1) (hm : ∀ r ∈ l, W.may r = true) {X : List UInt8} {s : Nat} (h : Lf (segB t l).data.toList s X) :
    (¬ (F.take ⟨X.toArray⟩).2.2 = 0 ∧ ∀ q, q ≤ l.length → ¬ (segB t (l.take q)).size ≤ s) ∨
    ∃ j, j ≤ l.length ∧ ∃ rest : ByteArray, ¬ (F.take rest).2.2 = 0 ∧ (⟨X.toArray⟩ : ByteArray) = segB t (l.take j) ++ rest ∧ ∀ q, q ≤ l.length → (segB t (l.take q)).size ≤ s → q ≤ j := by
  have hps : ∀ p ∈ ((⟨(M.putVar t).toArray⟩ : ByteArray) :: l.map payB), p.size ≤ 262144 := by
    intro p hp
    rcases List.mem_cons.1 hp with e | e
    · have := M.putVar_length9 (n := t) (by omega)
      rw [e]
      show (M.putVar t).toArray.size ≤ _
      rw [List.size_toArray]
      omega
    · obtain ⟨r, hr, rfl⟩ := List.mem_map.1 e
      exact payB_size (hm r hr)
  have hf := h
  rw [segB_frs] at hf
  have hmost := hf.most
  rw [F.toL_length] at hmost
  obtain ⟨j, hj, rest, h1, h2, h3⟩ := F.cut_frs _ X s hps hmost hf.least hf.sure hf.rest
  rw [List.length_cons, List.length_map] at hj
  have hq : ∀ q, q ≤ l.length → (segB t (l.take q)).size ≤ s → q + 1 ≤ j := by
    intro q hq hz
    refine h3 (q + 1) (by rw [List.length_cons, List.length_map]; omega) ?_
    rw [List.take_succ_cons, ← List.map_take, ← segB_frs]
    exact hz
  cases j with
  | zero =>
    left
    refine ⟨?_, fun q hq' hz => by have := hq q hq' hz; omega⟩
    rw [List.take_zero] at h1
    have e : (⟨X.toArray⟩ : ByteArray) = rest := F.ext (by show X.toArray.toList = _; rw [h1]; simp [F.frs])
    rw [e]
    exact h2
  | succ j =>
    right
    refine ⟨j, by omega, rest, h2, F.ext ?_, fun q hq' hz => by have := hq q hq' hz; omega⟩
    rw [F.toL_append, segB_frs, List.map_take]
    show X.toArray.toList = _
    rw [h1, List.take_succ_cons]

/-- The first q records are in bytes that are sure. -/
def SureQ (s : St) (segs : List (List W.Rec)) (q : Nat) : Prop :=
  q ≤ segs.flatten.length ∧ ∀ cs l, segs = cs ++ [l] → cs.flatten.length < q → (segB s.turn (l.take (q - cs.flatten.length))).size ≤ s.S cs.length

theorem flat_may {gs : Nat → W.Sv} {segs : List (List W.Rec)} (h : W.Chks gs segs.flatten) : ∀ l ∈ segs, ∀ r ∈ l, W.may r = true := fun l hl r hr => W.chks_may _ _ h r (List.mem_flatten.2 ⟨l, hl, hr⟩)

/-- Behind a crash the disk opens, with the first records, all sure ones among them. -/
theorem crash_disky {lim : Nat} {s : St} {segs : List (List W.Rec)} (h : Inv lim s segs) (hn : segs.length < 199) {A' : Nat → List UInt8} (hA : ∀ i, i < 256 → Lf (s.A i) (s.S i) (A' i)) :
    ∃ t segs' last' N, Disky A' (fun _ => W.new) t segs' last' ∧ (found segs' last').flatten = segs.flatten.take N ∧ N ≤ segs.flatten.length ∧ (∀ q, SureQ s segs q → q ≤ N) ∧ (found segs' last').length ≤ segs.length ∧ ∀ i, i < 256 → (imgA t (found segs' last') i).length ≤ (s.A i).length := by
  have hempty : ∀ i, i < 256 → segs.length ≤ i → A' i = [] := by
    intro i hi hle
    have := (hA i hi).most
    rw [h.files i hi, imgA_far _ _ hle] at this
    exact List.eq_nil_of_length_eq_zero (by simpa using this)
  by_cases hs : segs = []
  · subst hs
    refine ⟨0, [], [], 0, ⟨by omega, by show 0 < 200; omega, fun i l hl => by simp at hl, trivial, .inl ⟨?_, rfl⟩⟩, rfl, Nat.le_refl _, fun q hq => hq.1, Nat.le_refl _, fun i _ => by
      have e : found ([] : List (List W.Rec)) [] = [] := rfl
      rw [e, imgA_nil]
      exact Nat.zero_le _⟩
    show (F.take ⟨(A' 0).toArray⟩).2.2 ≠ 0
    rw [hempty 0 (by omega) (Nat.le_refl _)]
    exact take_empty
  · obtain ⟨cs, l, rfl⟩ : ∃ cs l, segs = cs ++ [l] := ⟨segs.dropLast, segs.getLast hs, (List.dropLast_concat_getLast hs).symm⟩
    have hlen : (cs ++ [l]).length = cs.length + 1 := by simp
    rw [hlen] at hn
    have hflat : (cs ++ [l]).flatten = cs.flatten ++ l := by simp
    have hfile : ∀ i, i < 256 → s.A i = imgA s.turn (cs ++ [l]) i := h.files
    have hclosed : ∀ i, i < cs.length → A' i = s.A i := by
      intro i hi
      have h1 := hA i (by omega)
      rw [h.sure i (by rw [hlen]; omega) (by omega)] at h1
      exact h1.whole
    have hl : s.A cs.length = (segB s.turn l).data.toList := by
      rw [hfile _ (by omega)]
      unfold imgA
      rw [List.getElem?_append_right (Nat.le_refl _), Nat.sub_self]
      rfl
    have hcs : ∀ i x, cs[i]? = some x → A' i = (segB s.turn x).data.toList ∧ x ≠ [] := by
      intro i x hx
      have hi := (List.getElem?_eq_some_iff.1 hx).1
      refine ⟨?_, h.full x (by simp; exact .inl (List.mem_of_getElem? hx))⟩
      rw [hclosed i hi, hfile i (by omega)]
      unfold imgA
      rw [List.getElem?_append_left hi, hx]
    have hmay := flat_may h.chks
    have hLf := hA cs.length (by omega)
    rw [hl] at hLf
    have hch : ∀ j, W.Chks (fun _ => W.new) (cs.flatten ++ l.take j) := by
      intro j
      have := h.chks
      rw [hflat, ← List.take_append_drop j l, ← List.append_assoc] at this
      exact ((W.chks_append _ _ _).1 this).1
    have hq : ∀ q, SureQ s (cs ++ [l]) q → cs.flatten.length < q → q - cs.flatten.length ≤ l.length ∧ (segB s.turn (l.take (q - cs.flatten.length))).size ≤ s.S cs.length := by
      intro q hq hlt
      refine ⟨?_, hq.2 cs l rfl hlt⟩
      have := hq.1
      rw [hflat, List.length_append] at this
      omega
    have htk : ∀ j, j ≤ l.length → cs.flatten ++ l.take j = (cs ++ [l]).flatten.take (cs.flatten.length + j) := by
      intro j _
      rw [hflat, List.take_length_add_append]
    have himg : ∀ i x, i < 256 → cs[i]? = some x → (segB s.turn x).data.toList.length ≤ (s.A i).length := by
      intro i x hi hx
      have h1 := (hcs i x hx).1
      have h2 := (hA i hi).most
      rw [h1] at h2
      exact h2
    have himg0 : ∀ i, i < 256 → (imgA s.turn cs i).length ≤ (s.A i).length := by
      intro i hi
      unfold imgA
      split
      · rename_i x hx
        exact himg i x hi hx
      · exact Nat.zero_le _
    have himgJ : ∀ j, (segB s.turn (l.take j)).data.toList.length ≤ (A' cs.length).length → ∀ i, i < 256 → (imgA s.turn (cs ++ [l.take j]) i).length ≤ (s.A i).length := by
      intro j hjl i hi
      by_cases e : i < cs.length
      · have := himg0 i hi
        unfold imgA at this ⊢
        rw [List.getElem?_append_left e]
        exact this
      · by_cases e2 : i = cs.length
        · subst e2
          unfold imgA
          rw [List.getElem?_append_right (Nat.le_refl _), Nat.sub_self]
          have := (hA cs.length hi).most
          exact Nat.le_trans hjl this
        · rw [imgA_far _ _ (by simp; omega)]
          exact Nat.zero_le _
    rcases torn_seg h.tt (hmay l (by simp)) hLf with ⟨h1, h2⟩ | ⟨j, hj, rest, h1, h2, h3⟩
    · refine ⟨s.turn, cs, [], cs.flatten.length, ⟨h.tt, by omega, hcs, by have := hch 0; rw [List.take_zero] at this; exact this, .inl ⟨h1, rfl⟩⟩, ?_, by rw [hflat, List.length_append]; omega, fun q hq' => ?_, by rw [show found cs [] = cs from if_pos rfl, hlen]; omega, by rw [show found cs [] = cs from if_pos rfl]; exact himg0⟩
      · rw [found_flat, List.append_nil, hflat, List.take_left]
      · apply Classical.byContradiction
        intro hgt
        obtain ⟨e1, e2⟩ := hq q hq' (by omega)
        exact h2 _ e1 e2
    · have hN : ∀ q, SureQ s (cs ++ [l]) q → q ≤ cs.flatten.length + j := by
        intro q hq'
        by_cases e : cs.flatten.length < q
        · obtain ⟨e1, e2⟩ := hq q hq' e
          have := h3 _ e1 e2
          omega
        · omega
      have hjl : (segB s.turn (l.take j)).data.toList.length ≤ (A' cs.length).length := by
        have := congrArg ByteArray.size h2
        rw [size_app] at this
        have e : (⟨(A' cs.length).toArray⟩ : ByteArray).size = (A' cs.length).length := by show (A' cs.length).toArray.size = _; simp
        rw [F.toL_length]
        omega
      by_cases hr : 0 < rest.size ∨ l.take j = []
      · refine ⟨s.turn, cs, l.take j, cs.flatten.length + j, ⟨h.tt, by omega, hcs, hch j, .inr ⟨rest, hr, h1, h2⟩⟩, ?_, by rw [hflat, List.length_append]; omega, hN, ?_, ?_⟩
        · rw [found_flat, htk j hj]
        · unfold found
          rw [hlen]
          split
          · omega
          · rw [List.length_append]; simp
        · unfold found
          split
          · exact himg0
          · exact himgJ j hjl
      · have hr0 : rest = ⟨#[]⟩ := by
          apply F.ext
          have e0 : rest.data.toList.length = 0 := by rw [F.toL_length]; omega
          exact List.eq_nil_of_length_eq_zero e0
        rw [hr0] at h2
        have hX : A' cs.length = (segB s.turn (l.take j)).data.toList := by
          have := congrArg (fun b : ByteArray => b.data.toList) h2
          simpa using this
        refine ⟨s.turn, cs ++ [l.take j], [], cs.flatten.length + j, ⟨h.tt, by rw [List.length_append]; simp; omega, fun i x hx => ?_, by rw [List.append_nil]; simpa using hch j, .inl ⟨?_, rfl⟩⟩, ?_, by rw [hflat, List.length_append]; omega, hN, by rw [show found (cs ++ [l.take j]) [] = cs ++ [l.take j] from if_pos rfl, hlen]; simp, by rw [show found (cs ++ [l.take j]) [] = cs ++ [l.take j] from if_pos rfl]; exact himgJ j hjl⟩
        · by_cases e : i < cs.length
          · rw [List.getElem?_append_left e] at hx
            exact hcs i x hx
          · have hi := (List.getElem?_eq_some_iff.1 hx).1
            rw [List.length_append] at hi
            simp at hi
            have ei : i = cs.length := by omega
            subst ei
            rw [List.getElem?_append_right (Nat.le_refl _), Nat.sub_self] at hx
            have ex : l.take j = x := by simpa using hx
            rw [← ex]
            exact ⟨hX, fun e => hr (.inr e)⟩
        · rw [List.length_append, List.length_singleton, hempty (cs.length + 1) (by omega) (by rw [hlen]; omega)]
          exact take_empty
        · rw [found_flat, List.append_nil, ← htk j hj]
          simp

end Go.Proofs.Ytpfnkjfbhcffiaa

namespace Go.Proofs.Ytpfnkjfbhcffiaa
open Go.RowKit

theorem chks_at : ∀ (l : List W.Rec) (gs : Nat → W.Sv) (i : Nat) (r : W.Rec), W.Chks gs l → l[i]? = some r → W.chk (W.folds gs (l.take i)) r = 0
  | [], _, _, _, _, h => by simp at h
  | x :: l, gs, 0, r, h, h2 => by
    have e : x = r := by simpa using h2
    rw [← e]
    exact h.1
  | x :: l, gs, i + 1, r, h, h2 => by
    rw [List.take_succ_cons]
    exact chks_at l (W.doR gs x) i r h.2 (by simpa using h2)
theorem chks_take {l : List W.Rec} {gs : Nat → W.Sv} (h : W.Chks gs l) (i : Nat) : W.Chks gs (l.take i) := by
  rw [← List.take_append_drop i l] at h
  exact ((W.chks_append _ _ _).1 h).1
theorem chks_ok : ∀ (l : List W.Rec) (gs : Nat → W.Sv), (∀ i, W.Ok (gs i)) → W.Chks gs l → ∀ i, W.Ok (W.folds gs l i)
  | [], _, h, _ => h
  | r :: l, gs, h, hc => chks_ok l (W.doR gs r) (W.ok_do h hc.1) hc.2

/-- While All goes on: i records are folded. -/
structure AlS (w X : World) (v : Value) (g : Nat) (S : Nat → W.Sv) (E : Nat → Value) (l : List W.Rec) (i : Nat) : Prop where
  all : AllV X v g S E
  eq : ∀ j, j < 9 → S j = W.folds (fun _ => W.new) (l.take i) j
  old : Below w.heap.size w X
  gl : w.heap.size ≤ g

theorem AlS.below {w X Y : World} {v : Value} {g : Nat} {S : Nat → W.Sv} {E : Nat → Value} {l : List W.Rec} {i : Nat} (h : AlS w X v g S E l i) (hb : Below X.heap.size X Y) : AlS w Y v g S E l i :=
  ⟨h.all.below hb, h.eq, h.old.trans (hb.mono h.old.size), h.gl⟩

theorem AlS.fold {w X : World} {v : Value} {g : Nat} {S : Nat → W.Sv} {E : Nat → Value} {l : List W.Rec} {i : Nat} (h : AlS w X v g S E l i) {r : W.Rec} (hr : l[i]? = some r) (hm : W.may r = true) {gi : Nat} (hgi : r.group = (gi : Int)) (hg9 : gi < 9) (ok : W.Ok (S gi)) (hf : W.fits (S gi) r = true) :
    Calls Try.prog 14 #[savV (S gi) (E gi), recV r] X fun e w' => ∃ a0 a1 a2 a3 a4 p' n' c', e = .returned (.tuple #[.agg #[.int .i64 a0, .int .i64 a1, .int .i64 a2, .int .i64 a3, .string a4, .slice p' n' c'], .bool true]) ∧ Below X.heap.size X w' ∧ AlS w (set6 w' g (gi * 6) (.int .i64 a0) (.int .i64 a1) (.int .i64 a2) (.int .i64 a3) (.string a4) (.slice p' n' c')) v g (W.doR S r) (upd E gi (.slice p' n' c')) l (i + 1) := by
  have hgn : r.group.toNat = gi := by omega
  refine (refFold_c (h.all.ent gi hg9) ok r hm).mono ?_
  rintro e w' ⟨v', he, hE, hb, hq⟩
  rw [hf, if_pos rfl] at he hE
  obtain ⟨T, hT⟩ : ∃ T, T = W.fold (S gi) r := ⟨_, rfl⟩
  rw [← hT] at he hE
  obtain ⟨p', c', hv', _⟩ := id hE
  subst hv'
  refine ⟨T.term, T.vote, T.base, T.bterm, T.data, p', T.ents.length, c', he, hb, ?_⟩
  have h' := h.below hb
  have hall := h'.all.put hg9 (s := T) hE (fun e => by
    rcases hq g e with e | e
    · exact h.all.sep gi hg9 e
    · have := h.all.lt
      omega)
  have hdo : upd S gi T = W.doR S r := by unfold W.doR; rw [hgn, hT]
  rw [hdo] at hall
  refine ⟨hall, fun j hj => ?_, below_set6b h'.old h.gl _ _ _ _ _ _, h.gl⟩
  have e1 : l.take (i + 1) = l.take i ++ [r] := by rw [List.take_add_one, hr]; rfl
  rw [e1, folds_snoc]
  exact doR_congr h.eq r (by omega) j hj

/-- What All answers. -/
def AllOut (w : World) (l : List W.Rec) (e : Ending) (w' : World) : Prop := ∃ v g S E, e = .returned v ∧ AllV w' v g S E ∧ (∀ i, i < 9 → S i = W.folds (fun _ => W.new) l i) ∧ Below w.heap.size w w'

set_option maxHeartbeats 3200000 in
set_option maxRecDepth 20000 in
theorem All_c {w : World} {pl : Option Addr} {cl : Nat} {l : List W.Rec} (hel : Elems w 6 (fun r : W.Rec => (recO r).toList) (fun _ => True) (.slice pl l.length cl) l) (hch : W.Chks (fun _ => W.new) l) : Calls Try.prog 10 #[.slice pl l.length cl] w (AllOut w l) := by
  have HOut : Hid (∀ v g S E w', AllV w' v g S E → (∀ i, i < 9 → S i = W.folds (fun _ => W.new) l i) → Below w.heap.size w w' → AllOut w l (.returned v) w') := fun v g S E w' h1 h2 h3 => ⟨v, g, S, E, rfl, h1, h2, h3⟩
  generalize AllOut w l = QQ at HOut ⊢
  have HEl : Hid _ := hel
  have HCh : Hid (W.Chks (fun _ => W.new) l) := hch
  obtain ⟨nl, hnl⟩ : ∃ nl, nl = l.length := ⟨_, rfl⟩
  have HNl : Hid (nl = l.length) := hnl
  have hnb : nl ≤ maxLen := by obtain ⟨ao, c, hv, h1, h2, _⟩ := hel; omega
  rw [← hnl] at HEl ⊢
  have HNb : Hid (nl ≤ maxLen) := hnb
  clear hel hch hnl hnb
  have HN : Hid (∀ u, Calls Try.prog 26 #[] u fun e w' => e = .returned (.agg #[.int .i64 0, .int .i64 (-1), .int .i64 0, .int .i64 0, .string ⟨#[]⟩, .slice none 0 0]) ∧ Below u.heap.size u w') := refNew_c
  go_enter Try.func10, Try.ntmps10
  go_wp2
  go_loopw [3, 4] (fun ov x wr => ∃ (k : Nat) (q : Option Addr) (c : Nat), x = .int .i64 (k : Int) ∧ k ≤ 9 ∧ ov = .slice q k c ∧ Hid (RowV wr 45 6 (.slice q k c) k (nwCells k)) ∧ Hid (Below w.heap.size w wr) ∧ Hid (∀ z, rowBlk (.slice q k c) = some z → w.heap.size ≤ z)) (fun _ x _ => 9 - (intOf x).toNat)
  case atStart => exact ⟨0, none, 0, rfl, by omega, rfl, RowV.nil _ _ _ _, Below.refl _ _, fun z hz => by simp [rowBlk] at hz⟩
  case round =>
    obtain ⟨k, q, c, rfl, hk, rfl, HR, HB, HK⟩ := hrel
    by_cases hlt : k < 9
    · have hk1 : (k : Int) < 9 := by omega
      go_wp2_with fail
      refine Calls.mono (HN.out _) ?_
      rintro e w1 ⟨rfl, hb1⟩
      have hba : Below wr.heap.size wr (w1.alloc (.cells #[.int .i64 0, .int .i64 (-1), .int .i64 0, .int .i64 0, .string ⟨#[]⟩, .slice none 0 0] 45)) := hb1.trans ((below_alloc _ _).mono hb1.size)
      have HBa : Hid (Below w.heap.size w (w1.alloc (.cells #[.int .i64 0, .int .i64 (-1), .int .i64 0, .int .i64 0, .string ⟨#[]⟩, .slice none 0 0] 45))) := HB.out.trans (hba.mono HB.out.size)
      have HRa : Hid (RowV (w1.alloc (.cells #[.int .i64 0, .int .i64 (-1), .int .i64 0, .int .i64 0, .string ⟨#[]⟩, .slice none 0 0] 45)) 45 6 (.slice q k c) k (nwCells k)) := HR.out.carry (fun z hz => hba.block z (HR.out.lt hz))
      have HSrc : Hid (Src Try.prog 6 34 (.slice (some ⟨w1.heap.size, 0, none⟩) 1 1) 1 [.int .i64 0, .int .i64 (-1), .int .i64 0, .int .i64 0, .string ⟨#[]⟩, .slice none 0 0] (w1.alloc (.cells #[.int .i64 0, .int .i64 (-1), .int .i64 0, .int .i64 0, .string ⟨#[]⟩, .slice none 0 0] 45))) := src_new w1 6 34 45 45 Try.underlying34 [.int .i64 0, .int .i64 (-1), .int .i64 0, .int .i64 0, .string ⟨#[]⟩, .slice none 0 0] rfl (by simp [Value.oneCell'])
      have hmx : Hid (k + 1 ≤ maxLen) := by unfold maxLen; show _ ≤ _; omega
      clear hb1 hba HR HB
      go_wp2_with (at_builtin; refine wpList_append_row rfl (.tmp 10) (.tmp 12) 34 34 45 rfl Try.underlying34 _ 6 72 infoSav rfl (.slice q k c) k (nwCells k) rfl HRa.out _ 1 _ rfl HSrc.out (by omega) hmx.out ?qnext)
      case qnext =>
        intro v' w4 ho hg hl
        have HR4 : Hid (RowV w4 45 6 v' (k + 1) (nwCells (k + 1))) := ho
        have HB4 : Hid (Below w.heap.size w w4) := HBa.out.grown hg HBa.out.size HK.out
        have HK4 : Hid (∀ z, rowBlk v' = some z → w.heap.size ≤ z) := by
          intro z hz
          rcases hl z hz with e | e
          · exact HK.out z e
          · have := HBa.out.size
            have e' : (w1.alloc (.cells #[.int .i64 0, .int .i64 (-1), .int .i64 0, .int .i64 0, .string ⟨#[]⟩, .slice none 0 0] 45)).heap.size ≤ z := by simpa using e
            omega
        obtain ⟨q', c4, hv', _⟩ := ho.form
        subst hv'
        clear ho hg hl HBa HRa HSrc hmx HK
        go_wp2
        go_roundw
        case rel => exact ⟨k + 1, q', c4, by go_num, by omega, rfl, HR4, HB4, HK4⟩
        case measure => simp [intOf]; omega
    · obtain rfl : k = 9 := by omega
      have HX : Hid (∃ g, AllV wr (.slice q 9 c) g (fun _ => W.new) (fun _ => .slice none 0 0) ∧ w.heap.size ≤ g) := by
        have hr := HR.out
        obtain ⟨g, c', hv, hrb, h1, h2, hc⟩ := hr.cells (by omega)
        injection hv with e1 e2 e3
        subst e1 e3
        have hz : ∀ i j, i < 9 → j < 6 → wr.cell? ⟨g, i * 6 + j, none⟩ = ([.int .i64 0, .int .i64 (-1), .int .i64 0, .int .i64 0, .string ⟨#[]⟩, .slice none 0 0] : List Value)[j]? := fun i j hi hj => by rw [hc _ (by omega)]; exact nwCells_at 9 i j hi hj
        refine ⟨g, ⟨⟨c, rfl, h1, h2⟩, hr.lt hrb, fun i hi => ⟨hz i 0 hi (by omega), hz i 1 hi (by omega), hz i 2 hi (by omega), hz i 3 hi (by omega), hz i 4 hi (by omega), hz i 5 hi (by omega)⟩, fun i hi => ⟨none, 0, rfl, Nat.le_refl _, by unfold maxLen; omega, .inl rfl⟩, fun i hi => by simp [readBlk], fun j => ?_⟩, HK.out g hrb⟩
        obtain ⟨_, ⟨e, _⟩ | ⟨g', cap, cur, e1, e2, _⟩⟩ := hr
        · omega
        · injection e1 with e1
          injection e1 with e1
          injection e1 with e1
          subst e1
          simp [World.frozen?, e2]
      obtain ⟨g, hg0, hgw⟩ := HX.out
      obtain ⟨c9, hv9, _, _⟩ := hg0.form
      injection hv9 with e1 e2 e3
      subst e1 e3
      have HA0 : Hid (AlS w wr (.slice (some ⟨g, 0, none⟩) 9 c) g (fun _ => W.new) (fun _ => .slice none 0 0) l 0) := ⟨hg0, fun i _ => rfl, HB.out, hgw⟩
      have hc9 : 9 ≤ c := by obtain ⟨c', h, h2, _⟩ := hg0.form; cases h; exact h2
      clear HR HK HX hg0 hgw e2 HB
      go_wp2
      go_loopw [5] (fun x wr' => ∃ (i : Nat) (S : Nat → W.Sv) (E : Nat → Value), x = .int .i64 (i : Int) ∧ i ≤ nl ∧ Hid (AlS w wr' (.slice (some ⟨g, 0, none⟩) 9 c) g S E l i)) (fun x _ => nl - (intOf x).toNat)
      case atStart => exact ⟨0, _, _, rfl, Nat.zero_le _, HA0⟩
      case round =>
        clear HA0
        obtain ⟨i, S, E, rfl, hi, HA⟩ := hrel
        by_cases hlt2 : i < nl
        · obtain ⟨r, hr⟩ : ∃ r, l[i]? = some r := ⟨_, List.getElem?_eq_getElem (by have := HNl.out; omega)⟩
          obtain ⟨gl, ol, rfl, hgl, hcell⟩ : ∃ gl ol, pl = some ⟨gl, ol, none⟩ ∧ gl < w.heap.size ∧ ∀ q u, (recO r).toList[q]? = some u → w.cell? ⟨gl, ol + i * 6 + q, none⟩ = some u := by
            obtain ⟨ao, c', hv, _, _, _, h5⟩ := HEl.out
            rcases h5 with e | ⟨gl, ol, h1, h2, h3⟩
            · rw [e] at hr; simp at hr
            · injection hv with q1 q2 q3
              exact ⟨gl, ol, by rw [q1, h1], h2, h3 i r hr⟩
          obtain ⟨hmay, hfit⟩ : W.may r = true ∧ W.fits (S r.group.toNat) r = true := by
            have hc := chks_at l (fun _ => W.new) i r HCh.out hr
            obtain ⟨q1, q2, q3⟩ := W.chk_ok hc
            have hm := chk_may hc
            have hg := may_group hm
            rw [HA.out.eq _ (by omega)]
            exact ⟨hm, q3⟩
          obtain ⟨gi, hgi, hgi9⟩ : ∃ gi : Nat, r.group = (gi : Int) ∧ gi < 9 := by
            have := may_group hmay
            exact ⟨r.group.toNat, by omega, by omega⟩
          have hokS : W.Ok (S gi) := by
            rw [HA.out.eq gi hgi9]
            have := chks_ok (l.take i) (fun _ => W.new) (fun _ => W.ok_new) (chks_take HCh.out i)
            exact this gi
          have hent := HA.out.all.ent gi hgi9
          have HEn : Hid _ := hent
          obtain ⟨pe, ce, hE, _⟩ := hent
          obtain ⟨ne, hne⟩ : ∃ ne, ne = (S gi).ents.length := ⟨_, rfl⟩
          rw [← hne] at hE
          have hgn : r.group.toNat = gi := by omega
          rw [hgn] at hfit
          have HFo : Hid (∀ Y, Below wr.heap.size wr Y → Calls Try.prog 14 #[savV (S gi) (E gi), recV r] Y fun e w' => ∃ a0 a1 a2 a3 a4 p' n' c', e = .returned (.tuple #[.agg #[.int .i64 a0, .int .i64 a1, .int .i64 a2, .int .i64 a3, .string a4, .slice p' n' c'], .bool true]) ∧ Below Y.heap.size Y w' ∧ AlS w (set6 w' g (gi * 6) (.int .i64 a0) (.int .i64 a1) (.int .i64 a2) (.int .i64 a3) (.string a4) (.slice p' n' c')) (.slice (some ⟨g, 0, none⟩) 9 c) g (W.doR S r) (upd E gi (.slice p' n' c')) l (i + 1)) := by
            intro Y hY
            exact (HA.out.below hY).fold hr hmay hgi hgi9 hokS hfit
          obtain ⟨rg, qk, qi, qt, qv, qd⟩ := r
          dsimp only at hgi
          subst hgi
          have HSR : Hid (∀ Y, Below wr.heap.size wr Y → Y.cell? ⟨gl, ol + i * 6, none⟩ = some (.int .i64 (gi : Int)) ∧ Y.cell? ⟨gl, ol + i * 6 + 1, none⟩ = some (.int .i64 qk) ∧ Y.cell? ⟨gl, ol + i * 6 + 2, none⟩ = some (.int .i64 qi) ∧ Y.cell? ⟨gl, ol + i * 6 + 3, none⟩ = some (.int .i64 qt) ∧ Y.cell? ⟨gl, ol + i * 6 + 4, none⟩ = some (.int .i64 qv) ∧ Y.cell? ⟨gl, ol + i * 6 + 5, none⟩ = some (.string qd)) := by
            intro Y hY
            have hb := HA.out.old.trans (hY.mono HA.out.old.size)
            have hc : ∀ j, Y.cell? ⟨gl, j, none⟩ = w.cell? ⟨gl, j, none⟩ := fun j => hb.cell (p := ⟨gl, j, none⟩) hgl
            rw [hc, hc, hc, hc, hc, hc]
            exact ⟨hcell 0 _ rfl, hcell 1 _ rfl, hcell 2 _ rfl, hcell 3 _ rfl, hcell 4 _ rfl, hcell 5 _ rfl⟩
          have HZ : Hid (∀ Y : World, Below wr.heap.size wr Y → (Y.cell? ⟨g, gi * 6, none⟩ = some (.int .i64 (S gi).term) ∧ Y.cell? ⟨g, gi * 6 + 1, none⟩ = some (.int .i64 (S gi).vote) ∧ Y.cell? ⟨g, gi * 6 + 2, none⟩ = some (.int .i64 (S gi).base) ∧ Y.cell? ⟨g, gi * 6 + 3, none⟩ = some (.int .i64 (S gi).bterm) ∧ Y.cell? ⟨g, gi * 6 + 4, none⟩ = some (.string (S gi).data) ∧ Y.cell? ⟨g, gi * 6 + 5, none⟩ = some (.slice pe ne ce)) ∧ ∀ j, Y.frozen? ⟨g, j, none⟩ = false) := by
            intro Y hY
            have ha := HA.out.all.below hY
            have hc := ha.cell gi hgi9
            rw [hE] at hc
            exact ⟨hc, ha.free⟩
          have HNg : Hid (gl ≠ g) := fun e => by have := HA.out.gl; omega
          unfold savV recV at HFo
          rw [hE] at HFo
          dsimp only at HFo
          have hz0 : Below wr.heap.size wr wr.drew := (Below.refl _ _).drew
          obtain ⟨⟨z0, z1, z2, z3, z4, z5⟩, _⟩ := HZ.out wr.drew hz0
          have hgi0 : (0 : Int) ≤ (gi : Int) := by omega
          have hgi1 : (gi : Int) < 9 := by omega
          have hi0 : (0 : Int) ≤ (i : Int) := by omega
          have hin : (i : Int) < (nl : Int) := by omega
          have hiw : (i : Int) + 1 ≤ 9223372036854775807 := by have := HNb.out; unfold maxLen at this; omega
          clear hcell hmay hfit hr hokS hE hne hgn HA HEn HCh hgl
          go_wp2
          refine wp_region_held_drew (S := fun Y => Y.cell? ⟨gl, ol + i * 6, none⟩ = some (.int .i64 (gi : Int)) ∧ Y.cell? ⟨gl, ol + i * 6 + 1, none⟩ = some (.int .i64 qk) ∧ Y.cell? ⟨gl, ol + i * 6 + 2, none⟩ = some (.int .i64 qi) ∧ Y.cell? ⟨gl, ol + i * 6 + 3, none⟩ = some (.int .i64 qt) ∧ Y.cell? ⟨gl, ol + i * 6 + 4, none⟩ = some (.int .i64 qv) ∧ Y.cell? ⟨gl, ol + i * 6 + 5, none⟩ = some (.string qd)) (by kernel_rfl) (HSR.out _ hz0) (fun hHeld => ?_)
          refine take7 (i := 0) (d := 21) (v := .slice (some ⟨g, 0, none⟩) 9 c) rfl rfl (by kernel_rfl) (by kernel_rfl) (by kernel_rfl) (fun _ _ _ h => h) (Or.inl ⟨by rfl, ?_⟩) (by assumption) ?_
          · intro X hSw
            go_simp
          simp only [Act.put, List.setIfInBounds_toArray, List.set_cons_zero, List.set_cons_succ]
          refine take7 (i := 1) (d := 22) (v := .slice (some ⟨gl, ol, none⟩) nl cl) rfl rfl (by kernel_rfl) (by kernel_rfl) (by kernel_rfl) (fun _ _ _ h => h) (Or.inl ⟨by rfl, ?_⟩) (by assumption) ?_
          · intro X hSw
            go_simp
          simp only [Act.put, List.setIfInBounds_toArray, List.set_cons_zero, List.set_cons_succ]
          refine take7 (i := 2) (d := 23) (v := .int .i64 (i : Int)) rfl rfl (by kernel_rfl) (by kernel_rfl) (by kernel_rfl) (fun _ _ _ h => h) (Or.inl ⟨by rfl, ?_⟩) (by assumption) ?_
          · intro X hSw
            go_simp
          simp only [Act.put, List.setIfInBounds_toArray, List.set_cons_zero, List.set_cons_succ]
          refine take7 (i := 3) (d := 24) (v := .pointer (some ⟨gl, ol + i * 6, none⟩)) rfl rfl (by kernel_rfl) (by kernel_rfl) (by kernel_rfl) (fun _ _ _ h => h) (Or.inl ⟨by rfl, ?_⟩) (by assumption) ?_
          · intro X hSw
            go_simp
          simp only [Act.put, List.setIfInBounds_toArray, List.set_cons_zero, List.set_cons_succ]
          refine take7 (i := 4) (d := 25) (v := .pointer (some ⟨gl, ol + i * 6, none⟩)) rfl rfl (by kernel_rfl) (by kernel_rfl) (by kernel_rfl) (fun _ _ _ h => h) (Or.inl ⟨by rfl, ?_⟩) (by assumption) ?_
          · intro X hSw
            go_simp
          simp only [Act.put, List.setIfInBounds_toArray, List.set_cons_zero, List.set_cons_succ]
          refine take7 (i := 5) (d := 26) (v := .int .i64 (gi : Int)) rfl rfl (by kernel_rfl) (by kernel_rfl) (by kernel_rfl) (fun _ _ _ h => h) (Or.inl ⟨by rfl, ?_⟩) (by assumption) ?_
          · intro X hSw
            go_simp
          simp only [Act.put, List.setIfInBounds_toArray, List.set_cons_zero, List.set_cons_succ]
          refine take7 (i := 6) (d := 27) (v := .slice (some ⟨g, 0, none⟩) 9 c) rfl rfl (by kernel_rfl) (by kernel_rfl) (by kernel_rfl) (fun _ _ _ h => h) (Or.inl ⟨by rfl, ?_⟩) (by assumption) ?_
          · intro X hSw
            go_simp
          simp only [Act.put, List.setIfInBounds_toArray, List.set_cons_zero, List.set_cons_succ]
          refine take7 (i := 7) (d := 28) (v := .slice (some ⟨gl, ol, none⟩) nl cl) rfl rfl (by kernel_rfl) (by kernel_rfl) (by kernel_rfl) (fun _ _ _ h => h) (Or.inl ⟨by rfl, ?_⟩) (by assumption) ?_
          · intro X hSw
            go_simp
          simp only [Act.put, List.setIfInBounds_toArray, List.set_cons_zero, List.set_cons_succ]
          refine take7 (i := 8) (d := 29) (v := .int .i64 (i : Int)) rfl rfl (by kernel_rfl) (by kernel_rfl) (by kernel_rfl) (fun _ _ _ h => h) (Or.inl ⟨by rfl, ?_⟩) (by assumption) ?_
          · intro X hSw
            go_simp
          simp only [Act.put, List.setIfInBounds_toArray, List.set_cons_zero, List.set_cons_succ]
          refine take7 (i := 9) (d := 30) (v := .pointer (some ⟨gl, ol + i * 6, none⟩)) rfl rfl (by kernel_rfl) (by kernel_rfl) (by kernel_rfl) (fun _ _ _ h => h) (Or.inl ⟨by rfl, ?_⟩) (by assumption) ?_
          · intro X hSw
            go_simp
          simp only [Act.put, List.setIfInBounds_toArray, List.set_cons_zero, List.set_cons_succ]
          refine take7 (i := 10) (d := 31) (v := .pointer (some ⟨gl, ol + i * 6, none⟩)) rfl rfl (by kernel_rfl) (by kernel_rfl) (by kernel_rfl) (fun _ _ _ h => h) (Or.inl ⟨by rfl, ?_⟩) (by assumption) ?_
          · intro X hSw
            go_simp
          simp only [Act.put, List.setIfInBounds_toArray, List.set_cons_zero, List.set_cons_succ]
          refine take7 (i := 11) (d := 32) (v := .int .i64 (gi : Int)) rfl rfl (by kernel_rfl) (by kernel_rfl) (by kernel_rfl) (fun _ _ _ h => h) (Or.inl ⟨by rfl, ?_⟩) (by assumption) ?_
          · intro X hSw
            go_simp
          simp only [Act.put, List.setIfInBounds_toArray, List.set_cons_zero, List.set_cons_succ]
          refine take7 (i := 12) (d := 33) (v := .pointer (some ⟨g, gi * 6, none⟩)) rfl rfl (by kernel_rfl) (by kernel_rfl) (by kernel_rfl) (fun _ _ _ h => h) (Or.inl ⟨by rfl, ?_⟩) (by assumption) ?_
          · intro X hSw
            go_simp
          simp only [Act.put, List.setIfInBounds_toArray, List.set_cons_zero, List.set_cons_succ]
          refine take7 (i := 14) (d := 35) (v := .slice (some ⟨gl, ol, none⟩) nl cl) rfl rfl (by kernel_rfl) (by kernel_rfl) (by kernel_rfl) (fun _ _ _ h => h) (Or.inl ⟨by rfl, ?_⟩) (by assumption) ?_
          · intro X hSw
            go_simp
          simp only [Act.put, List.setIfInBounds_toArray, List.set_cons_zero, List.set_cons_succ]
          refine take7 (i := 15) (d := 36) (v := .int .i64 (i : Int)) rfl rfl (by kernel_rfl) (by kernel_rfl) (by kernel_rfl) (fun _ _ _ h => h) (Or.inl ⟨by rfl, ?_⟩) (by assumption) ?_
          · intro X hSw
            go_simp
          simp only [Act.put, List.setIfInBounds_toArray, List.set_cons_zero, List.set_cons_succ]
          refine take7 (i := 16) (d := 37) (v := .pointer (some ⟨gl, ol + i * 6, none⟩)) rfl rfl (by kernel_rfl) (by kernel_rfl) (by kernel_rfl) (fun _ _ _ h => h) (Or.inl ⟨by rfl, ?_⟩) (by assumption) ?_
          · intro X hSw
            go_simp
          simp only [Act.put, List.setIfInBounds_toArray, List.set_cons_zero, List.set_cons_succ]
          refine take7 (i := 17) (d := 38) (v := .agg #[.int .i64 (gi : Int), .int .i64 qk, .int .i64 qi, .int .i64 qt, .int .i64 qv, .string qd]) rfl rfl (by kernel_rfl) (by kernel_rfl) (by kernel_rfl) (fun _ _ _ h => h) (Or.inl ⟨by rfl, ?_⟩) (by assumption) ?_
          · intro X hSw
            go_simp
          simp only [Act.put, List.setIfInBounds_toArray, List.set_cons_zero, List.set_cons_succ]
          refine wpAnyH_ready (rs := [13]) (by kernel_rfl) (by simp) ?_
          refine AllReadyH.cons rfl (fun K hK => ?_) AllReadyH.nil
          go_simp
          refine hK.out _ _ (HSR.out _ hz0) (fun hHeld2 => ?_)
          clear hK K hHeld
          refine wpAnyH_ready (rs := [18]) (by kernel_rfl) (by simp) ?_
          refine AllReadyH.cons rfl (fun K hK => ?_) AllReadyH.nil
          go_simp
          go_wp2_with fail
          refine Calls.mono (HFo.out _ hz0) ?_
          rintro e w7 ⟨a0, a1, a2, a3, a4, p', n', c', rfl, hb7, hz7⟩
          have hb7' : Below wr.heap.size wr w7 := hz0.trans (hb7.mono hz0.size)
          have HZ7 : Hid _ := hz7
          go_wp2
          refine hK.out _ _ (HSR.out _ hb7') (fun hHeld3 => ?_)
          clear hK K hHeld2 hz7
          refine take7 (i := 19) (d := 20) (v := .tuple #[.agg #[.int .i64 a0, .int .i64 a1, .int .i64 a2, .int .i64 a3, .string a4, .slice p' n' c'], .bool true]) rfl rfl (by kernel_rfl) (by kernel_rfl) (by kernel_rfl) (fun _ _ _ h => h) (Or.inl ⟨by rfl, ?_⟩) (by assumption) ?_
          · intro X hSw
            go_simp
          simp only [Act.put, List.setIfInBounds_toArray, List.set_cons_zero, List.set_cons_succ]
          refine take7 (i := 20) (d := 40) (v := .agg #[.int .i64 a0, .int .i64 a1, .int .i64 a2, .int .i64 a3, .string a4, .slice p' n' c']) rfl rfl (by kernel_rfl) (by kernel_rfl) (by kernel_rfl) (fun _ _ _ h => h) (Or.inl ⟨by rfl, ?_⟩) (by assumption) ?_
          · intro X hSw
            go_simp
          simp only [Act.put, List.setIfInBounds_toArray, List.set_cons_zero, List.set_cons_succ]
          refine take7 (i := 21) (d := 41) (v := .bool true) rfl rfl (by kernel_rfl) (by kernel_rfl) (by kernel_rfl) (fun _ _ _ h => h) (Or.inl ⟨by rfl, ?_⟩) (by assumption) ?_
          · intro X hSw
            go_simp
          simp only [Act.put, List.setIfInBounds_toArray, List.set_cons_zero, List.set_cons_succ]
          refine take7 (i := 22) (d := 42) (v := .pointer (some ⟨g, gi * 6, none⟩)) rfl rfl (by kernel_rfl) (by kernel_rfl) (by kernel_rfl) (fun _ _ _ h => h) (Or.inl ⟨by rfl, ?_⟩) (by assumption) ?_
          · intro X hSw
            go_simp
          simp only [Act.put, List.setIfInBounds_toArray, List.set_cons_zero, List.set_cons_succ]
          obtain ⟨⟨x0, x1, x2, x3, x4, x5⟩, hfz⟩ := HZ.out w7 hb7'
          have g0 := hfz (gi * 6)
          have g1 := hfz (gi * 6 + 1)
          have g2 := hfz (gi * 6 + 2)
          have g3 := hfz (gi * 6 + 3)
          have g4 := hfz (gi * 6 + 4)
          have g5 := hfz (gi * 6 + 5)
          clear hfz z0 z1 z2 z3 z4 z5
          obtain ⟨w8, hw8⟩ : ∃ w8, w8 = set6 w7 g (gi * 6) (.int .i64 a0) (.int .i64 a1) (.int .i64 a2) (.int .i64 a3) (.string a4) (.slice p' n' c') := ⟨_, rfl⟩
          have HS8 : Hid (w8.cell? ⟨gl, ol + i * 6, none⟩ = some (.int .i64 (gi : Int)) ∧ w8.cell? ⟨gl, ol + i * 6 + 1, none⟩ = some (.int .i64 qk) ∧ w8.cell? ⟨gl, ol + i * 6 + 2, none⟩ = some (.int .i64 qi) ∧ w8.cell? ⟨gl, ol + i * 6 + 3, none⟩ = some (.int .i64 qt) ∧ w8.cell? ⟨gl, ol + i * 6 + 4, none⟩ = some (.int .i64 qv) ∧ w8.cell? ⟨gl, ol + i * 6 + 5, none⟩ = some (.string qd)) := by
            have hc : ∀ j, w8.cell? ⟨gl, j, none⟩ = w7.cell? ⟨gl, j, none⟩ := fun j => by
              rw [hw8]
              exact World.cell?_of_block (a := ⟨gl, j, none⟩) (set6_heap HNg.out)
            rw [hc, hc, hc, hc, hc, hc]
            exact HSR.out w7 hb7'
          have H8 : Hid (AlS w w8 (.slice (some ⟨g, 0, none⟩) 9 c) g (W.doR S ⟨(gi : Int), qk, qi, qt, qv, qd⟩) (upd E gi (.slice p' n' c')) l (i + 1)) := by
            rw [hw8]
            exact HZ7.out
          unfold set6 at hw8
          refine wpAnyH_ready (rs := [23]) (by kernel_rfl) (by simp) ?_
          refine AllReadyH.cons rfl (fun K hK => ?_) AllReadyH.nil
          go_simp
          rw [← hw8]
          refine hK.out _ _ HS8.out (fun hHeld4 => ?_)
          clear hK K hHeld3 hw8 x0 x1 x2 x3 x4 x5 g0 g1 g2 g3 g4 g5 HZ7 HS8 HZ HFo hb7 hb7' hz0
          refine wpAnyH_done (by kernel_rfl) ?_ _
          clear hHeld4 HSR
          go_wp2
          refine And.intro ?_ ?_
          · (repeat apply Exists.intro)
            refine And.intro ?_ rfl
            exact ⟨i + 1, _, _, by go_num, by omega, H8⟩
          · simp [intOf]; omega
        · obtain rfl : i = nl := by omega
          have hjj : ¬ (i : Int) < (i : Int) := by omega
          go_wp2
          refine HOut.out _ g S E _ HA.out.all (fun j hj => ?_) HA.out.old
          rw [HA.out.eq j hj, HNl.out, List.take_length]

end Go.Proofs.Ytpfnkjfbhcffiaa

namespace Go.Proofs.Ytpfnkjfbhcffiaa
open Go.RowKit

/-- How the records on the disk come of those that were done: sure of them are sure. -/
def Hist (s : St) (segs : List (List W.Rec)) (D : List W.Rec) (sure : Nat) : Prop :=
  ∃ c pre, c ≤ sure ∧ sure ≤ D.length ∧ segs.flatten = pre ++ D.drop c ∧ W.folds (fun _ => W.new) pre = W.folds (fun _ => W.new) (D.take c) ∧ SureQ s segs (pre.length + (sure - c))

theorem Hist.folds {s : St} {segs : List (List W.Rec)} {D : List W.Rec} {sure : Nat} (h : Hist s segs D sure) : W.folds (fun _ => W.new) segs.flatten = W.folds (fun _ => W.new) D := by
  obtain ⟨c, pre, h1, h2, h3, h4, _⟩ := h
  rw [h3, W.folds_append, h4, ← W.folds_append, List.take_append_drop]

theorem segB_take_le (t : Nat) (l : List W.Rec) (m : Nat) : (segB t (l.take m)).size ≤ (segB t l).size := by
  unfold segB
  rw [size_app, size_app]
  have := W.recs_le (l.take m) (l.drop m)
  rw [List.take_append_drop] at this
  omega

theorem imgA_last (t : Nat) (cs : List (List W.Rec)) (l : List W.Rec) : imgA t (cs ++ [l]) cs.length = (segB t l).data.toList := by
  unfold imgA
  rw [List.getElem?_append_right (Nat.le_refl _), Nat.sub_self]
  rfl

/-- Where all bytes are sure, all records are. -/
theorem sure_all {lim : Nat} {s : St} {segs : List (List W.Rec)} (h : Inv lim s segs) (hn : segs.length ≤ 200) (hs : ∀ i, i < 256 → s.S i = (s.A i).length) {q : Nat} (hq : q ≤ segs.flatten.length) : SureQ s segs q := by
  refine ⟨hq, fun cs l e _ => ?_⟩
  subst e
  have hl : cs.length < 256 := by
    rw [List.length_append] at hn
    simp at hn
    omega
  rw [hs _ hl, h.files _ hl, imgA_last, F.toL_length]
  exact segB_take_le _ _ _

theorem two_ends {cs cs' : List (List W.Rec)} {l l' : List W.Rec} (h : cs ++ [l] = cs' ++ [l']) : cs = cs' ∧ l = l' := by
  have := List.append_inj' h rfl
  exact ⟨this.1, by simpa using this.2⟩

theorem appd_turn (lim : Nat) (s : St) (r : W.Rec) : (appd lim s r).turn = s.turn := by
  unfold appd wr
  split <;> rfl

/-- What was sure is so behind one append more. -/
theorem sure_append {lim : Nat} {s : St} {segs : List (List W.Rec)} (h : Inv lim s segs) (r : W.Rec) (hc : W.chk s.gs r = 0) (hn : s.n < 199) {q : Nat} (hq : SureQ s segs q) : SureQ (appd lim s r) (segPut lim s segs r) q := by
  have hcl := cl_le lim s
  have hfl := segPut_flat h r
  have hi := h.step r hc (by omega)
  have hnn := h.n
  refine ⟨by rw [hfl, List.length_append]; have := hq.1; omega, fun cs l e hlt => ?_⟩
  rw [appd_turn]
  by_cases hnew : cl lim s = s.n
  · have e1 : segPut lim s segs r = segs ++ [[r]] := by unfold segPut; rw [if_pos hnew]
    rw [e1] at e
    obtain ⟨e2, _⟩ := two_ends e
    have := hq.1
    rw [e2] at this
    omega
  · have e1 : segPut lim s segs r = segs.dropLast ++ [(segs.getLast?).getD [] ++ [r]] := by unfold segPut; rw [if_neg hnew]
    have hsn : segs ≠ [] := fun e => by rw [e] at hnn; simp at hnn; omega
    have hseg : segs = segs.dropLast ++ [segs.getLast hsn] := (List.dropLast_concat_getLast hsn).symm
    have hlast : (segs.getLast?).getD [] = segs.getLast hsn := by rw [List.getLast?_eq_some_getLast hsn]; rfl
    rw [e1, hlast] at e
    obtain ⟨e2, e3⟩ := two_ends e
    have hold := hq.2 segs.dropLast (segs.getLast hsn) hseg (by rw [e2]; exact hlt)
    have hlen : segs.dropLast.length + 1 = segs.length := by
      have := congrArg List.length hseg
      rw [List.length_append] at this
      simpa using this.symm
    have hcs : cs.length = cl lim s := by
      rw [← e2]
      unfold cl at hnew ⊢
      split at hnew
      · omega
      · rename_i q0
        rw [if_neg q0]
        split at hnew
        · rename_i q1
          rw [if_pos q1]
          omega
        · exact absurd rfl hnew
    have hq1 : q - cs.flatten.length ≤ (segs.getLast hsn).length := by
      have h1 := hq.1
      rw [hseg, List.flatten_append, List.length_append, e2] at h1
      simp at h1
      rw [← List.length_flatten] at h1
      omega
    have htk : l.take (q - cs.flatten.length) = (segs.getLast hsn).take (q - cs.flatten.length) := by
      rw [← e3, List.take_append_of_le_length hq1]
    rw [e2] at hold
    obtain ⟨a1, a2⟩ := appd_S lim s r
    by_cases hfull : ((appd lim s r).A (cl lim s)).length < lim
    · rw [a1 hfull, htk]
      exact hold
    · rw [hcs, a2 (by omega) _ (by omega), hi.files _ (by omega), appd_turn, e1, hlast, ← hcs, ← e2, imgA_last, F.toL_length, e3]
      exact segB_take_le _ _ _

theorem Hist.append {lim : Nat} {s : St} {segs : List (List W.Rec)} {D : List W.Rec} {sure : Nat} (hh : Hist s segs D sure) (h : Inv lim s segs) (r : W.Rec) (hc : W.chk s.gs r = 0) (hn : s.n < 199) : Hist (appd lim s r) (segPut lim s segs r) (D ++ [r]) sure := by
  obtain ⟨c, pre, h1, h2, h3, h4, h5⟩ := hh
  refine ⟨c, pre, h1, by rw [List.length_append]; omega, ?_, ?_, sure_append h r hc hn h5⟩
  · rw [segPut_flat h r, h3, List.append_assoc, List.drop_append_of_le_length (by omega)]
  · rw [List.take_append_of_le_length (by omega)]
    exact h4

/-- All is sure. -/
theorem Hist.synced {lim : Nat} {s s' : St} {segs : List (List W.Rec)} {D : List W.Rec} {sure : Nat} (hh : Hist s segs D sure) (h : Inv lim s' segs) (hn : segs.length ≤ 200) (hs : ∀ i, i < 256 → s'.S i = (s'.A i).length) : Hist s' segs D D.length := by
  obtain ⟨c, pre, h1, h2, h3, h4, _⟩ := hh
  refine ⟨c, pre, by omega, Nat.le_refl _, h3, h4, sure_all h hn hs ?_⟩
  rw [h3, List.length_append, List.length_drop]
  omega

theorem Hist.cleaned {lim : Nat} {s s' : St} {segs : List (List W.Rec)} {D : List W.Rec} {sure : Nat} (hh : Hist s segs D sure) (h : Inv lim s segs) (ok : ∀ i, W.Ok (s.gs i)) (h' : Inv lim s' (cleanSegs (W.fewTo s.gs 9))) (hs : ∀ i, i < 256 → s'.S i = (s'.A i).length) : Hist s' (cleanSegs (W.fewTo s.gs 9)) D D.length := by
  have hg := W.goes_all ok (fun i hi => by rw [h.gs, W.folds_far _ _ h.chks i hi])
  have hf : (cleanSegs (W.fewTo s.gs 9)).flatten = W.fewTo s.gs 9 := by
    unfold cleanSegs
    split
    · rename_i e; rw [e]; rfl
    · simp
  have hl : (cleanSegs (W.fewTo s.gs 9)).length ≤ 1 := by unfold cleanSegs; split <;> simp
  refine ⟨D.length, W.fewTo s.gs 9, Nat.le_refl _, Nat.le_refl _, ?_, ?_, sure_all h' (by omega) hs ?_⟩
  · rw [hf, List.drop_length, List.append_nil]
  · rw [List.take_length, hg.2, h.gs, hh.folds]
  · rw [hf]; omega

/-- The law's state: D were done, sure of them are sure. -/
structure Cw (w X : World) (p : Pl) (v : Value) (g : Nat) (s : St) (segs : List (List W.Rec)) (own : Nat → Prop) (S : Nat → W.Sv) (E : Nat → Value) (k : Nat) (dv : Value) (D : List W.Rec) (sure : Nat) : Prop where
  pz : Pz w X p v g s segs own S E k
  row : RowV X 37 6 dv D.length (recCells D)
  nb : ∀ q, rowBlk dv = some q → ¬ own q ∧ q ≠ g ∧ w.heap.size ≤ q ∧ ∀ i, i < 9 → readBlk (E i) ≠ some q
  len : D.length ≤ k
  hist : Hist s segs D sure
  chks : W.Chks (fun _ => W.new) D

theorem Cw.below {w X Y : World} {p : Pl} {v : Value} {g : Nat} {s : St} {segs : List (List W.Rec)} {own : Nat → Prop} {S : Nat → W.Sv} {E : Nat → Value} {k : Nat} {dv : Value} {D : List W.Rec} {sure : Nat} (h : Cw w X p v g s segs own S E k dv D sure) (hb : Below X.heap.size X Y) : Cw w Y p v g s segs own S E k dv D sure :=
  ⟨h.pz.below hb, h.row.carry (fun q hq => hb.block q (h.row.lt hq)), h.nb, h.len, h.hist, h.chks⟩
theorem Cw.next {w X : World} {p : Pl} {v : Value} {g : Nat} {s : St} {segs : List (List W.Rec)} {own : Nat → Prop} {S : Nat → W.Sv} {E : Nat → Value} {k : Nat} {dv : Value} {D : List W.Rec} {sure : Nat} (h : Cw w X p v g s segs own S E k dv D sure) : Cw w X p v g s segs own S E (k + 1) dv D sure :=
  ⟨h.pz.next, h.row, h.nb, by have := h.len; omega, h.hist, h.chks⟩

theorem since_nb {own : Nat → Prop} {X Y : World} {q : Nat} (h : ¬ own q) (hl : q < X.heap.size) : ¬ sinceS own X Y q := by
  rintro (e | e)
  · exact h e
  · omega

theorem Cw.sync {w X : World} {p : Pl} {v : Value} {g : Nat} {s : St} {segs : List (List W.Rec)} {own : Nat → Prop} {S : Nat → W.Sv} {E : Nat → Value} {k : Nat} {dv : Value} {D : List W.Rec} {sure : Nat} (h : Cw w X p v g s segs own S E k dv D sure) (hk : k < 100) :
    Calls Try.prog 15 #[.pointer (some ⟨p.L, 0, none⟩)] X fun e w' => e = .returned (.int .i64 0) ∧ ∃ s' own', Cw w w' p v g s' segs own' S E (k + 1) dv D D.length := by
  refine h.pz.sync.mono ?_
  rintro e w' ⟨rfl, s', own', h1, h2, rfl, h3⟩
  refine ⟨rfl, s', _, h1, h.row.carry (fun q hq => h2.block q (h.row.lt hq) (h.nb q hq).1), fun q hq => ⟨since_nb (h.nb q hq).1 (h.row.lt hq), (h.nb q hq).2⟩, by have := h.len; omega, h.hist.synced h1.pm.lo.inv ?_ h3, h.chks⟩
  rw [← h.pz.pm.lo.inv.n]
  have := h.pz.n
  omega

theorem Cw.clean {w X : World} {p : Pl} {v : Value} {g : Nat} {s : St} {segs : List (List W.Rec)} {own : Nat → Prop} {S : Nat → W.Sv} {E : Nat → Value} {k : Nat} {dv : Value} {D : List W.Rec} {sure : Nat} (h : Cw w X p v g s segs own S E k dv D sure) (hk : k < 100) :
    Calls Try.prog 17 #[.pointer (some ⟨p.L, 0, none⟩)] X fun e w' => e = .returned (.int .i64 0) ∧ ∃ s' segs' own', Cw w w' p v g s' segs' own' S E (k + 1) dv D D.length := by
  refine (h.pz.clean hk).mono ?_
  rintro e w' ⟨rfl, s', segs', own', h1, _, h2, rfl, h3, rfl⟩
  exact ⟨rfl, s', _, _, h1, h.row.carry (fun q hq => h2.block q (h.row.lt hq) (h.nb q hq).1), fun q hq => ⟨since_nb (h.nb q hq).1 (h.row.lt hq), (h.nb q hq).2⟩, by have := h.len; omega, h.hist.cleaned h.pz.pm.lo.inv h.pz.pm.lo.lg.ok h1.pm.lo.inv h3, h.chks⟩

/-- Behind an append that was taken. -/
structure Ch (w X : World) (p : Pl) (v : Value) (g : Nat) (s : St) (segs : List (List W.Rec)) (own : Nat → Prop) (S : Nat → W.Sv) (E : Nat → Value) (k : Nat) (dv : Value) (D : List W.Rec) (sure : Nat) (r : W.Rec) : Prop where
  ph : Ph w X p v g s segs own S E k r
  row : RowV X 37 6 dv D.length (recCells D)
  nb : ∀ q, rowBlk dv = some q → ¬ own q ∧ q ≠ g ∧ w.heap.size ≤ q ∧ ∀ i, i < 9 → readBlk (E i) ≠ some q
  len : D.length ≤ k
  hist : Hist s segs (D ++ [r]) sure
  chks : W.Chks (fun _ => W.new) (D ++ [r])

theorem Ch.below {w X Y : World} {p : Pl} {v : Value} {g : Nat} {s : St} {segs : List (List W.Rec)} {own : Nat → Prop} {S : Nat → W.Sv} {E : Nat → Value} {k : Nat} {dv : Value} {D : List W.Rec} {sure : Nat} {r : W.Rec} (h : Ch w X p v g s segs own S E k dv D sure r) (hb : Below X.heap.size X Y) : Ch w Y p v g s segs own S E k dv D sure r :=
  ⟨h.ph.below hb, h.row.carry (fun q hq => hb.block q (h.row.lt hq)), h.nb, h.len, h.hist, h.chks⟩

theorem Cw.append {w X : World} {p : Pl} {v : Value} {g : Nat} {s : St} {segs : List (List W.Rec)} {own : Nat → Prop} {S : Nat → W.Sv} {E : Nat → Value} {k : Nat} {dv : Value} {D : List W.Rec} {sure : Nat} (h : Cw w X p v g s segs own S E k dv D sure) (hk : k < 100) (r : W.Rec) (hd : r.data.size ≤ 200) (hc : W.chk S r = 0) :
    Calls Try.prog 13 #[.pointer (some ⟨p.L, 0, none⟩), recV r] X fun e w' => e = .returned (.int .i64 0) ∧ ∃ s' segs' own', Ch w w' p v g s' segs' own' S E k dv D sure r ∧ KeptS own X w' := by
  have hcs : W.chk s.gs r = 0 := by rw [chk_congr h.pz.eq]; exact hc
  have hgs : s.gs = W.folds (fun _ => W.new) D := by rw [h.pz.pm.lo.inv.gs, h.hist.folds]
  refine (h.pz.append hk r hd hc).mono ?_
  rintro e w' ⟨rfl, s', segs', own', h1, h2, rfl, h4, rfl, rfl⟩
  refine ⟨rfl, _, _, _, ⟨h1, h.row.carry (fun q hq => h4.block q (h.row.lt hq) (h.nb q hq).1), fun q hq => ⟨since_nb (h.nb q hq).1 (h.row.lt hq), (h.nb q hq).2⟩, h.len, h.hist.append h.pz.pm.lo.inv r hcs ?_, ?_⟩, h4⟩
  · have := h.pz.n
    omega
  · exact chks_snoc D _ r h.chks (by rw [← hgs]; exact hcs)

/-- The document has folded it: only the list is behind. -/
structure Cg (w X : World) (p : Pl) (v : Value) (g : Nat) (s : St) (segs : List (List W.Rec)) (own : Nat → Prop) (S : Nat → W.Sv) (E : Nat → Value) (k : Nat) (dv : Value) (D : List W.Rec) (sure : Nat) (r : W.Rec) : Prop where
  pz : Pz w X p v g s segs own S E (k + 1)
  row : RowV X 37 6 dv D.length (recCells D)
  nb : ∀ q, rowBlk dv = some q → ¬ own q ∧ q ≠ g ∧ w.heap.size ≤ q ∧ ∀ i, i < 9 → readBlk (E i) ≠ some q
  len : D.length ≤ k
  hist : Hist s segs (D ++ [r]) sure
  chks : W.Chks (fun _ => W.new) (D ++ [r])

theorem Cg.below {w X Y : World} {p : Pl} {v : Value} {g : Nat} {s : St} {segs : List (List W.Rec)} {own : Nat → Prop} {S : Nat → W.Sv} {E : Nat → Value} {k : Nat} {dv : Value} {D : List W.Rec} {sure : Nat} {r : W.Rec} (h : Cg w X p v g s segs own S E k dv D sure r) (hb : Below X.heap.size X Y) : Cg w Y p v g s segs own S E k dv D sure r :=
  ⟨h.pz.below hb, h.row.carry (fun q hq => hb.block q (h.row.lt hq)), h.nb, h.len, h.hist, h.chks⟩

theorem Ch.fold {w X : World} {p : Pl} {v : Value} {g : Nat} {s : St} {segs : List (List W.Rec)} {own : Nat → Prop} {S : Nat → W.Sv} {E : Nat → Value} {k : Nat} {dv : Value} {D : List W.Rec} {sure : Nat} {r : W.Rec} (h : Ch w X p v g s segs own S E k dv D sure r) {gi : Nat} (hgi : r.group = (gi : Int)) (hg9 : gi < 9) :
    Calls Try.prog 14 #[savV (S gi) (E gi), recV r] X fun e w' => ∃ a0 a1 a2 a3 a4 p' n' c', e = .returned (.tuple #[.agg #[.int .i64 a0, .int .i64 a1, .int .i64 a2, .int .i64 a3, .string a4, .slice p' n' c'], .bool true]) ∧ Below X.heap.size X w' ∧ Cg w (set6 w' g (gi * 6) (.int .i64 a0) (.int .i64 a1) (.int .i64 a2) (.int .i64 a3) (.string a4) (.slice p' n' c')) p v g s segs own (W.doR S r) (upd E gi (.slice p' n' c')) k dv D sure r := by
  refine (h.ph.fold hgi).mono ?_
  rintro e w' ⟨a0, a1, a2, a3, a4, p', n', c', rfl, hb, hz, hq⟩
  refine ⟨a0, a1, a2, a3, a4, p', n', c', rfl, hb, hz, h.row.carry (fun q hq' => ?_), fun q hq' => ?_, h.len, h.hist, h.chks⟩
  · rw [set6_heap (h.nb q hq').2.1]
    exact hb.block q (h.row.lt hq')
  · obtain ⟨n1, n2, n3, n4⟩ := h.nb q hq'
    refine ⟨n1, n2, n3, fun i hi e => ?_⟩
    by_cases ei : i = gi
    · subst ei
      rw [upd_same] at e
      rcases hq q e with e | e
      · exact n4 i hi e
      · have := h.row.lt hq'
        omega
    · rw [upd_other _ _ ei] at e
      exact n4 i hi e

theorem AllV.grown {w w' : World} {v : Value} {g : Nat} {S : Nat → W.Sv} {E : Nat → Value} {row : Option Nat} (h : AllV w v g S E) (hg : w.grownBy w' row) (h1 : row ≠ some g) (h2 : ∀ i, i < 9 → ∀ k, readBlk (E i) = some k → row ≠ some k) : AllV w' v g S E :=
  h.carry hg.size (hg.block g h.lt (fun e => h1 e.symm)) (fun i hi k q => hg.block k ((h.ent i hi).lt q) (fun e => h2 i hi k q e.symm))

/-- .. and the list is one longer. -/
theorem Cg.push {w X Y : World} {p : Pl} {v : Value} {g : Nat} {s : St} {segs : List (List W.Rec)} {own : Nat → Prop} {S : Nat → W.Sv} {E : Nat → Value} {k : Nat} {dv dv' : Value} {D : List W.Rec} {sure : Nat} {r : W.Rec} (h : Cg w X p v g s segs own S E k dv D sure r) (ho : RowV Y 37 6 dv' (D.length + 1) (recCells D ++ (recO r).toList)) (hg : X.grownBy Y (rowBlk dv)) (hl : ∀ q, rowBlk dv' = some q → rowBlk dv = some q ∨ X.heap.size ≤ q) : Cw w Y p v g s segs own S E (k + 1) dv' (D ++ [r]) sure := by
  have hnr : ∀ q, q < X.heap.size → rowBlk dv ≠ some q → Y.heap[q]? = X.heap[q]? := fun q hq hn => hg.block q hq (fun e => hn e.symm)
  have hown : ∀ q, own q → rowBlk dv ≠ some q := fun q hq e => (h.nb q e).1 hq
  have hold := h.pz.pm.lo.old
  refine ⟨⟨⟨⟨h.pz.pm.lo.lg.carry hg.size (fun q hq => hnr q (h.pz.pm.lo.lg.here q hq) (hown q hq)), h.pz.pm.lo.mine, ?_, h.pz.pm.lo.inv, h.pz.pm.lo.room, h.pz.pm.lo.bytes⟩, h.pz.pm.all.grown hg (fun e => (h.nb g e).2.1 rfl) (fun i hi q e e2 => (h.nb q e2).2.2.2 i hi e), h.pz.pm.ng, h.pz.pm.ne, h.pz.pm.gl⟩, h.pz.eq, h.pz.n, h.pz.need⟩, ?_, fun q hq => ?_, by rw [List.length_append]; simp; exact h.len, h.hist, h.chks⟩
  · exact ⟨hg.os.trans hold.os, hg.tape.trans hold.tape, hg.output.trans hold.output, Nat.le_trans hold.size hg.size, fun q hq => by
      rw [hnr q (by have := hold.size; omega) (fun e => by have := (h.nb q e).2.2.1; omega)]
      exact hold.block q hq⟩
  · rw [List.length_append, recCells_snoc]
    exact ho
  · rcases hl q hq with e | e
    · exact h.nb q e
    · have hs := hold.size
      refine ⟨fun e2 => by have := h.pz.pm.lo.lg.here q e2; omega, fun e2 => by have := h.pz.pm.all.lt; omega, by omega, fun i hi e2 => ?_⟩
      have := (h.pz.pm.all.ent i hi).lt e2
      omega

/-- The disk behind a crash, and the list. -/
def Cx (w X : World) (b lim : Nat) (dv : Value) (D : List W.Rec) (sure : Nat) : Prop :=
  ∃ A S dk t segs last N B, Dk X b 4194304 A S dk ∧ (∀ k, dk k → k < X.heap.size) ∧ (∀ k, k = b ∨ dk k → w.heap.size ≤ k) ∧ Below w.heap.size w X ∧ (1 ≤ lim ∧ lim ≤ 16777216) ∧ Disky A (fun _ => W.new) t segs last ∧ W.folds (fun _ => W.new) (found segs last).flatten = W.folds (fun _ => W.new) (D.take N) ∧ sure ≤ N ∧ N ≤ D.length ∧ (found segs last).length ≤ 100 ∧ (∀ i, i < 256 → (imgA t (found segs last) i).length ≤ (B i : List UInt8).length) ∧ tot B ≤ 50000 ∧ RowV X 37 6 dv D.length (recCells D) ∧ (∀ q, rowBlk dv = some q → ¬ (q = b ∨ dk q)) ∧ W.Chks (fun _ => W.new) D

theorem totTo_le {A B : Nat → List UInt8} : ∀ n, (∀ i, i < n → (A i).length ≤ (B i).length) → totTo A n ≤ totTo B n
  | 0, _ => Nat.le_refl _
  | n + 1, h => by
    rw [totTo, totTo]
    have h1 := totTo_le n (fun i hi => h i (by omega))
    have h2 := h n (by omega)
    omega

theorem Cw.crash {w X : World} {p : Pl} {v : Value} {g : Nat} {s : St} {segs : List (List W.Rec)} {own : Nat → Prop} {S : Nat → W.Sv} {E : Nat → Value} {k : Nat} {dv : Value} {D : List W.Rec} {sure : Nat} (h : Cw w X p v g s segs own S E k dv D sure) (hk : k ≤ 100) (kv : Value) (K : List Int) (gk : Nat) (hK : Ints w gk kv K) (hgk : K ≠ [] → gk < w.heap.size) (turn : Int) :
    Calls Try.prog 20 #[.pointer (some ⟨p.b, 0, none⟩), kv, .int .i64 turn] X fun e w' => e = .returned (.int .i64 0) ∧ Cx w w' p.b p.limit dv D sure := by
  obtain ⟨dk, hcd, hdk⟩ := h.pz.pm.lo.cd
  have hold := hcd.old
  have hK' : Ints X gk kv K := hK.carry (fun e => hold.block gk (hgk e))
  have hn := h.pz.n
  have hsl : segs.length ≤ 100 := by rw [← h.pz.pm.lo.inv.n]; omega
  have hle := h.pz.pm.lo.lg.leSure
  refine (Crash_yes hcd.disk gk kv K turn hK' (fun e => ⟨Nat.lt_of_lt_of_le (hgk e) hold.size, fun e2 => by have := hcd.mine p.b (.inl rfl); have := hgk e; omega, fun e2 => by have := hcd.mine gk (.inr e2); have := hgk e; omega⟩)).mono ?_
  rintro e w' ⟨rfl, hd, hkp⟩
  obtain ⟨t, segs', last', N, hdi, hfl, hN, hsu, hfn, himg⟩ := crash_disky h.pz.pm.lo.inv (by omega) (A' := (crTo (lowByte turn) ⟨s.A, s.S, K⟩ 256).A) (fun i hi => crTo_lf (lowByte turn) ⟨s.A, s.S, K⟩ i (hle i hi) 256 hi)
  obtain ⟨c, pre, h1, h2, h3, h4, h5⟩ := h.hist
  have hq := hsu _ h5
  have hln : segs.flatten.length = pre.length + (D.length - c) := by rw [h3, List.length_append, List.length_drop]
  have hks : KeptS (fun q => q = p.b ∨ dk q) X w' := KeptS.ofKept hkp (.inl rfl) (fun q hq => .inr hq)
  rw [hcd.room] at hd
  refine ⟨rfl, _, _, _, t, segs', last', c + (N - pre.length), s.A, hd.tighter', fun q hq => hq.2, ?_, hold.trans (hks.below hcd.mine hold.size), hcd.lim, hdi, ?_, by omega, by omega, by omega, himg, ?_, h.row.carry (fun q hq => hks.block q (h.row.lt hq) (fun e => (h.nb q hq).1 (hdk q e))), ?_, h.chks⟩
  · rintro q (e | e)
    · exact hcd.mine q (.inl e)
    · rcases e.1 with e | e
      · exact hcd.mine q (.inr e)
      · have := hold.size
        omega
  · rw [hfl, h3, show N = pre.length + (N - pre.length) by omega, List.take_length_add_append, W.folds_append, h4, ← W.folds_append]
    congr 1
    rw [← List.take_append_drop c D, List.take_append_of_le_length (by rw [List.length_take]; omega)] 
    rw [List.take_append_drop]
    have e1 : D.take (c + (pre.length + (N - pre.length) - pre.length)) = D.take c ++ (D.drop c).take (N - pre.length) := by
      rw [show c + (pre.length + (N - pre.length) - pre.length) = c + (N - pre.length) by omega]
      exact List.take_add
    rw [e1]
    congr 1
    rw [List.take_take, Nat.min_self]
  · have := h.pz.pm.lo.bytes
    omega
  · intro q hq e
    rcases e with e | e
    · exact (h.nb q hq).1 (hdk q (.inl e))
    · rcases e.1 with e | e
      · exact (h.nb q hq).1 (hdk q (.inr e))
      · have := h.row.lt hq
        omega

/-- The log behind the crash, and the list: N of them survived. -/
def Lx (w X : World) (L : Nat) (dv : Value) (D : List W.Rec) (N : Nat) : Prop :=
  ∃ p s own, p.L = L ∧ Lg X p s own ∧ (∀ k, own k → w.heap.size ≤ k) ∧ Below w.heap.size w X ∧ s.gs = W.folds (fun _ => W.new) (D.take N) ∧ s.n ≤ 100 ∧ tot s.A ≤ 50000 ∧ p.room = 4194304 ∧ RowV X 37 6 dv D.length (recCells D) ∧ W.Chks (fun _ => W.new) D

theorem Cx.reopen {w X : World} {b lim : Nat} {dv : Value} {D : List W.Rec} {sure : Nat} (h : Cx w X b lim dv D sure) :
    Calls Try.prog 8 #[.pointer (some ⟨b, 0, none⟩), .int .i64 (lim : Int)] X fun e w' => ∃ L N, e = .returned (.tuple #[.pointer (some ⟨L, 0, none⟩), .int .i64 0]) ∧ sure ≤ N ∧ N ≤ D.length ∧ Lx w w' L dv D N := by
  obtain ⟨A, S, dk, t, segs, last, N, B, h1, h2, h3, h4, h5, h6, h7, h8, h9, h10, h11, h12, h13, h14, h15⟩ := h
  refine (Open_c h1 h2 lim h5 h6).mono ?_
  rintro e w' ⟨rfl, s2, ho⟩
  have hk := ho.aft.2
  refine ⟨_, N, rfl, h8, h9, _, s2, _, rfl, ho.aft.1, fun q e => ?_, h4.trans (hk.below h3 h4.size), by rw [ho.gs, h7], by rw [ho.n]; exact h10, ?_, rfl, h13.carry (fun q hq => hk.block q (h13.lt hq) (h14 q hq)), h15⟩
  · rcases e with e | e
    · exact h3 q e
    · have := h4.size
      omega
  · refine Nat.le_trans (totTo_le 256 (fun i hi => ?_)) h12
    rw [ho.files i hi]
    exact h11 i hi

theorem Lx.below {w X Y : World} {L : Nat} {dv : Value} {D : List W.Rec} {N : Nat} (h : Lx w X L dv D N) (hb : Below X.heap.size X Y) : Lx w Y L dv D N := by
  obtain ⟨p, s, own, h1, h2, h3, h4, h5, h6, h7, h8, h9, h10⟩ := h
  exact ⟨p, s, own, h1, h2.below hb, h3, h4.trans (hb.mono h4.size), h5, h6, h7, h8, h9.carry (fun q hq => hb.block q (h9.lt hq)), h10⟩
theorem Lx.old {w X : World} {L : Nat} {dv : Value} {D : List W.Rec} {N : Nat} (h : Lx w X L dv D N) : Below w.heap.size w X := by
  obtain ⟨p, s, own, h1, h2, h3, h4, _⟩ := h
  exact h4

theorem Lx.all {w X : World} {L : Nat} {q : Option Addr} {m c : Nat} {D : List W.Rec} {N : Nat} (h : Lx w X L (.slice q m c) D N) {n : Nat} (hn : n ≤ D.length) : Calls Try.prog 10 #[.slice q n c] X (AllOut X (D.take n)) := by
  obtain ⟨p, s, own, h1, h2, h3, h4, h5, h6, h7, h8, h9, h10⟩ := h
  have hl : (D.take n).length = n := by rw [List.length_take]; omega
  have hel : Elems X 6 (fun r : W.Rec => (recO r).toList) (fun _ => True) (.slice q (D.take n).length c) (D.take n) := by
    obtain ⟨q', c', e, hc1, hc2⟩ := h9.form
    injection e with e1 e2 e3
    subst e1 e2 e3
    refine ⟨_, c, rfl, by rw [hl]; omega, hc2, fun _ _ => trivial, ?_⟩
    by_cases h0 : D.take n = []
    · exact .inl h0
    · right
      have hp : 0 < D.length := by
        rcases Nat.eq_zero_or_pos D.length with e | e
        · rw [List.eq_nil_of_length_eq_zero e] at h0
          simp at h0
        · exact e
      obtain ⟨g, c', hv, hr, _, _, hcell⟩ := h9.cells hp
      injection hv with e1 _ e3
      refine ⟨g, 0, e1, h9.lt hr, fun j x hj t u hu => ?_⟩
      have hj2 : D[j]? = some x := by
        rw [List.getElem?_take] at hj
        split at hj
        · exact hj
        · cases hj
      have ht : t < 6 := by
        have := (List.getElem?_eq_some_iff.1 hu).1
        simpa [recO] using this
      have hjl := (List.getElem?_eq_some_iff.1 hj2).1
      rw [Nat.zero_add, hcell (j * 6 + t) (by omega), recCells_at D j x hj2 t ht]
      exact hu
  have := All_c hel (chks_take h10 n)
  rw [hl] at this
  exact this

theorem Lx.told {w X : World} {L : Nat} {dv : Value} {D : List W.Rec} {N : Nat} (h : Lx w X L dv D N) {v : Value} {g : Nat} {S : Nat → W.Sv} {E : Nat → Value} (ha : AllV X v g S E) {n : Nat} (hS : ∀ i, i < 9 → S i = W.folds (fun _ => W.new) (D.take n) i) :
    Calls Try.prog 19 #[.pointer (some ⟨L, 0, none⟩), v] X fun e w' => ∃ b, e = .returned (.bool b) ∧ (n = N → b = true) ∧ Lx w w' L dv D N := by
  have hh := h
  obtain ⟨p, s, own, h1, h2, h3, h4, h5, h6, h7, h8, h9, h10⟩ := h
  rw [← h1]
  refine (told_c h2 ha).mono ?_
  rintro e w' ⟨b, rfl, h11, hb⟩
  refine ⟨b, rfl, fun e => h11 (fun i hi => ?_), ?_⟩
  · rw [h5, hS i hi, e]
  · rw [h1]
    exact hh.below hb

/-- The law's last record. -/
def r8 : W.Rec := ⟨8, 1, 0, 1073741824, 0, ⟨#[]⟩⟩
theorem r8_chk (gs : Nat → W.Sv) : W.chk gs r8 = 0 := by
  have h1 : W.mayHard r8 = true := by
    unfold W.mayHard r8
    dsimp only
    rw [W.no_bytes]
    decide
  have h2 : W.may r8 = true := by
    unfold W.may W.mayK
    rw [if_pos (show r8.kind = 1 from rfl), h1]
    decide
  have h3 : ∀ s, W.fits s r8 = true := by
    intro s
    unfold W.fits
    rw [if_pos (show r8.kind = 1 from rfl)]
  unfold W.chk
  rw [if_pos h2, if_pos (h3 _)]

theorem Lx.append {w X : World} {L : Nat} {dv : Value} {D : List W.Rec} {N : Nat} (h : Lx w X L dv D N) :
    Calls Try.prog 13 #[.pointer (some ⟨L, 0, none⟩), .agg #[.int .i64 8, .int .i64 1, .int .i64 0, .int .i64 1073741824, .int .i64 0, .string ⟨#[]⟩]] X fun e w' => e = .returned (.int .i64 0) ∧ Hid (Calls Try.prog 15 #[.pointer (some ⟨L, 0, none⟩)] w' fun e w'' => e = .returned (.int .i64 0) ∧ Below w.heap.size w w'') := by
  obtain ⟨p, s, own, h1, h2, h3, h4, h5, h6, h7, h8, h9, h10⟩ := h
  rw [← h1]
  have hcl := cl_le p.limit s
  have hb := recB_size2 (chk_may (r8_chk s.gs))
  have hh := head_size s.turn h2.tt
  have hd : r8.data.size = 0 := rfl
  have hx : (wx p.limit s (W.recB r8)).size ≤ 72 := by
    unfold wx
    split
    · rw [size_app]; omega
    · omega
  refine (Append_yes h2 r8 (r8_chk s.gs) (by omega) (by omega)).mono ?_
  rintro e w' ⟨rfl, ha⟩
  refine ⟨rfl, ?_⟩
  have hold : Below w.heap.size w w' := h4.trans (ha.2.below h3 h4.size)
  refine (Sync_c ha.1).mono ?_
  rintro e w'' ⟨rfl, hs⟩
  refine ⟨rfl, hold.trans (hs.2.below (fun q e => ?_) hold.size)⟩
  rcases e with e | e
  · exact h3 q e
  · have := h4.size
    omega

end Go.Proofs.Ytpfnkjfbhcffiaa
