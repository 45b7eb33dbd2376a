/-
  What a log holds, by the records that were appended: kept by every append; what is on the disk opens whole. A log beside all groups' saved of the document, in a call of a law's; entries of term 1; the crash of a disk whose bytes are all sure. An argument that is a slice of anything: what a walk wants of it; numbers.
-/
import Derived.Test.YtpfnkjfbhcffiaaWlOpen
import Derived.Test.YtpfnkjfbhcffiaaWlDoc
import Derived.Test.YtpfnkjfbhcffiaaDkCrash
import Derived.ProofKit
import Derived.OpenShut
import Derived.ShutString
import Derived.Deep.Strs
import Derived.Test.YtpfnkjfbhcffiaaRows
import Derived.Test.YtpfnkjfbhcffiaaOwn
namespace Go.Proofs.Ytpfnkjfbhcffiaa
open Go.RowKit

theorem folds_snoc : ∀ (l : List W.Rec) (gs : Nat → W.Sv) (r : W.Rec), W.folds gs (l ++ [r]) = W.doR (W.folds gs l) r
  | [], _, _ => rfl
  | x :: l, gs, r => by
    show W.folds (W.doR gs x) (l ++ [r]) = _
    rw [folds_snoc l]
    rfl
theorem chks_snoc : ∀ (l : List W.Rec) (gs : Nat → W.Sv) (r : W.Rec), W.Chks gs l → W.chk (W.folds gs l) r = 0 → W.Chks gs (l ++ [r])
  | [], _, _, _, h => ⟨h, trivial⟩
  | x :: l, gs, r, h, h2 => ⟨h.1, chks_snoc l (W.doR gs x) r h.2 h2⟩

/-- A log's segments are so many lists of records; closed ones are sure. -/
structure Inv (lim : Nat) (s : St) (segs : List (List W.Rec)) : Prop where
  tt : s.turn ≤ 1
  n : s.n = segs.length
  files : ∀ i, i < 256 → s.A i = imgA s.turn segs i
  full : ∀ l, l ∈ segs → l ≠ []
  gs : s.gs = W.folds (fun _ => W.new) segs.flatten
  chks : W.Chks (fun _ => W.new) segs.flatten
  sure : ∀ i, i + 1 < segs.length → i < 256 → s.S i = (s.A i).length
  sureL : ∀ i, i + 1 = segs.length → i < 256 → lim ≤ (s.A i).length → s.S i = (s.A i).length

theorem Inv.fresh {w w' : World} {p : Pl} {s : St} {own : Nat → Prop} (h : Fresh w w' p s own) (lim : Nat) : Inv lim s [] :=
  ⟨h.lg.tt, h.n, fun i hi => by rw [h.A i hi]; unfold imgA; simp, fun l hl => (by cases hl), h.gs, trivial, fun i hi => by simp at hi, fun i hi => by simp at hi⟩

theorem Inv.disky {lim : Nat} {s : St} {segs : List (List W.Rec)} (h : Inv lim s segs) (hn : segs.length < 200) {A : Nat → List UInt8} (hA : ∀ i, i < 256 → A i = s.A i) : Disky A (fun _ => W.new) s.turn segs [] := by
  refine ⟨h.tt, hn, fun i l hl => ?_, by rw [List.append_nil]; exact h.chks, .inl ⟨?_, rfl⟩⟩
  · have hi := (List.getElem?_eq_some_iff.1 hl).1
    refine ⟨?_, h.full l (List.mem_of_getElem? hl)⟩
    rw [hA i (by omega), h.files i (by omega)]
    unfold imgA
    rw [hl]
  · rw [hA _ (by omega), h.files _ (by omega)]
    unfold imgA
    rw [List.getElem?_eq_none (Nat.le_refl _)]
    exact take_empty

/-- The segments behind one append more. -/
def segPut (lim : Nat) (s : St) (segs : List (List W.Rec)) (r : W.Rec) : List (List W.Rec) :=
  if cl lim s = s.n then segs ++ [[r]] else segs.dropLast ++ [(segs.getLast?).getD [] ++ [r]]

theorem segPut_flat {lim : Nat} {s : St} {segs : List (List W.Rec)} (h : Inv lim s segs) (r : W.Rec) : (segPut lim s segs r).flatten = segs.flatten ++ [r] := by
  unfold segPut
  split
  · simp
  · rename_i hc
    have hne : segs ≠ [] := by
      intro e
      have hn := h.n
      rw [e] at hn
      simp at hn
      apply hc
      unfold cl
      rw [if_pos hn, hn]
    have e := List.dropLast_concat_getLast hne
    rw [List.getLast?_eq_some_getLast hne]
    simp only [Option.getD_some]
    have e2 : segs.flatten = segs.dropLast.flatten ++ segs.getLast hne := by
      have := congrArg List.flatten e
      rw [List.flatten_append] at this
      simpa using this.symm
    rw [e2]
    simp

theorem segB_snoc (t : Nat) (l : List W.Rec) (r : W.Rec) : (segB t (l ++ [r])).data.toList = (segB t l).data.toList ++ (W.recB r).data.toList := by
  have e : segB t (l ++ [r]) = segB t l ++ W.recB r := by
    unfold segB
    rw [W.recs_append, ByteArray.append_assoc]
    congr 1
    congr 1
    show W.recB r ++ (⟨#[]⟩ : ByteArray) = _
    apply F.ext
    simp
  rw [e]
  simp
theorem segB_one (t : Nat) (r : W.Rec) : (segB t [r]).data.toList = (W.head t ++ W.recB r).data.toList := by
  have e : segB t [r] = W.head t ++ W.recB r := by
    unfold segB
    congr 1
    show W.recB r ++ (⟨#[]⟩ : ByteArray) = _
    apply F.ext
    simp
  rw [e]

theorem appd_A (lim : Nat) (s : St) (r : W.Rec) : (appd lim s r).A = upd s.A (cl lim s) (s.A (cl lim s) ++ (wx lim s (W.recB r)).data.toList) := by
  unfold appd wr
  split <;> rfl
theorem appd_S (lim : Nat) (s : St) (r : W.Rec) : (((appd lim s r).A (cl lim s)).length < lim → (appd lim s r).S = s.S) ∧ (lim ≤ ((appd lim s r).A (cl lim s)).length → ∀ i, i < 256 → (appd lim s r).S i = ((appd lim s r).A i).length) := by
  rw [appd_A]
  have e1 : (wr1 lim s (W.recB r)).A = upd s.A (cl lim s) (s.A (cl lim s) ++ (wx lim s (W.recB r)).data.toList) := rfl
  have e2 : (wr1 lim s (W.recB r)).n = cl lim s + 1 := rfl
  have e3 : cl lim (wr1 lim s (W.recB r)) = if ((wr1 lim s (W.recB r)).A (cl lim s)).length < lim then cl lim s else cl lim s + 1 := by
    conv => lhs; unfold cl
    rw [e2, if_neg (by omega), Nat.add_sub_cancel]
  rw [← e1]
  unfold appd wr
  constructor
  · intro h
    rw [if_neg (by rw [e3, if_pos h, e2]; omega)]
    rfl
  · intro h i hi
    rw [if_pos (by rw [e3, if_neg (by omega), e2])]
    show (if i < 256 then _ else _) = _
    rw [if_pos hi]

theorem Inv.step {lim : Nat} {s : St} {segs : List (List W.Rec)} (h : Inv lim s segs) (r : W.Rec) (hc : W.chk s.gs r = 0) (hn : cl lim s < 200) : Inv lim (appd lim s r) (segPut lim s segs r) := by
  have hfl := segPut_flat h r
  have hT : (appd lim s r).turn = s.turn := wr_turn _ _ _
  have hN : (appd lim s r).n = cl lim s + 1 := wr_n _ _ _
  have hA := appd_A lim s r
  obtain ⟨hS1, hS2⟩ := appd_S lim s r
  have hgs : (appd lim s r).gs = W.folds (fun _ => W.new) (segPut lim s segs r).flatten := by
    rw [hfl, folds_snoc, ← h.gs]
    rfl
  have hck : W.Chks (fun _ => W.new) (segPut lim s segs r).flatten := by
    rw [hfl]
    exact chks_snoc _ _ _ h.chks (by rw [← h.gs]; exact hc)
  have hn0 := h.n
  have hcl := cl_le lim s
  by_cases e : cl lim s = s.n
  · have es : segPut lim s segs r = segs ++ [[r]] := by unfold segPut; rw [if_pos e]
    have ex : wx lim s (W.recB r) = W.head s.turn ++ W.recB r := by unfold wx; rw [if_pos e]
    have ea : ∀ i, i ≠ segs.length → (appd lim s r).A i = s.A i := fun i hi => by rw [hA, upd_other _ _ (by omega)]
    rw [es] at hgs hck ⊢
    refine ⟨by rw [hT]; exact h.tt, by rw [hN, e, hn0]; simp, fun i hi => ?_, fun l hl => ?_, hgs, hck, fun i hi hi2 => ?_, fun i hi hi2 hl => ?_⟩
    · rw [hT]
      by_cases q : i = segs.length
      · subst q
        rw [hA, e, hn0, upd_same, ex, h.files _ hi, ← segB_one]
        unfold imgA
        rw [List.getElem?_eq_none (Nat.le_refl _), List.getElem?_append_right (Nat.le_refl _), Nat.sub_self]
        rfl
      · rw [ea i q, h.files i hi]
        unfold imgA
        by_cases q2 : i < segs.length
        · rw [List.getElem?_append_left q2]
        · rw [List.getElem?_eq_none (by omega), List.getElem?_eq_none (by simp; omega)]
    · rw [List.mem_append] at hl
      rcases hl with hl | hl
      · exact h.full l hl
      · simp at hl
        subst hl
        simp
    · simp at hi
      by_cases z : ((appd lim s r).A (cl lim s)).length < lim
      · rw [hS1 z, ea i (by omega)]
        by_cases q : i + 1 = segs.length
        · refine h.sureL i q hi2 ?_
          unfold cl at e
          rw [if_neg (by omega)] at e
          rw [show i = s.n - 1 by omega]
          by_cases y : (s.A (s.n - 1)).length < lim
          · rw [if_pos y] at e; omega
          · omega
        · exact h.sure i (by omega) hi2
      · exact hS2 (by omega) i hi2
    · simp at hi
      refine hS2 ?_ i hi2
      rw [e, hn0, ← hi]
      exact hl
  · obtain ⟨D, l, rfl⟩ : ∃ D l, segs = D ++ [l] := by
      rcases List.eq_nil_or_concat segs with q | ⟨D, l, q⟩
      · exfalso
        rw [q] at hn0
        simp at hn0
        omega
      · exact ⟨D, l, by simpa using q⟩
    have hlen : s.n = D.length + 1 := by rw [hn0]; simp
    have ec : cl lim s = D.length := by
      unfold cl at e ⊢
      rw [if_neg (by omega)] at e ⊢
      by_cases y : (s.A (s.n - 1)).length < lim
      · rw [if_pos y]; omega
      · rw [if_neg y] at e; omega
    have es : segPut lim s (D ++ [l]) r = D ++ [l ++ [r]] := by unfold segPut; rw [if_neg e]; simp
    have ex : wx lim s (W.recB r) = W.recB r := by unfold wx; rw [if_neg e]
    have ea : ∀ i, i ≠ D.length → (appd lim s r).A i = s.A i := fun i hi => by rw [hA, upd_other _ _ (by omega)]
    rw [es] at hgs hck ⊢
    refine ⟨by rw [hT]; exact h.tt, by rw [hN, ec]; simp, fun i hi => ?_, fun x hx => ?_, hgs, hck, fun i hi hi2 => ?_, fun i hi hi2 hl => ?_⟩
    · rw [hT]
      by_cases q : i = D.length
      · subst q
        rw [hA, ec, upd_same, ex, h.files _ hi]
        unfold imgA
        rw [List.getElem?_append_right (Nat.le_refl _), List.getElem?_append_right (Nat.le_refl _), Nat.sub_self]
        exact (segB_snoc s.turn l r).symm
      · rw [ea i q, h.files i hi]
        unfold imgA
        by_cases q2 : i < D.length
        · rw [List.getElem?_append_left q2, List.getElem?_append_left q2]
        · rw [List.getElem?_eq_none (by simp; omega), List.getElem?_eq_none (by simp; omega)]
    · rw [List.mem_append] at hx
      rcases hx with hx | hx
      · exact h.full x (by simp [hx])
      · simp at hx
        subst hx
        simp
    · simp at hi
      by_cases z : ((appd lim s r).A (cl lim s)).length < lim
      · rw [hS1 z, ea i (by omega)]
        exact h.sure i (by simp; omega) hi2
      · exact hS2 (by omega) i hi2
    · simp at hi
      refine hS2 ?_ i hi2
      rw [ec, ← hi]
      exact hl

end Go.Proofs.Ytpfnkjfbhcffiaa

namespace Go.Proofs.Ytpfnkjfbhcffiaa
open Go.RowKit

theorem AllV.carry {w w' : World} {v : Value} {g : Nat} {S : Nat → W.Sv} {E : Nat → Value} (h : AllV w v g S E) (hs : w.heap.size ≤ w'.heap.size) (hg : w'.heap[g]? = w.heap[g]?) (he : ∀ i, i < 9 → ∀ k, readBlk (E i) = some k → w'.heap[k]? = w.heap[k]?) : AllV w' v g S E := by
  have hc : ∀ j, w'.cell? ⟨g, j, none⟩ = w.cell? ⟨g, j, none⟩ := fun j => World.cell?_of_block (a := ⟨g, j, none⟩) hg
  have hf : ∀ j, w'.frozen? ⟨g, j, none⟩ = w.frozen? ⟨g, j, none⟩ := fun j => World.frozen?_of_block (a := ⟨g, j, none⟩) hg
  refine ⟨h.form, Nat.lt_of_lt_of_le h.lt hs, fun i hi => ?_, fun i hi => (h.ent i hi).carry (he i hi), h.sep, fun j => by rw [hf]; exact h.free j⟩
  rw [hc, hc, hc, hc, hc, hc]
  exact h.cell i hi

theorem crTo_sure (t : UInt8) (A : Nat → List UInt8) (S : Nat → Nat) (K : List Int) (h : ∀ i, i < 256 → S i = (A i).length) : ∀ n, n ≤ 256 → crTo t ⟨A, S, K⟩ n = ⟨A, S, K⟩
  | 0, _ => rfl
  | n + 1, hn => by
    rw [crTo, crTo_sure t A S K h n (by omega), crStep, if_pos (h n (by omega)).symm]

/-- Nothing is compacted; all terms are 1. -/
def Ones (s : W.Sv) : Prop := s.base = 0 ∧ s.bterm = 0 ∧ ∀ e ∈ s.ents, e.1 = 1

theorem Ones.new : Ones W.new := ⟨rfl, rfl, fun e he => by simp [W.new] at he⟩

theorem Ones.fits {s : W.Sv} (h : Ones s) (r : W.Rec) (hi : r.index = 1 + (s.ents.length : Int)) (ht : r.term = 1) : W.fitsEntry s r = true := by
  obtain ⟨h1, h2, h3⟩ := h
  unfold W.fitsEntry W.termAt W.last
  rw [hi, ht, h1, h2]
  have e : (1 + (s.ents.length : Int) == 0 + (s.ents.length : Int) + 1) = true := by simp; omega
  rw [e, Bool.true_and]
  apply decide_eq_true
  split
  · omega
  · cases hx : s.ents[(0 + (s.ents.length : Int) - 0 - 1).toNat]? with
    | none => show (0 : Int) ≤ 1; omega
    | some x =>
      show x.1 ≤ 1
      rw [h3 x (List.mem_of_getElem? hx)]
      omega

theorem Ones.entry {s : W.Sv} (h : Ones s) (r : W.Rec) (hk : r.kind = 2) (ht : r.term = 1) : Ones (W.fold s r) := by
  obtain ⟨h1, h2, h3⟩ := h
  unfold W.fold
  rw [if_neg (by omega), if_pos hk]
  unfold W.doEntry
  refine ⟨h1, h2, fun e he => ?_⟩
  rw [List.mem_append] at he
  rcases he with he | he
  · exact h3 e he
  · simp at he
    rw [he]
    exact ht

/-- The log, and all groups' saved beside it. -/
structure Fu (w X : World) (p : Pl) (v : Value) (g : Nat) (s : St) (segs : List (List W.Rec)) (own : Nat → Prop) (S : Nat → W.Sv) (E : Nat → Value) : Prop where
  lg : Lg X p s own
  all : AllV X v g S E
  ng : ¬ own g
  ne : ∀ i, i < 9 → ∀ k, readBlk (E i) = some k → ¬ own k
  mine : ∀ k, own k → w.heap.size ≤ k
  ge : w.heap.size ≤ g
  old : Below w.heap.size w X
  inv : Inv p.limit s segs
  ones : ∀ i, i < 9 → Ones (s.gs i)

theorem Fu.below {w X Y : World} {p : Pl} {v : Value} {g : Nat} {s : St} {segs : List (List W.Rec)} {own : Nat → Prop} {S : Nat → W.Sv} {E : Nat → Value} (h : Fu w X p v g s segs own S E) (hb : Below X.heap.size X Y) : Fu w Y p v g s segs own S E :=
  ⟨h.lg.below hb, h.all.below hb, h.ng, h.ne, h.mine, h.ge, h.old.trans (hb.mono h.old.size), h.inv, h.ones⟩

/-- A call of the log that keeps what it does not own. -/
theorem Fu.call {w X Y : World} {p : Pl} {v : Value} {g : Nat} {s s' : St} {segs segs' : List (List W.Rec)} {own : Nat → Prop} {S : Nat → W.Sv} {E : Nat → Value} (h : Fu w X p v g s segs own S E) (ha : Aft own X Y p s') (hi : Inv p.limit s' segs') (ho : ∀ i, i < 9 → Ones (s'.gs i)) : Fu w Y p v g s' segs' (sinceS own X Y) S E := by
  have hs := ha.2.size
  refine ⟨ha.1, h.all.carry hs (ha.2.block g h.all.lt h.ng) (fun i hi k hk => ha.2.block k ((h.all.ent i hi).lt hk) (h.ne i hi k hk)), fun e => ?_, fun i hi k hk e => ?_, fun k e => ?_, h.ge, ?_, hi, ho⟩
  · have := h.all.lt
    rcases e with e | e
    · exact h.ng e
    · omega
  · have := (h.all.ent i hi).lt hk
    rcases e with e | e
    · exact h.ne i hi k hk e
    · omega
  · have := h.old.size
    rcases e with e | e
    · exact h.mine k e
    · omega
  · exact h.old.trans (ha.2.below h.mine h.old.size)

/-- One group's saved is set anew. -/
theorem Fu.put {w X : World} {p : Pl} {v : Value} {g : Nat} {s : St} {segs : List (List W.Rec)} {own : Nat → Prop} {S : Nat → W.Sv} {E : Nat → Value} (h : Fu w X p v g s segs own S E) {i : Nat} (hi : i < 9) {t : W.Sv} {e : Value} (he : EntR X e t.ents) (hg : readBlk e ≠ some g) (hn : ∀ k, readBlk e = some k → ¬ own k) :
    Fu w (set6 X g (i * 6) (.int .i64 t.term) (.int .i64 t.vote) (.int .i64 t.base) (.int .i64 t.bterm) (.string t.data) e) p v g s segs own (upd S i t) (upd E i e) := by
  refine ⟨h.lg.carry (by rw [set6_size]; exact Nat.le_refl _) (fun k hk => set6_heap (fun e => h.ng (e ▸ hk))), h.all.put hi he hg, h.ng, fun j hj k hk => ?_, h.mine, h.ge, ?_, h.inv, h.ones⟩
  · by_cases q : j = i
    · subst q
      rw [upd_same] at hk
      exact hn k hk
    · rw [upd_other E e q] at hk
      exact h.ne j hj k hk
  · have hb := h.old
    unfold set6
    exact (((((hb.setCell (p := ⟨g, i * 6, none⟩) h.ge _).setCell (p := ⟨g, i * 6 + 1, none⟩) h.ge _).setCell (p := ⟨g, i * 6 + 2, none⟩) h.ge _).setCell (p := ⟨g, i * 6 + 3, none⟩) h.ge _).setCell (p := ⟨g, i * 6 + 4, none⟩) h.ge _).setCell (p := ⟨g, i * 6 + 5, none⟩) h.ge _

theorem ints_nil {w : World} {g : Nat} : Ints w g (.slice none 0 0) [] := ⟨none, 0, rfl, Nat.le_refl _, by omega, fun x hx => by simp at hx, .inl rfl⟩

/-- The disk under a log crashes, all bytes being sure. -/
theorem crash_log {w : World} {p : Pl} {s : St} {own : Nat → Prop} (h : Lg w p s own) (hs : ∀ i, i < 256 → s.S i = (s.A i).length) :
    Calls Try.prog 20 #[.pointer (some ⟨p.b, 0, none⟩), .slice none 0 0, .int .i64 0] w fun e w' => e = .returned (.int .i64 0) ∧ ∃ dk, Dk w' p.b p.room s.A s.S dk ∧ (∀ k, dk k → k < w'.heap.size) ∧ (∀ k, dk k → own k ∨ w.heap.size ≤ k) ∧ own p.b ∧ KeptS own w w' := by
  obtain ⟨dk, E, h⟩ := h
  have e := crTo_sure (lowByte 0) s.A s.S [] hs 256 (Nat.le_refl _)
  have hc := Crash_yes h.disk 0 (.slice none 0 0) [] 0 ints_nil (fun e => absurd rfl e)
  generalize crTo (lowByte 0) ⟨s.A, s.S, []⟩ 256 = c at e hc
  subst e
  refine hc.mono ?_
  rintro e w' ⟨rfl, hd, hk⟩
  refine ⟨rfl, _, hd.tighter', fun k hk => hk.2, fun k hk => ?_, h.ob, KeptS.ofKept hk h.ob h.od⟩
  rcases hk.1 with e | e
  · exact .inl (h.od k e)
  · exact .inr e

/-- The record of an entry of zeros. -/
def rc (gi n m : Nat) : W.Rec := ⟨(gi : Int), 2, 1 + (n : Int), 1, 0, ⟨(List.replicate m (0 : UInt8)).toArray⟩⟩

theorem rc_chk {gs : Nat → W.Sv} {gi n m : Nat} (hg : gi < 9) (h : Ones (gs gi)) (hn : n = (gs gi).ents.length) (hn2 : n ≤ 1000) (hm : m ≤ 255) : W.chk gs (rc gi n m) = 0 := by
  have hf : W.fits (gs gi) (rc gi n m) = true := by
    unfold W.fits
    rw [if_neg (show ¬ (rc gi n m).kind = 1 by show ¬ (2 : Int) = 1; omega), if_pos (show (rc gi n m).kind = 2 from rfl)]
    exact h.fits _ (by rw [← hn]; rfl) rfl
  have hmay : W.may (rc gi n m) = true := by
    have hsz : (⟨(List.replicate m (0 : UInt8)).toArray⟩ : ByteArray).size = m := by simp [ByteArray.size]
    have e1 : decide ((0 : Int) ≤ (gi : Int)) = true := decide_eq_true (by omega)
    have e2 : decide ((gi : Int) < 9) = true := decide_eq_true (by omega)
    have e3 : decide ((1 : Int) ≤ 1 + (n : Int)) = true := decide_eq_true (by omega)
    have e4 : decide ((0 : Int) ≤ 1 + (n : Int)) = true := decide_eq_true (by omega)
    have e5 : decide (1 + (n : Int) ≤ 1099511627776) = true := decide_eq_true (by omega)
    have e6 : decide (m ≤ 131072) = true := decide_eq_true (by omega)
    unfold W.may W.isGroup W.mayK rc
    dsimp only
    rw [e1, e2, if_neg (by omega), if_pos rfl]
    unfold W.mayEntry W.mayBase W.ix
    dsimp only
    rw [e3, e4, e5, hsz, e6]
    rfl
  unfold W.chk
  rw [if_pos hmay]
  have : (rc gi n m).group.toNat = gi := by show ((gi : Int)).toNat = gi; omega
  rw [this, if_pos hf]

/-- A record that fits: appended, or refused as the disk is full. -/
theorem Fu.append {w X : World} {p : Pl} {v : Value} {g : Nat} {s : St} {segs : List (List W.Rec)} {own : Nat → Prop} {S : Nat → W.Sv} {E : Nat → Value} (h : Fu w X p v g s segs own S E) (r : W.Rec) (hc : W.chk s.gs r = 0) (hn : s.n < 200) (ho : ∀ i, i < 9 → Ones (W.doR s.gs r i)) :
    Calls Try.prog 13 #[.pointer (some ⟨p.L, 0, none⟩), recV r] X fun e w' => ∃ s' segs' own', Fu w w' p v g s' segs' own' S E ∧ KeptS own X w' ∧ ((e = .returned (.int .i64 30) ∧ s'.gs = s.gs ∧ s'.n = s.n) ∨ (e = .returned (.int .i64 0) ∧ s'.gs = W.doR s.gs r ∧ s'.n ≤ s.n + 1)) := by
  have hcl := cl_le p.limit s
  by_cases hfit : tot s.A + (wx p.limit s (W.recB r)).size ≤ p.room
  · refine (Append_yes h.lg r hc hfit (by omega)).mono ?_
    rintro e w' ⟨rfl, ha⟩
    have hN : (appd p.limit s r).n = cl p.limit s + 1 := wr_n _ _ _
    exact ⟨_, _, _, h.call ha (h.inv.step r hc (by omega)) ho, ha.2, .inr ⟨rfl, rfl, by omega⟩⟩
  · refine (Append_full h.lg r hc (by omega)).mono ?_
    rintro e w' ⟨rfl, hb⟩
    exact ⟨_, _, _, h.below hb, KeptS.ofBelow hb, .inl ⟨rfl, rfl, rfl⟩⟩

/-- The document's folding of an entry of term 1. -/
theorem Fu.fold {w X : World} {p : Pl} {v : Value} {g : Nat} {s : St} {segs : List (List W.Rec)} {own : Nat → Prop} {S : Nat → W.Sv} {E : Nat → Value} (h : Fu w X p v g s segs own S E) {gi n m : Nat} (hg : gi < 9) (ok : W.Ok (S gi)) (hS : Ones (S gi)) (hn : n = (S gi).ents.length) (hn2 : n ≤ 1000) :
    Calls Try.prog 14 #[savV (S gi) (E gi), recV (rc gi n m)] X fun e w' => ∃ p' c', e = .returned (.tuple #[.agg #[.int .i64 (S gi).term, .int .i64 (S gi).vote, .int .i64 (S gi).base, .int .i64 (S gi).bterm, .string (S gi).data, .slice p' (n + 1) c'], .bool true]) ∧ Below X.heap.size X w' ∧ Fu w (set6 w' g (gi * 6) (.int .i64 (S gi).term) (.int .i64 (S gi).vote) (.int .i64 (S gi).base) (.int .i64 (S gi).bterm) (.string (S gi).data) (.slice p' (n + 1) c')) p v g s segs own (upd S gi (W.fold (S gi) (rc gi n m))) (upd E gi (.slice p' (n + 1) c')) := by
  have hk : (rc gi n m).kind = 2 := rfl
  have hf : W.fitsEntry (S gi) (rc gi n m) = true := hS.fits _ (by rw [← hn]; rfl) rfl
  have ef : W.fits (S gi) (rc gi n m) = true := by unfold W.fits; rw [if_neg (by omega), if_pos hk]; exact hf
  have ed : W.fold (S gi) (rc gi n m) = W.doEntry (S gi) (rc gi n m) := by unfold W.fold; rw [if_neg (by omega), if_pos hk]
  refine (refFold2 (h.all.ent gi hg) ok (rc gi n m) hk hf (by show 1 + (n : Int) ≤ _; omega)).mono ?_
  rintro e w' ⟨v', he, hE, hb, hq⟩
  rw [ef, if_pos rfl, ed] at he hE
  rw [ed]
  obtain ⟨p', c', hv, _⟩ := id hE
  have hl : (W.doEntry (S gi) (rc gi n m)).ents.length = n + 1 := by unfold W.doEntry; simp [hn]
  rw [hl] at hv
  subst hv
  refine ⟨p', c', he, hb, ?_⟩
  have hq1 : ∀ q, readBlk (.slice p' (n + 1) c') = some q → q ≠ g ∧ ¬ own q := by
    intro q e
    rcases hq q e with e | e
    · exact ⟨fun e2 => h.all.sep gi hg (e2 ▸ e), h.ne gi hg q e⟩
    · have := h.all.lt
      exact ⟨by omega, fun e2 => by have := h.lg.here q e2; omega⟩
  exact (h.below hb).put hg (t := W.doEntry (S gi) (rc gi n m)) hE (fun e => (hq1 g e).1 rfl) (fun k e => (hq1 k e).2)

/-- What the log says is what the document says. -/
theorem Fu.told {w X : World} {p : Pl} {v : Value} {g : Nat} {s : St} {segs : List (List W.Rec)} {own : Nat → Prop} {S : Nat → W.Sv} {E : Nat → Value} (h : Fu w X p v g s segs own S E) (he : ∀ i, i < 9 → s.gs i = S i) :
    Calls Try.prog 19 #[.pointer (some ⟨p.L, 0, none⟩), v] X fun e w' => e = .returned (.bool true) ∧ Fu w w' p v g s segs own S E := by
  refine (told_c h.lg h.all).mono ?_
  rintro e w' ⟨b, rfl, h1, hb⟩
  rw [h1 he]
  exact ⟨rfl, h.below hb⟩

/-- A record's block, laid since w. -/
structure Rb (w u : World) (q : Nat) (R : Array Value) : Prop where
  old : Below w.heap.size w u
  ge : w.heap.size ≤ q
  lt : q < u.heap.size
  cell : ∀ j, u.cell? ⟨q, j, none⟩ = R[j]?

theorem Rb.second (w : World) (o : Obj) (R : Array Value) (t : TypeId) : Rb w ((w.alloc o).alloc (.cells R t)).drew (w.heap.size + 1) R := by
  refine ⟨((below_alloc _ _).trans ((below_alloc _ _).mono (by simp))).drew, by omega, ?_, fun j => ?_⟩
  · show _ < ((w.alloc o).alloc (.cells R t)).heap.size
    simp
  · show ((w.alloc o).alloc (.cells R t)).cell? _ = _
    have e := World.cell?_alloc_mark (w.alloc o) R t (0, 0) j
    rw [← e]
    simp

theorem Rb.first (w : World) (o : Obj) (R : Array Value) (t : TypeId) : Rb w ((w.alloc (.cells R t)).alloc o).drew w.heap.size R := by
  refine ⟨((below_alloc _ _).trans ((below_alloc _ _).mono (by simp))).drew, by omega, ?_, fun j => ?_⟩
  · show _ < ((w.alloc (.cells R t)).alloc o).heap.size
    simp
    omega
  · show ((w.alloc (.cells R t)).alloc o).cell? _ = _
    rw [World.cell?_alloc_lt _ _ _ (by simp)]
    exact World.cell?_alloc_mark w R t (0, 0) j

theorem Rb.six {w u : World} {q : Nat} {a0 a1 a2 a3 a4 a5 : Value} (h : Rb w u q #[a0, a1, a2, a3, a4, a5]) : u.cell? ⟨q, 0, none⟩ = some a0 ∧ u.cell? ⟨q, 1, none⟩ = some a1 ∧ u.cell? ⟨q, 2, none⟩ = some a2 ∧ u.cell? ⟨q, 3, none⟩ = some a3 ∧ u.cell? ⟨q, 4, none⟩ = some a4 ∧ u.cell? ⟨q, 5, none⟩ = some a5 :=
  ⟨h.cell 0, h.cell 1, h.cell 2, h.cell 3, h.cell 4, h.cell 5⟩

theorem Rb.kept {w u u' : World} {q : Nat} {R : Array Value} (h : Rb w u q R) {own : Nat → Prop} (hk : KeptS own u u') (ho : ∀ k, own k → k < w.heap.size) : ∀ j, u'.cell? ⟨q, j, none⟩ = R[j]? := fun j => by
  rw [hk.cell h.lt (fun e => by have := ho q e; have := h.ge; omega) j]
  exact h.cell j

theorem Inv.synced {lim : Nat} {s : St} {segs : List (List W.Rec)} (h : Inv lim s segs) : Inv lim { s with S := fun i => if i < 256 then (s.A i).length else s.S i } segs :=
  ⟨h.tt, h.n, h.files, h.full, h.gs, h.chks, fun _ _ hi => if_pos hi, fun _ _ hi _ => if_pos hi⟩

theorem Fu.sync {w X : World} {p : Pl} {v : Value} {g : Nat} {s : St} {segs : List (List W.Rec)} {own : Nat → Prop} {S : Nat → W.Sv} {E : Nat → Value} (h : Fu w X p v g s segs own S E) :
    Calls Try.prog 15 #[.pointer (some ⟨p.L, 0, none⟩)] X fun e w' => e = .returned (.int .i64 0) ∧ ∃ s' own', Fu w w' p v g s' segs own' S E ∧ s'.gs = s.gs ∧ s'.n = s.n ∧ ∀ i, i < 256 → s'.S i = (s'.A i).length := by
  refine (Sync_c h.lg).mono ?_
  rintro e w' ⟨rfl, ha⟩
  exact ⟨rfl, _, _, h.call ha h.inv.synced h.ones, rfl, rfl, fun i hi => if_pos hi⟩

/-- A disk, and all groups' saved beside it. -/
structure CrA (w X : World) (p : Pl) (v : Value) (g : Nat) (s : St) (segs : List (List W.Rec)) (S : Nat → W.Sv) (E : Nat → Value) (dk : Nat → Prop) : Prop where
  disk : Dk X p.b p.room s.A s.S dk
  here : ∀ k, dk k → k < X.heap.size
  mine : ∀ k, k = p.b ∨ dk k → w.heap.size ≤ k
  all : AllV X v g S E
  ng : ¬ (g = p.b ∨ dk g)
  ne : ∀ i, i < 9 → ∀ k, readBlk (E i) = some k → ¬ (k = p.b ∨ dk k)
  old : Below w.heap.size w X
  inv : Inv p.limit s segs

theorem Fu.crash {w X : World} {p : Pl} {v : Value} {g : Nat} {s : St} {segs : List (List W.Rec)} {own : Nat → Prop} {S : Nat → W.Sv} {E : Nat → Value} (h : Fu w X p v g s segs own S E) (hs : ∀ i, i < 256 → s.S i = (s.A i).length) :
    Calls Try.prog 20 #[.pointer (some ⟨p.b, 0, none⟩), .slice none 0 0, .int .i64 0] X fun e w' => e = .returned (.int .i64 0) ∧ ∃ dk, CrA w w' p v g s segs S E dk := by
  refine (crash_log h.lg hs).mono ?_
  rintro e w' ⟨rfl, dk, hd, hlt, hdk, hob, hk⟩
  have hsz := h.old.size
  have hgl := h.all.lt
  have hbl := h.lg.here _ hob
  refine ⟨rfl, dk, hd, hlt, ?_, h.all.carry hk.size (hk.block g hgl h.ng) (fun i hi k q => hk.block k ((h.all.ent i hi).lt q) (h.ne i hi k q)), ?_, ?_, h.old.trans (hk.below h.mine hsz), h.inv⟩
  · rintro k (e | e)
    · rw [e]; exact h.mine _ hob
    · rcases hdk k e with e | e
      · exact h.mine k e
      · omega
  · rintro (e | e)
    · exact h.ng (e ▸ hob)
    · rcases hdk g e with e | e
      · exact h.ng e
      · omega
  · intro i hi k q e
    have hkl := (h.all.ent i hi).lt q
    rcases e with e | e
    · exact h.ne i hi k q (e ▸ hob)
    · rcases hdk k e with e | e
      · exact h.ne i hi k q e
      · omega

theorem CrA.reopen {w X : World} {p : Pl} {v : Value} {g : Nat} {s : St} {segs : List (List W.Rec)} {S : Nat → W.Sv} {E : Nat → Value} {dk : Nat → Prop} (h : CrA w X p v g s segs S E dk) (hn : s.n < 200) (lim : Nat) (hl : 1 ≤ lim ∧ lim ≤ 16777216) :
    Calls Try.prog 8 #[.pointer (some ⟨p.b, 0, none⟩), .int .i64 (lim : Int)] X fun e w' => ∃ p2 s2 own2, e = .returned (.tuple #[.pointer (some ⟨p2.L, 0, none⟩), .int .i64 0]) ∧ Lg w' p2 s2 own2 ∧ AllV w' v g S E ∧ (∀ i, s2.gs i = s.gs i) ∧ Below w.heap.size w w' := by
  refine (Open_c h.disk h.here lim hl (h.inv.disky (by rw [← h.inv.n]; exact hn) (fun _ _ => rfl))).mono ?_
  rintro e w' ⟨rfl, s2, ho⟩
  have hk := ho.aft.2
  refine ⟨_, s2, _, rfl, ho.aft.1, h.all.carry hk.size (hk.block g h.all.lt h.ng) (fun i hi k q => hk.block k ((h.all.ent i hi).lt q) (h.ne i hi k q)), fun i => ?_, h.old.trans (hk.below h.mine h.old.size)⟩
  rw [ho.gs, h.inv.gs]
  rfl

end Go.Proofs.Ytpfnkjfbhcffiaa

namespace Go.Proofs.Ytpfnkjfbhcffiaa
open Go.ChangeShapes Go.WideShapes Go.ChangeAt Go.RowKit Go.Deep

/-- The slice v holds elements, so many cells each, the cells by f. -/
def Elems {α : Type} (w : World) (K : Nat) (f : α → List Value) (good : α → Prop) (v : Value) (l : List α) : Prop :=
  ∃ ao c, v = .slice ao l.length c ∧ l.length ≤ c ∧ c ≤ maxLen ∧ (∀ x ∈ l, good x) ∧ (l = [] ∨ ∃ g o, ao = some ⟨g, o, none⟩ ∧ g < w.heap.size ∧ ∀ j x, l[j]? = some x → ∀ q u, (f x)[q]? = some u → w.cell? ⟨g, o + j * K + q, none⟩ = some u)

theorem Elems.below {α : Type} {w w' : World} {K : Nat} {f : α → List Value} {good : α → Prop} {v : Value} {l : List α} (h : Elems w K f good v l) (hb : ∀ k, k < w.heap.size → w'.heap[k]? = w.heap[k]?) (hs : w.heap.size ≤ w'.heap.size) : Elems w' K f good v l := by
  obtain ⟨ao, c, h1, h2, h3, h4, h5 | ⟨g, o, h6, h7, h8⟩⟩ := h
  · exact ⟨ao, c, h1, h2, h3, h4, .inl h5⟩
  · refine ⟨ao, c, h1, h2, h3, h4, .inr ⟨g, o, h6, Nat.lt_of_lt_of_le h7 hs, fun j x hj q u hu => ?_⟩⟩
    rw [World.cell?_of_block (a := ⟨g, o + j * K + q, none⟩) (hb g h7)]
    exact h8 j x hj q u hu

section
variable {H : Type} {enc : TypeId × Value → H} {w : World} {base : Nat} {sp : Nat → Bool} {held : Bool}

set_option maxRecDepth 100000 in
/-- A slice argument, opened. -/
theorem open_elems {α : Type} {t e : TypeId} {K : Nat} {f : α → List Value} {good : α → Prop} (hK : 0 < K) (hf0 : ∀ x, (f x).length = K) (ht : Try.prog.underlying t = some (.slice e)) (hce : Try.prog.cellsOf e = K)
    (hof : ∀ (fuel : Nat) (cs : List Value) (x : DataW H × List MemPlace), cs.length = K → DataW.trod enc Try.prog w base sp held fuel e cs = some x → ∃ y, cs = f y ∧ good y)
    {r : Reach} {b0 : Nat} {v : Value} {d : DataW H} {p : List MemPlace} (hv : Value.okWide Try.prog w r b0 t v) (h : DataW.Trod enc Try.prog w base sp held t v d p) : ∃ l, Elems w K f good v l := by
  obtain ⟨a0, len, cap, rfl⟩ := okWide_slice ht hv
  obtain ⟨fuel, hf⟩ := h
  rcases open_slice ht hf with ⟨hcs, _⟩ | ⟨a, len', cap', m, n, D, Pl, hcs, _, hl, hm, hmm, _, hx⟩
  · simp [Value.cells] at hcs
    obtain ⟨rfl, rfl, rfl⟩ := hcs
    exact ⟨[], none, 0, rfl, Nat.le_refl _, by unfold maxLen; omega, fun _ h => (by cases h), .inl rfl⟩
  · simp [Value.cells] at hcs
    obtain ⟨rfl, rfl, rfl⟩ := hcs
    have hlm : len ≤ m := by rw [hmm]; split <;> omega
    have key : ∀ j, j < len → ∃ y, good y ∧ ∀ q u, (f y)[q]? = some u → w.cell? (a.add (j * K + q)) = some u := by
      intro j hj
      obtain ⟨cs', h1, h2⟩ := hx j (by omega)
      rw [hce] at h1
      obtain ⟨_, hlen, hcell⟩ := World.cells?_some h1
      obtain ⟨y, hy, hin⟩ := hof _ _ _ hlen h2
      subst hy
      refine ⟨y, hin, fun q u hu => ?_⟩
      have hq := (List.getElem?_eq_some_iff.1 hu).1
      have := hcell q (by rw [← hlen]; exact hq)
      rw [add_add] at this
      rw [this]
      first
        | exact hu
        | (rw [← hu]; simp)
        | (simpa using hu)
    obtain ⟨l, hll, hlk⟩ : ∃ l : List α, l.length = len ∧ ∀ j y, l[j]? = some y → good y ∧ ∀ q u, (f y)[q]? = some u → w.cell? (a.add (j * K + q)) = some u := by
      have : ∀ n, n ≤ len → ∃ l : List α, l.length = n ∧ ∀ j y, l[j]? = some y → good y ∧ ∀ q u, (f y)[q]? = some u → w.cell? (a.add (j * K + q)) = some u := by
        intro n
        induction n with
        | zero => intro _; exact ⟨[], rfl, fun j y q => by simp at q⟩
        | succ n ih =>
          intro hn
          obtain ⟨l, h1, h2⟩ := ih (by omega)
          obtain ⟨y, hy⟩ := key n (by omega)
          refine ⟨l ++ [y], by simp [h1], fun j z q => ?_⟩
          by_cases e : j < l.length
          · rw [List.getElem?_append_left e] at q
            exact h2 j z q
          · have e2 : j = n := by
              have := (List.getElem?_eq_some_iff.1 q).1
              rw [List.length_append] at this
              simp at this
              omega
            subst e2
            rw [← h1] at q
            simp at q
            subst q
            rw [← h1] at hy
            rw [← h1]
            exact hy
      exact this len (Nat.le_refl _)
    refine ⟨l, some a, cap, by rw [hll], by omega, hm, fun x hx => ?_, ?_⟩
    · obtain ⟨j, hj⟩ := List.getElem?_of_mem hx
      exact (hlk j x hj).1
    · rcases Nat.eq_zero_or_pos len with h0 | h0
      · exact .inl (List.eq_nil_of_length_eq_zero (by omega))
      · right
        obtain ⟨b, off, spot⟩ := a
        obtain ⟨y0, _, k0⟩ := key 0 h0
        have k0 := k0 0 _ (List.getElem?_eq_getElem (by rw [hf0]; exact hK))
        have hspot : spot = none := by simpa [Addr.add] using World.cell?_spot k0
        subst hspot
        refine ⟨b, off, rfl, ?_, fun j y hj q u hu => ?_⟩
        · have := World.block_lt_of_cell? _ _ k0
          simpa [Addr.add] using this
        · have := (hlk j y hj).2 q u hu
          simp only [add_plain] at this
          rw [Nat.add_assoc]
          exact this

def IntIn (n : Int) : Prop := -9223372036854775808 ≤ n ∧ n ≤ 9223372036854775807

set_option maxRecDepth 100000 in
theorem open_ints6 {r : Reach} {b0 : Nat} {v : Value} {d : DataW H} {p : List MemPlace} (hv : Value.okWide Try.prog w r b0 53 v) (h : DataW.Trod enc Try.prog w base sp held 53 v d p) :
    ∃ l, Elems w 1 (fun x : Int => [.int .i64 x]) IntIn v l := by
  refine open_elems (K := 1) (by omega) (fun _ => rfl) Try.underlying53 (by kernel_rfl) (fun fuel cs x hl h => ?_) hv h
  match cs, hl with
  | [v0], _ =>
    obtain ⟨n0, q0, _, w0⟩ := DataW.trod_int Try.underlying3 h
    simp at q0
    subst q0
    refine ⟨n0, rfl, ?_⟩
    unfold IntIn
    simpa [Lit.wf, IntKind.min, IntKind.max, IntKind.signed, IntKind.bits] using w0

end
end Go.Proofs.Ytpfnkjfbhcffiaa
