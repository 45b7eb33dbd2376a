/-
  Lists that are read, plain; messages and replies.
-/
import Derived.Test.YtgkcchbignakcaaCmRz
import Derived.Test.YtgkcchbignakcaaCmFromM
import Derived.Test.YtgkcchbignakcaaCmFromW
import Derived.Test.YtgkcchbignakcaaCmEls
namespace Go.Proofs.Ytgkcchbignakcaa
open Go.RowKit

def entX (x : Option (List UInt8)) : Option (List UInt8) := textX (numX x)
def entsX : Nat → Option (List UInt8) → Option (List UInt8)
  | 0, x => x
  | k + 1, x => entX (entsX k x)
def entsV : Nat → Option (List UInt8) → List (Int × ByteArray)
  | 0, _ => []
  | k + 1, x => entsV k x ++ [(numV (entsX k x), textV (numX (entsX k x)))]
def postX (x : Option (List UInt8)) : Option (List UInt8) := textX (textX x)
def postsX : Nat → Option (List UInt8) → Option (List UInt8)
  | 0, x => x
  | k + 1, x => postX (postsX k x)
def postsV : Nat → Option (List UInt8) → List (ByteArray × ByteArray)
  | 0, _ => []
  | k + 1, x => postsV k x ++ [(textV (postsX k x), textV (textX (postsX k x)))]
def entCs (l : List (Int × ByteArray)) : List Value := (l.map fun e => [Value.int .i64 e.1, Value.string e.2]).flatten
def postCs (l : List (ByteArray × ByteArray)) : List Value := (l.map fun e => [Value.string e.1, Value.string e.2]).flatten
theorem entCs_snoc (l : List (Int × ByteArray)) (e : Int × ByteArray) : entCs (l ++ [e]) = entCs l ++ [Value.int .i64 e.1, Value.string e.2] := by simp [entCs]
theorem postCs_snoc (l : List (ByteArray × ByteArray)) (e : ByteArray × ByteArray) : postCs (l ++ [e]) = postCs l ++ [Value.string e.1, Value.string e.2] := by simp [postCs]
theorem entsV_len : ∀ k x, (entsV k x).length = k
  | 0, _ => rfl
  | k + 1, x => by rw [entsV, List.length_append, entsV_len k x]; rfl
theorem postsV_len : ∀ k x, (postsV k x).length = k
  | 0, _ => rfl
  | k + 1, x => by rw [postsV, List.length_append, postsV_len k x]; rfl
theorem entsX_none : ∀ k, entsX k none = none
  | 0 => rfl
  | k + 1 => by
    have h1 : numX none = none := by rw [← numX_most]; exact stepX_none (.n Cm.mI)
    rw [entsX, entsX_none k]
    unfold entX
    rw [h1]
    exact stepX_none .t
theorem entX_none : entX none = none := entsX_none 1
theorem postX_none : postX none = none := by unfold postX; rw [show textX none = none from stepX_none .t]; exact stepX_none .t
theorem entsX_stop : ∀ (n k : Nat) (x : Option (List UInt8)), k ≤ n → entsX k x = none → entsX n x = none
  | 0, k, x, hk, h => by obtain rfl : k = 0 := by omega
                         exact h
  | n + 1, k, x, hk, h => by
    by_cases e : k = n + 1
    · rw [← e]; exact h
    · rw [entsX, entsX_stop n k x (by omega) h, entX_none]
theorem postsX_stop : ∀ (n k : Nat) (x : Option (List UInt8)), k ≤ n → postsX k x = none → postsX n x = none
  | 0, k, x, hk, h => by obtain rfl : k = 0 := by omega
                         exact h
  | n + 1, k, x, hk, h => by
    by_cases e : k = n + 1
    · rw [← e]; exact h
    · rw [postsX, postsX_stop n k x (by omega) h, postX_none]

theorem rep_snoc (ks : List Cm.K) (k : Nat) : (List.replicate (k + 1) ks).flatten = (List.replicate k ks).flatten ++ ks := by
  rw [List.replicate_succ', List.flatten_append]
  simp
theorem ents_runX : ∀ (k : Nat) (x : Option (List UInt8)), runX (List.replicate k ksEnt).flatten x = entsX k x
  | 0, _ => rfl
  | k + 1, x => by
    rw [rep_snoc, runX_app, ents_runX k x, entsX]
    simp only [ksEnt, runX, stepX, numX_most]
    rfl
theorem ents_runV : ∀ (k : Nat) (x : Option (List UInt8)), runV (List.replicate k ksEnt).flatten x = ((entsV k x).map fun e => [nf e.1, tf e.2]).flatten
  | 0, _ => rfl
  | k + 1, x => by
    rw [rep_snoc, runV_app, ents_runV k x, ents_runX k x, entsV, List.map_append, List.flatten_append]
    simp only [ksEnt, runV, stepX, stepV, numX_most, numV_most]
    rfl
theorem posts_runX : ∀ (k : Nat) (x : Option (List UInt8)), runX (List.replicate k ksPost).flatten x = postsX k x
  | 0, _ => rfl
  | k + 1, x => by
    rw [rep_snoc, runX_app, posts_runX k x, postsX]
    rfl
theorem posts_runV : ∀ (k : Nat) (x : Option (List UInt8)), runV (List.replicate k ksPost).flatten x = ((postsV k x).map fun e => [tf e.1, tf e.2]).flatten
  | 0, _ => rfl
  | k + 1, x => by
    rw [rep_snoc, runV_app, posts_runV k x, posts_runX k x, postsV, List.map_append, List.flatten_append]
    rfl
theorem kOk_rep {ks : List Cm.K} (h : kOk ks) (n : Nat) : kOk (List.replicate n ks).flatten := fun k hk m e => by
  rw [List.mem_flatten] at hk
  obtain ⟨l, hl, hk⟩ := hk
  rw [(List.mem_replicate.1 hl).2] at hk
  exact h k hk m e
theorem ksEnt_ok : kOk ksEnt := fun k hk m e => by
  subst e
  have : m = Cm.mI := by simpa [ksEnt] using hk
  rw [this]
  exact Nat.le_refl _
theorem ksPost_ok : kOk ksPost := fun k hk m e => by
  subst e
  simp [ksPost] at hk

/-- How many there are. -/
def cnt (m : Nat) (x : Option (List UInt8)) : Nat := (mostV m x).toNat
theorem cnt_v (m : Nat) (x : Option (List UInt8)) : mostV m x = (cnt m x : Int) := by
  have : 0 ≤ mostV m x := by
    unfold mostV
    split
    · exact numV_nn x
    · omega
  unfold cnt
  omega
theorem cnt_le (m : Nat) (x : Option (List UInt8)) : cnt m x ≤ m := by
  have h := cnt_v m x
  unfold mostV at h
  split at h
  · omega
  · omega

theorem dlist_run (m : Nat) (hm : m ≤ Cm.mI) (ks : List Cm.K) (hk : kOk ks) (l : List UInt8) : dlist m ks l = match runX (List.replicate (cnt m (some l)) ks).flatten (mostX m (some l)) with
    | some r => some ((.n m, .n (cnt m (some l) : Int)) :: runV (List.replicate (cnt m (some l)) ks).flatten (mostX m (some l)), r)
    | none => none := by
  have hd : Cm.dec [.n m] l = match mostX m (some l) with
      | some r => some ([(.n m, .n (mostV m (some l)))], r)
      | none => none := by
    have := run_dec [.n m] (fun k hk' q e => by
      rw [List.mem_singleton] at hk'
      rw [hk'] at e
      injection e with e
      omega) l
    rw [this]
    rfl
  unfold dlist
  rw [hd]
  cases hx : mostX m (some l) with
  | none => rw [runX_none]
  | some r =>
    simp only
    have hc : (mostV m (some l)).toNat = cnt m (some l) := rfl
    rw [hc, run_dec _ (kOk_rep hk _) r]
    cases runX (List.replicate (cnt m (some l)) ks).flatten (some r) with
    | none => rfl
    | some z => simp only [cnt_v]

def dmap (d : Option (List UInt8)) (v : List (Cm.K × Cm.V)) : Option (List (Cm.K × Cm.V) × List UInt8) := match d with
  | some r => some (v, r)
  | none => none
/-- A field of a struct that is read: what it leaves, what it told. -/
structure Fr where
  X : Option (List UInt8) → Option (List UInt8)
  V : Option (List UInt8) → List (Cm.K × Cm.V)
def frX : List Fr → Option (List UInt8) → Option (List UInt8)
  | [], x => x
  | f :: r, x => frX r (f.X x)
def frV : List Fr → Option (List UInt8) → List (Cm.K × Cm.V)
  | [], _ => []
  | f :: r, x => f.V x ++ frV r (f.X x)
theorem frX_none : ∀ (fs : List Fr), (∀ f ∈ fs, f.X none = none) → frX fs none = none
  | [], _ => rfl
  | f :: r, h => by rw [frX, h f (List.mem_cons_self ..)]; exact frX_none r (fun g hg => h g (List.mem_cons_of_mem _ hg))
theorem seq_run : ∀ (qs : List Rf) (fs : List Fr), All2 (fun (q : Rf) (f : Fr) => (∀ l, q.D l = dmap (f.X (some l)) (f.V (some l))) ∧ f.X none = none) qs fs → ∀ l, dseq qs l = dmap (frX fs (some l)) (frV fs (some l))
  | [], [], _, l => rfl
  | q :: qs, f :: fs, h, l => by
    rw [dseq, h.1.1 l, frX, frV]
    cases hx : f.X (some l) with
    | none =>
      simp only [dmap]
      have hn : ∀ g ∈ fs, g.X none = none := fun g hg => by
        obtain ⟨j, hj⟩ := List.getElem?_of_mem hg
        have hlen := h.2.len
        have hj2 : j < qs.length := by
          have := (List.getElem?_eq_some_iff.1 hj).1
          omega
        exact (h.2.get j _ _ (List.getElem?_eq_getElem hj2) hj).2
      rw [frX_none fs hn]
    | some r =>
      simp only [dmap]
      rw [seq_run qs fs h.2 r]
      cases frX fs (some r) <;> rfl
  | [], _ :: _, h, _ => h.elim
  | _ :: _, [], h, _ => h.elim

def fNum : Fr := ⟨numX, fun x => [nf (numV x)]⟩
def fBool : Fr := ⟨mostX 1, fun x => [(.n 1, .n (mostV 1 x))]⟩
def fStr : Fr := ⟨textX, fun x => [tf (textV x)]⟩
def fEnts : Fr := ⟨fun x => entsX (cnt 16 x) (mostX 16 x), fun x => pEnts (entsV (cnt 16 x) (mostX 16 x))⟩
def fPosts : Fr := ⟨fun x => postsX (cnt 64 x) (mostX 64 x), fun x => pPosts (postsV (cnt 64 x) (mostX 64 x))⟩
theorem most_none (m : Nat) : mostX m none = none := stepX_none (.n m)
theorem one_run (k : Cm.K) (hk : ∀ m, k = .n m → m ≤ Cm.mI) (l : List UInt8) : Cm.dec [k] l = dmap (stepX k (some l)) [(k, stepV k (some l))] := by
  have := run_dec [k] (fun q hq m e => by
    rw [List.mem_singleton] at hq
    rw [hq] at e
    exact hk m e) l
  rw [this]
  rfl
theorem gNum (b o : Nat) : (∀ l, (qNum b o).D l = dmap (fNum.X (some l)) (fNum.V (some l))) ∧ fNum.X none = none := by
  refine ⟨fun l => ?_, ?_⟩
  · have := one_run (.n Cm.mI) (fun m e => by injection e with e; omega) l
    simp only [stepX, stepV, numX_most, numV_most] at this
    exact this
  · show numX none = none
    rw [← numX_most]; exact most_none _
theorem gBool (b o : Nat) : (∀ l, (qBool b o).D l = dmap (fBool.X (some l)) (fBool.V (some l))) ∧ fBool.X none = none :=
  ⟨fun l => one_run (.n 1) (fun m e => by injection e with e; unfold Cm.mI; omega) l, most_none 1⟩
theorem gStr (b o : Nat) : (∀ l, (qStr b o).D l = dmap (fStr.X (some l)) (fStr.V (some l))) ∧ fStr.X none = none :=
  ⟨fun l => one_run .t (fun m e => by cases e) l, stepX_none .t⟩
theorem gEnts (b o : Nat) : (∀ l, (qEnts b o).D l = dmap (fEnts.X (some l)) (fEnts.V (some l))) ∧ fEnts.X none = none := by
  refine ⟨fun l => ?_, ?_⟩
  · show dlist 16 ksEnt l = _
    rw [dlist_run 16 (by unfold Cm.mI; omega) ksEnt ksEnt_ok l, ents_runX, ents_runV]
    unfold fEnts pEnts
    simp only [entsV_len]
    rfl
  · show entsX (cnt 16 none) (mostX 16 none) = none
    rw [most_none, entsX_none]
theorem postsX_none (k : Nat) : postsX k none = none := postsX_stop k 0 none (Nat.zero_le _) rfl
theorem gPosts (b o : Nat) : (∀ l, (qPosts b o).D l = dmap (fPosts.X (some l)) (fPosts.V (some l))) ∧ fPosts.X none = none := by
  refine ⟨fun l => ?_, ?_⟩
  · show dlist 64 ksPost l = _
    rw [dlist_run 64 (by unfold Cm.mI; omega) ksPost ksPost_ok l, posts_runX, posts_runV]
    unfold fPosts pPosts
    simp only [postsV_len]
    rfl
  · show postsX (cnt 64 none) (mostX 64 none) = none
    rw [most_none, postsX_none]

theorem fr_takeX (m : UInt8) (D : List UInt8 → Option (List (Cm.K × Cm.V) × List UInt8)) (fs : List Fr) (hD : ∀ l, D l = dmap (frX fs (some l)) (frV fs (some l))) (hn : frX fs none = none) (l : List UInt8) : takeX m D l = if fineB (frX fs (markX m (some l))) then some (frV fs (markX m (some l))) else none := by
  cases l with
  | nil =>
    have : markX m (some []) = none := rfl
    rw [this, hn]
    rfl
  | cons b r =>
    by_cases hb : b = m
    · have hm : markX m (some (b :: r)) = some r := by simp only [markX, if_pos hb]
      rw [hm]
      show (if b = m then (match D r with
        | some (vs, []) => some vs
        | _ => none) else none) = _
      rw [if_pos hb, hD r]
      cases frX fs (some r) with
      | none => rfl
      | some y => cases y <;> rfl
    · have hm : markX m (some (b :: r)) = none := by simp only [markX, if_neg hb]
      rw [hm, hn]
      show (if b = m then _ else none) = _
      rw [if_neg hb]
      rfl

/-- A message that is read. -/
def msgX0 (x : Option (List UInt8)) : Option (List UInt8) := mostX 1 (cmdX1 x)
def msgX1 (x : Option (List UInt8)) : Option (List UInt8) := mostX 16 (msgX0 x)
def msgX (x : Option (List UInt8)) : Option (List UInt8) := textX (entsX (cnt 16 (msgX0 x)) (msgX1 x))
def msgE (x : Option (List UInt8)) : List (Int × ByteArray) := entsV (cnt 16 (msgX0 x)) (msgX1 x)
def msgV (x : Option (List UInt8)) (p : Option Addr) : MsgD := ⟨numV x, numV (numX x), numV (numX (numX x)), numV (numX (numX (numX x))), numV (numX (numX (numX (numX x)))), numV (numX (numX (numX (numX (numX x))))), numV (numX (numX (numX (numX (numX (numX x)))))), p, msgE x, numV (numX (numX (numX (numX (numX (numX (numX x))))))), tr (cmdX1 x), textV (entsX (cnt 16 (msgX0 x)) (msgX1 x))⟩
def frMsg : List Fr := [fNum, fNum, fNum, fNum, fNum, fNum, fNum, fNum, fBool, fEnts, fStr]
theorem msg_takeX (l : List UInt8) (p : Option Addr) : takeX 77 dMsg l = if fineB (msgX (markX 77 (some l))) then some (msgV (markX 77 (some l)) p).pss.flatten else none := by
  have h := fr_takeX 77 dMsg frMsg (seq_run _ _ ⟨gNum 0 _, gNum 0 _, gNum 0 _, gNum 0 _, gNum 0 _, gNum 0 _, gNum 0 _, gNum 0 _, gBool 0 _, gEnts 0 _, gStr 0 _, trivial⟩) (frX_none _ (fun f hf => by
    simp only [frMsg, List.mem_cons, List.not_mem_nil, or_false] at hf
    rcases hf with rfl | rfl | rfl | rfl | rfl | rfl | rfl | rfl | rfl | rfl | rfl <;> first | exact (gNum 0 0).2 | exact (gBool 0 0).2 | exact (gEnts 0 0).2 | exact (gStr 0 0).2)) l
  rw [h]
  generalize markX 77 (some l) = x
  have e1 : frX frMsg x = msgX x := rfl
  have e2 : frV frMsg x = (msgV x p).pss.flatten := by
    have e : (msgV x p).pss = [[nf (numV x)], [nf (numV (numX x))], [nf (numV (numX (numX x)))], [nf (numV (numX (numX (numX x))))], [nf (numV (numX (numX (numX (numX x)))))], [nf (numV (numX (numX (numX (numX (numX x))))))], [nf (numV (numX (numX (numX (numX (numX (numX x)))))))], [nf (numV (numX (numX (numX (numX (numX (numX (numX x))))))))], [(.n 1, .n (mostV 1 (cmdX1 x)))], pEnts (msgE x), [tf (textV (entsX (cnt 16 (msgX0 x)) (msgX1 x)))]] := by
      rw [← tr_v]
      rfl
    rw [e]
    rfl
  rw [e1, e2]

/-- An answer that is read. -/
def ansX0 (x : Option (List UInt8)) : Option (List UInt8) := numX (numX (numX (numX x)))
def ansX (x : Option (List UInt8)) : Option (List UInt8) := postsX (cnt 64 (ansX0 x)) (mostX 64 (ansX0 x))
def ansI (x : Option (List UInt8)) : IdD := ⟨numV x, numV (numX x)⟩
def ansP (x : Option (List UInt8)) : List (ByteArray × ByteArray) := postsV (cnt 64 (ansX0 x)) (mostX 64 (ansX0 x))
def ansV (x : Option (List UInt8)) (p : Option Addr) : RepD := ⟨numV (numX (numX x)), numV (numX (numX (numX x))), p, ansP x⟩
theorem ans_takeX (l : List UInt8) (p : Option Addr) : takeX 65 dAns l = if fineB (ansX (markX 65 (some l))) then some ((ansI (markX 65 (some l))).pss.flatten ++ (ansV (markX 65 (some l)) p).pss.flatten) else none := by
  have hI : (∀ l, (seqR (qsId 0 0)).D l = dmap (frX [fNum, fNum] (some l)) (frV [fNum, fNum] (some l))) := seq_run _ _ ⟨gNum 0 _, gNum 0 _, trivial⟩
  have hI0 : frX [fNum, fNum] none = none := frX_none _ (fun f hf => by
    simp only [List.mem_cons, List.not_mem_nil, or_false] at hf
    rcases hf with rfl | rfl <;> exact (gNum 0 0).2)
  have hR : (∀ l, (seqR (qsRep 1 0)).D l = dmap (frX [fNum, fNum, fPosts] (some l)) (frV [fNum, fNum, fPosts] (some l))) := seq_run _ _ ⟨gNum 1 _, gNum 1 _, gPosts 1 _, trivial⟩
  have hR0 : frX [fNum, fNum, fPosts] none = none := frX_none _ (fun f hf => by
    simp only [List.mem_cons, List.not_mem_nil, or_false] at hf
    rcases hf with rfl | rfl | rfl <;> first | exact (gNum 0 0).2 | exact (gPosts 0 0).2)
  have h := fr_takeX 65 dAns [⟨frX [fNum, fNum], frV [fNum, fNum]⟩, ⟨frX [fNum, fNum, fPosts], frV [fNum, fNum, fPosts]⟩] (seq_run _ _ ⟨⟨hI, hI0⟩, ⟨hR, hR0⟩, trivial⟩) (frX_none _ (fun f hf => by
    simp only [List.mem_cons, List.not_mem_nil, or_false] at hf
    rcases hf with rfl | rfl
    · exact hI0
    · exact hR0)) l
  rw [h]
  generalize markX 65 (some l) = x
  have e1 : frX [⟨frX [fNum, fNum], frV [fNum, fNum]⟩, ⟨frX [fNum, fNum, fPosts], frV [fNum, fNum, fPosts]⟩] x = ansX x := rfl
  have e2 : frV [⟨frX [fNum, fNum], frV [fNum, fNum]⟩, ⟨frX [fNum, fNum, fPosts], frV [fNum, fNum, fPosts]⟩] x = (ansI x).pss.flatten ++ (ansV x p).pss.flatten := by
    simp only [frV, IdD.pss, RepD.pss, List.flatten_cons, List.flatten_nil, List.append_nil]
    rfl
  rw [e1, e2]

end Go.Proofs.Ytgkcchbignakcaa
