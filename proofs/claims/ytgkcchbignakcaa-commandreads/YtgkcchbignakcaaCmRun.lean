/-
  Reading a row of kinds, value by value, even where it is spoilt.
-/
import Derived.Test.YtgkcchbignakcaaCmRx
import Derived.Test.YtgkcchbignakcaaCmTake2
import Derived.Test.YtgkcchbignakcaaCmRSets
namespace Go.Proofs.Ytgkcchbignakcaa

def stepX : Cm.K → Option (List UInt8) → Option (List UInt8)
  | .inl m, x => mostX m x
  | .inr _, x => textX x
def stepV : Cm.K → Option (List UInt8) → Cm.V
  | .inl m, x => .n (mostV m x)
  | .inr _, x => .t (textV x)
def runX : List Cm.K → Option (List UInt8) → Option (List UInt8)
  | [], x => x
  | k :: r, x => runX r (stepX k x)
def runV : List Cm.K → Option (List UInt8) → List (Cm.K × Cm.V)
  | [], _ => []
  | k :: r, x => (k, stepV k x) :: runV r (stepX k x)

theorem numV_most (x : Option (List UInt8)) : mostV Cm.mI x = numV x := by
  unfold mostV
  rw [if_pos]
  have := numV_top x
  unfold Cm.mI
  omega
theorem numX_most (x : Option (List UInt8)) : mostX Cm.mI x = numX x := by
  unfold mostX
  rw [if_pos]
  have := numV_top x
  unfold Cm.mI
  omega

theorem stepX_none (k : Cm.K) : stepX k none = none := by
  cases k with
  | inl m =>
    show (if numV none ≤ (m : Int) then numX none else none) = none
    split <;> rfl
  | inr u =>
    show textX none = none
    unfold textX
    have : mostX Cm.mR none = none := by
      show (if numV none ≤ (Cm.mR : Int) then numX none else none) = none
      split <;> rfl
    rw [this]
theorem runX_none : ∀ ks, runX ks none = none
  | [] => rfl
  | k :: r => by rw [runX, stepX_none]; exact runX_none r

theorem most_dec {m : Nat} (hm : m ≤ Cm.mI) (l : List UInt8) : Cm.dec1 (.n m) l = match mostX m (some l) with
    | some r => some (.n (mostV m (some l)), r)
    | none => none := by
  rw [Cm.dec1]
  by_cases h : (M.rdVar l).2.2 = 0 ∧ (M.rdVar l).1 ≤ m
  · have hok : numOk l = true := decide_eq_true ⟨h.1, Nat.le_trans h.2 hm⟩
    have hv : numV (some l) = ((M.rdVar l).1 : Int) := by simp only [numV, hok, if_true]
    have hx : numX (some l) = some (l.drop (M.rdVar l).2.1) := by simp only [numX, hok, if_true]
    have hX : mostX m (some l) = some (l.drop (M.rdVar l).2.1) := by unfold mostX; rw [hv, if_pos (by omega), hx]
    have hV : mostV m (some l) = ((M.rdVar l).1 : Int) := by unfold mostV; rw [hv, if_pos (by omega)]
    rw [if_pos h, hX, hV]
  · have hX : mostX m (some l) = none := by
      unfold mostX
      by_cases hok : numOk l = true
      · have hv : numV (some l) = ((M.rdVar l).1 : Int) := by simp only [numV, hok, if_true]
        have h2 := of_decide_eq_true hok
        rw [hv, if_neg (fun e => h ⟨h2.1, by omega⟩)]
      · have hx : numX (some l) = none := by simp only [numX, hok]; rfl
        rw [hx]
        split <;> rfl
    rw [if_neg h, hX]

theorem text_dec (l : List UInt8) : Cm.dec1 .t l = match textX (some l) with
    | some r => some (.t (textV (some l)), r)
    | none => none := by
  have h := most_dec (m := Cm.mR) (by unfold Cm.mR Cm.mI; omega) l
  rw [Cm.dec1] at h
  rw [Cm.dec1]
  unfold textX textV
  by_cases hc : (M.rdVar l).2.2 = 0 ∧ (M.rdVar l).1 ≤ Cm.mR
  · rw [if_pos hc] at h
    cases hX : mostX Cm.mR (some l) with
    | none => rw [hX] at h; cases h
    | some r =>
      rw [hX] at h
      simp only [Option.some.injEq, Prod.mk.injEq, Sum.inl.injEq] at h
      obtain ⟨h1, h2⟩ := h
      simp only
      rw [← h1, ← h2]
      by_cases hl : (M.rdVar l).1 ≤ (l.drop (M.rdVar l).2.1).length
      · rw [if_pos ⟨hc.1, hc.2, hl⟩, if_pos (by omega), if_pos (by omega), Int.toNat_natCast]
      · rw [if_neg (fun e => hl e.2.2), if_neg (by omega)]
  · rw [if_neg hc] at h
    cases hX : mostX Cm.mR (some l) with
    | some r => rw [hX] at h; cases h
    | none => rw [if_neg (fun e => hc ⟨e.1, e.2.1⟩)]

def kOk (ks : List Cm.K) : Prop := ∀ k ∈ ks, ∀ m, k = .n m → m ≤ Cm.mI
theorem step_dec {k : Cm.K} (hk : ∀ m, k = .n m → m ≤ Cm.mI) (l : List UInt8) : Cm.dec1 k l = match stepX k (some l) with
    | some r => some (stepV k (some l), r)
    | none => none := by
  cases k with
  | inl m => exact most_dec (hk m rfl) l
  | inr u => exact text_dec l

theorem run_dec : ∀ (ks : List Cm.K) (_ : kOk ks) (l : List UInt8), Cm.dec ks l = match runX ks (some l) with
    | some r => some (runV ks (some l), r)
    | none => none
  | [], _, l => rfl
  | k :: r, h, l => by
    rw [Cm.dec, step_dec (h k (List.mem_cons_self ..)) l, runX, runV]
    cases hs : stepX k (some l) with
    | none => simp only; rw [runX_none]
    | some l1 =>
      simp only
      rw [run_dec r (fun k hk => h k (List.mem_cons_of_mem _ hk)) l1]
      cases runX r (some l1) <;> rfl

theorem run_takeX (m : UInt8) (ks : List Cm.K) (h : kOk ks) (l : List UInt8) : takeX m (Cm.dec ks) l = if fineB (runX ks (markX m (some l))) then some (runV ks (markX m (some l))) else none := by
  cases l with
  | nil =>
    have : markX m (some []) = none := rfl
    rw [this, runX_none]
    rfl
  | cons b r =>
    by_cases hb : b = m
    · have hm : markX m (some (b :: r)) = some r := by simp only [markX, if_pos hb]
      rw [hm]
      show (if b = m then (match Cm.dec ks r with
        | some (vs, []) => some vs
        | _ => none) else none) = _
      rw [if_pos hb, run_dec ks h r]
      cases runX ks (some r) with
      | none => rfl
      | some y => cases y <;> rfl
    · have hm : markX m (some (b :: r)) = none := by simp only [markX, if_neg hb]
      rw [hm, runX_none]
      show (if b = m then _ else none) = _
      rw [if_neg hb]
      rfl

theorem runX_app : ∀ (a b : List Cm.K) (x : Option (List UInt8)), runX (a ++ b) x = runX b (runX a x)
  | [], _, _ => rfl
  | k :: r, b, x => by rw [List.cons_append, runX, runX, runX_app r b]
theorem runV_app : ∀ (a b : List Cm.K) (x : Option (List UInt8)), runV (a ++ b) x = runV a x ++ runV b (runX a x)
  | [], _, _ => rfl
  | k :: r, b, x => by rw [List.cons_append, runV, runV, runX, runV_app r b]; rfl

theorem most1 (x : Option (List UInt8)) : mostV 1 x = 0 ∨ mostV 1 x = 1 := by
  have := numV_nn x
  unfold mostV
  split
  · omega
  · exact .inl rfl
/-- A truth that is read. -/
def tr (x : Option (List UInt8)) : Bool := mostV 1 x == 1
theorem tr_v (x : Option (List UInt8)) : (if tr x then (1 : Int) else 0) = mostV 1 x := by
  unfold tr
  rcases most1 x with h | h
  · rw [h]; rfl
  · rw [h]; rfl

/-- An op that is read. -/
def opX (x : Option (List UInt8)) : Option (List UInt8) := numX (numX (textX (textX (textX (textX (textX (textX (numX x))))))))
def opV (x : Option (List UInt8)) : OpD := ⟨numV x, textV (numX x), textV (textX (numX x)), textV (textX (textX (numX x))), textV (textX (textX (textX (numX x)))), textV (textX (textX (textX (textX (numX x))))), textV (textX (textX (textX (textX (textX (numX x)))))), numV (textX (textX (textX (textX (textX (textX (numX x))))))), numV (numX (textX (textX (textX (textX (textX (textX (numX x))))))))⟩
theorem op_runX (x : Option (List UInt8)) : runX ksOp x = opX x := by
  simp only [ksOp, runX, stepX, numX_most]
  rfl
theorem op_runV (x : Option (List UInt8)) : runV ksOp x = (opV x).pss.flatten := by
  simp only [ksOp, runV, stepX, stepV, numX_most, numV_most]
  rfl
/-- A command that is read. -/
def cmdX1 (x : Option (List UInt8)) : Option (List UInt8) := numX (numX (numX (numX (numX (numX (numX (numX x)))))))
def cmdX (x : Option (List UInt8)) : Option (List UInt8) := textX (opX (numX (mostX 1 (cmdX1 x))))
def cmdV (x : Option (List UInt8)) : CmdD := ⟨numV x, ⟨numV (numX x), numV (numX (numX x))⟩, opV (numX (mostX 1 (cmdX1 x))), numV (numX (numX (numX x))), numV (numX (numX (numX (numX x)))), numV (numX (numX (numX (numX (numX x))))), numV (numX (numX (numX (numX (numX (numX x)))))), numV (numX (numX (numX (numX (numX (numX (numX x))))))), tr (cmdX1 x), numV (mostX 1 (cmdX1 x)), textV (opX (numX (mostX 1 (cmdX1 x))))⟩
theorem cmd_runX (x : Option (List UInt8)) : runX ksCmd x = cmdX x := by
  simp only [ksCmd, runX_app, op_runX]
  simp only [ksId, runX, stepX, numX_most]
  rfl
theorem cmd_runV (x : Option (List UInt8)) : runV ksCmd x = (cmdV x).pss.flatten := by
  simp only [ksCmd, runX_app, runV_app, op_runX, op_runV]
  simp only [ksId, runX, stepX, runV, stepV, numX_most, numV_most]
  have e : (cmdV x).pss = [[nf (numV x)], [nf (numV (numX x)), nf (numV (numX (numX x)))], [nf (numV (numX (numX (numX x))))], [nf (numV (numX (numX (numX (numX x)))))], [nf (numV (numX (numX (numX (numX (numX x))))))], [nf (numV (numX (numX (numX (numX (numX (numX x)))))))], [nf (numV (numX (numX (numX (numX (numX (numX (numX x))))))))], [(.n 1, .n (mostV 1 (cmdX1 x)))], [nf (numV (mostX 1 (cmdX1 x)))], (opV (numX (mostX 1 (cmdX1 x)))).pss.flatten, [tf (textV (opX (numX (mostX 1 (cmdX1 x)))))]] := by
    rw [← tr_v]
    rfl
  rw [e]
  simp only [List.flatten_cons, List.flatten_nil, List.append_nil, List.cons_append, List.nil_append]
  rfl
theorem ksCmd_ok : kOk ksCmd := fun k hk m e => by
  subst e
  have : m = Cm.mI ∨ m = 1 := by
    simp [ksCmd, ksId, ksOp] at hk
    omega
  rcases this with rfl | rfl
  · exact Nat.le_refl _
  · unfold Cm.mI; omega
theorem cmd_takeX (l : List UInt8) : takeX 67 (Cm.dec ksCmd) l = if fineB (cmdX (markX 67 (some l))) then some (cmdV (markX 67 (some l))).pss.flatten else none := by
  rw [run_takeX 67 ksCmd ksCmd_ok l, cmd_runX, cmd_runV]

end Go.Proofs.Ytgkcchbignakcaa
