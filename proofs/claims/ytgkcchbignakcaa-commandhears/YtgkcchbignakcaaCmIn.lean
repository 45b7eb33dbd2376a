/-
  The document's reader: numbers, texts, a mark, fields of an op.
-/
import Derived.Test.YtgkcchbignakcaaCmRdN
namespace Go.Proofs.Ytgkcchbignakcaa
open Go.RowKit

def RsX (x : Option (List UInt8)) (t : ByteArray) (b : Bool) : Prop := match x with
    | some l => b = false ∧ t.data.toList = l
    | none => b = true

/-- The document's reader in block B, made in a call that began at w0: what is left, or that it is spoilt. -/
def Rs (w0 : World) (B : Nat) (x : Option (List UInt8)) (w : World) : Prop :=
  ∃ t b, w.heap[B]? = some (.cells #[.string t, .bool b] 79 (0, 0)) ∧ t.size ≤ 140737488351232 ∧ w0.heap.size ≤ B ∧ Below w0.heap.size w0 w ∧ RsX x t b

theorem toL_consI (s : ByteArray) (h : 0 < s.size) : s.data.toList = s[0] :: s.data.toList.drop 1 := by
  have h' : 0 < s.data.toList.length := by rw [Cm.toL_len]; exact h
  have := List.drop_eq_getElem_cons h'
  rw [List.drop_zero] at this
  exact this

def numOk (l : List UInt8) : Bool := decide ((M.rdVar l).2.2 = 0 ∧ (M.rdVar l).1 ≤ Cm.mI)
def numV : Option (List UInt8) → Int
  | some l => if numOk l then ((M.rdVar l).1 : Int) else 0
  | none => 0
def numX : Option (List UInt8) → Option (List UInt8)
  | some l => if numOk l then some (l.drop (M.rdVar l).2.1) else none
  | none => none
def mostV (m : Nat) (x : Option (List UInt8)) : Int := if numV x ≤ (m : Int) then numV x else 0
def mostX (m : Nat) (x : Option (List UInt8)) : Option (List UInt8) := if numV x ≤ (m : Int) then numX x else none
def textV (x : Option (List UInt8)) : ByteArray := match mostX Cm.mR x with
  | some r => if mostV Cm.mR x ≤ (r.length : Int) then ⟨(r.take (mostV Cm.mR x).toNat).toArray⟩ else ⟨#[]⟩
  | none => ⟨#[]⟩
def textX (x : Option (List UInt8)) : Option (List UInt8) := match mostX Cm.mR x with
  | some r => if mostV Cm.mR x ≤ (r.length : Int) then some (r.drop (mostV Cm.mR x).toNat) else none
  | none => none
def markX (m : UInt8) : Option (List UInt8) → Option (List UInt8)
  | some (b :: r) => if b = m then some r else none
  | _ => none
def fineB : Option (List UInt8) → Bool
  | some [] => true
  | _ => false

theorem numV_nn (x : Option (List UInt8)) : 0 ≤ numV x := by
  unfold numV
  split
  · split <;> omega
  · omega
theorem numV_top (x : Option (List UInt8)) : numV x ≤ 1099511627776 := by
  unfold numV
  split
  · split
    · rename_i h
      unfold numOk at h
      have := of_decide_eq_true h
      unfold Cm.mI at this
      omega
    · omega
  · omega

theorem Rs.spoil {w0 w : World} {B : Nat} {x : Option (List UInt8)} (h : Rs w0 B x w) : Rs w0 B none (w.setCell ⟨B, 1, none⟩ (.bool true)) := by
  obtain ⟨t, b, hh, ht, h0, hb, -⟩ := h
  exact ⟨t, true, by rw [heap_setCell_same _ _ _ _ _ _ hh]; simp, ht, h0, hb.setCell h0 _, rfl⟩
theorem Rs.cut {w0 w : World} {B : Nat} {l : List UInt8} (h : Rs w0 B (some l) w) (t : ByteArray) (ht : t.size ≤ 140737488351232) : Rs w0 B (some t.data.toList) (w.setCell ⟨B, 0, none⟩ (.string t)) := by
  obtain ⟨t0, b, hh, _, h0, hb, rfl, -⟩ := h
  exact ⟨t, false, by rw [heap_setCell_same _ _ _ _ _ _ hh]; simp, ht, h0, hb.setCell h0 _, rfl, rfl⟩
/-- What a call on the reader leaves. -/
def RsO (w0 : World) (B : Nat) (x : Option (List UInt8)) (w w' : World) : Prop := Rs w0 B x w' ∧ KeptO (fun k => k = B) w w'
theorem RsO.spoil {w0 w w' : World} {B : Nat} {x : Option (List UInt8)} (h : RsO w0 B x w w') : RsO w0 B none w (w'.setCell ⟨B, 1, none⟩ (.bool true)) := ⟨h.1.spoil, h.2.setCell (p := ⟨B, 1, none⟩) (fun _ => rfl) _⟩
theorem RsO.cut {w0 w w' : World} {B : Nat} {l : List UInt8} (h : RsO w0 B (some l) w w') (t : ByteArray) (ht : t.size ≤ 140737488351232) : RsO w0 B (some t.data.toList) w (w'.setCell ⟨B, 0, none⟩ (.string t)) := ⟨h.1.cut t ht, h.2.setCell (p := ⟨B, 0, none⟩) (fun _ => rfl) _⟩
theorem Rs.self {w0 w : World} {B : Nat} {x : Option (List UInt8)} (h : Rs w0 B x w) : RsO w0 B x w w := ⟨h, KeptO.refl _ _⟩
theorem Rs.read {w0 w : World} {B : Nat} {x : Option (List UInt8)} (h : Rs w0 B x w) : ∃ t b, w.cell? ⟨B, 0, none⟩ = some (.string t) ∧ w.cell? ⟨B, 1, none⟩ = some (.bool b) ∧ w.frozen? ⟨B, 0, none⟩ = false ∧ w.frozen? ⟨B, 1, none⟩ = false ∧ t.size ≤ 140737488351232 ∧ RsX x t b := by
  obtain ⟨t, b, hh, ht, h0, hb, hx⟩ := h
  exact ⟨t, b, by rw [Lib.cell_of_heap hh]; rfl, by rw [Lib.cell_of_heap hh]; rfl, by simp [World.frozen?, hh], by simp [World.frozen?, hh], ht, hx⟩
theorem Rs.below {w0 w : World} {B : Nat} {x : Option (List UInt8)} (h : Rs w0 B x w) : Below w0.heap.size w0 w := by
  obtain ⟨t, b, hh, ht, h0, hb, hx⟩ := h
  exact hb
theorem Rs.fresh {w0 w : World} (hb : Below w0.heap.size w0 w) (s : ByteArray) (hs : s.size ≤ 140737488351232) : Rs w0 w.heap.size (some s.data.toList) (w.alloc (.cells #[.string s, .bool false] 79)) :=
  ⟨s, false, heap_alloc_new _ _, hs, hb.size, hb.alloc hb.size _, rfl, rfl⟩

set_option maxHeartbeats 1000000 in
set_option maxRecDepth 100000 in
theorem in_num {w0 w : World} {B : Nat} {x : Option (List UInt8)} (h : Rs w0 B x w) :
    Calls Try.prog 40 #[.pointer (some ⟨B, 0, none⟩)] w fun e w' => e = .returned (.int .i64 (numV x)) ∧ RsO w0 B (numX x) w w' := by
  obtain ⟨s, b, c0, c1, z0, z1, hs, hx⟩ := h.read
  obtain ⟨t1, t2, t3, t4⟩ := Cm.rdVar_top s.data.toList
  rw [Cm.toL_len] at t2
  have HV := hidden (ref_Var s w (by unfold maxLen; omega))
  have HSP := hidden h.self.spoil
  cases x with
  | none =>
    subst hx
    clear t1 t2 t3 t4 hs h
    generalize M.rdVar s.data.toList = r at HV
    obtain ⟨n, k, q⟩ := r
    simp only at HV
    go_enter Try.func40, Try.ntmps40
    go_wp2_with (go_at_call 53; refine (HV.out).mono ?_; rintro e w1 ⟨rfl, h1⟩; subst h1)
    go_ret
    exact ⟨rfl, HSP.out⟩
  | some l =>
    obtain ⟨rfl, rfl⟩ := hx
    have hcut := run_from s (M.rdVar s.data.toList).2.1 t2
    have HRS : Hid (RsO w0 B (some (s.data.toList.drop (M.rdVar s.data.toList).2.1)) w (w.setCell ⟨B, 0, none⟩ (.string (s.extract (M.rdVar s.data.toList).2.1 s.size)))) := by
      unfold Hid
      rw [← Cm.toL_cut]
      exact h.self.cut _ (by rw [ByteArray.size_extract]; omega)
    have hok : numOk s.data.toList = decide ((M.rdVar s.data.toList).2.2 = 0 ∧ (M.rdVar s.data.toList).1 ≤ Cm.mI) := rfl
    simp only [numV, numX]
    clear h t2 hs t3
    generalize numOk s.data.toList = ok at hok ⊢
    obtain ⟨n, hn⟩ : ∃ n, n = (M.rdVar s.data.toList).1 := ⟨_, rfl⟩
    obtain ⟨k, hk⟩ : ∃ k, k = (M.rdVar s.data.toList).2.1 := ⟨_, rfl⟩
    obtain ⟨q, hq⟩ : ∃ q, q = (M.rdVar s.data.toList).2.2 := ⟨_, rfl⟩
    rw [← hn, ← hk, ← hq] at HV
    rw [← hk] at hcut HRS
    rw [← hn, ← hq] at hok
    rw [← hn, ← hk]
    rw [← hn] at t1
    clear hn hk hq t4
    generalize s.data.toList.drop k = d at *
    by_cases hq0 : q = 0
    · by_cases hm : n ≤ Cm.mI
      · have : ok = true := by rw [hok]; exact decide_eq_true ⟨hq0, hm⟩
        subst this
        unfold Cm.mI at hm
        have hq1 : ((q : Int) == 0) = true := by simp [hq0]
        have hm1 : decide ((1099511627776 : Int) < (n : Int)) = false := decide_eq_false (by omega)
        subst hq0
        clear hok t1 hm
        go_enter Try.func40, Try.ntmps40
        go_wp2_with (go_at_call 53; refine (HV.out).mono ?_; rintro e w1 ⟨rfl, h1⟩; subst h1)
        go_ret
        exact ⟨rfl, HRS.out⟩
      · have : ok = false := by rw [hok]; exact decide_eq_false (fun x => hm x.2)
        subst this
        unfold Cm.mI at hm
        have hq1 : ((q : Int) == 0) = true := by simp [hq0]
        have hm1 : decide ((1099511627776 : Int) < (n : Int)) = true := decide_eq_true (by omega)
        subst hq0
        clear hok t1 hm
        go_enter Try.func40, Try.ntmps40
        go_wp2_with (go_at_call 53; refine (HV.out).mono ?_; rintro e w1 ⟨rfl, h1⟩; subst h1)
        go_ret
        exact ⟨rfl, HSP.out⟩
    · have : ok = false := by rw [hok]; exact decide_eq_false (fun x => hq0 x.1)
      subst this
      have hq1 : ((q : Int) == 0) = false := by simp; omega
      have hq2 : ¬ (q : Int) = 0 := by omega
      clear hok t1
      go_enter Try.func40, Try.ntmps40
      go_wp2_with (go_at_call 53; refine (HV.out).mono ?_; rintro e w1 ⟨rfl, h1⟩; subst h1)
      go_ret
      exact ⟨rfl, HSP.out⟩

set_option maxHeartbeats 1000000 in
set_option maxRecDepth 100000 in
theorem in_most {w0 w : World} {B : Nat} {x : Option (List UInt8)} (h : Rs w0 B x w) (m : Nat) :
    Calls Try.prog 41 #[.pointer (some ⟨B, 0, none⟩), .int .i64 (m : Int)] w fun e w' => e = .returned (.int .i64 (mostV m x)) ∧ RsO w0 B (mostX m x) w w' := by
  have HN := hidden (in_num h)
  unfold mostV mostX
  generalize numV x = v at *
  generalize numX x = y at *
  clear h
  by_cases hv : v ≤ (m : Int)
  · have h1 : ¬ (m : Int) < v := by omega
    rw [if_pos hv, if_pos hv]
    clear hv
    go_enter Try.func41, Try.ntmps41
    go_wp2_with (go_at_call 40; refine (HN.out).mono ?_; rintro e w1 ⟨rfl, h2⟩)
    go_ret
    exact ⟨rfl, h2⟩
  · have h1 : (m : Int) < v := by omega
    rw [if_neg hv, if_neg hv]
    clear hv
    go_enter Try.func41, Try.ntmps41
    go_wp2_with (go_at_call 40; refine (HN.out).mono ?_; rintro e w1 ⟨rfl, h2⟩; obtain ⟨s, b, c0, c1, z0, z1, -, -⟩ := h2.1.read; have HSP := hidden h2.spoil; clear h2)
    go_ret
    exact ⟨rfl, HSP.out⟩

set_option maxHeartbeats 1000000 in
set_option maxRecDepth 100000 in
theorem in_text {w0 w : World} {B : Nat} {x : Option (List UInt8)} (h : Rs w0 B x w) :
    Calls Try.prog 43 #[.pointer (some ⟨B, 0, none⟩)] w fun e w' => e = .returned (.string (textV x)) ∧ RsO w0 B (textX x) w w' := by
  have hN := in_most h 262144
  have hnn : 0 ≤ mostV 262144 x := by
    unfold mostV
    split
    · exact numV_nn x
    · omega
  obtain ⟨n, hn⟩ := Int.eq_ofNat_of_zero_le hnn
  have e1 : textV x = match mostX 262144 x with
    | some r => if n ≤ r.length then ⟨(r.take n).toArray⟩ else ⟨#[]⟩
    | none => ⟨#[]⟩ := by
    show (match mostX 262144 x with
      | some r => if mostV 262144 x ≤ (r.length : Int) then (⟨(r.take (mostV 262144 x).toNat).toArray⟩ : ByteArray) else ⟨#[]⟩
      | none => ⟨#[]⟩) = _
    rw [hn]
    cases mostX 262144 x with
    | none => rfl
    | some r => simp only [Int.ofNat_le, Int.toNat_natCast]
  have e2 : textX x = match mostX 262144 x with
    | some r => if n ≤ r.length then some (r.drop n) else none
    | none => none := by
    show (match mostX 262144 x with
      | some r => if mostV 262144 x ≤ (r.length : Int) then some (r.drop (mostV 262144 x).toNat) else none
      | none => none) = _
    rw [hn]
    cases mostX 262144 x with
    | none => rfl
    | some r => simp only [Int.ofNat_le, Int.toNat_natCast]
  rw [e1, e2]
  rw [hn] at hN
  have HN := hidden hN
  clear e1 e2 hnn hn h hN
  generalize mostX 262144 x = y at *
  cases y with
  | none =>
    simp only
    go_enter Try.func43, Try.ntmps43
    go_wp2_with (go_at_call 41; refine (HN.out).mono ?_; rintro e w1 ⟨rfl, h2⟩; obtain ⟨s, b, c0, c1, z0, z1, -, rfl⟩ := h2.1.read; have HSP := hidden h2.spoil; clear h2)
    go_ret
    exact ⟨rfl, HSP.out⟩
  | some r =>
    simp only
    by_cases hnr : n ≤ r.length
    · rw [if_pos hnr, if_pos hnr]
      have HNR := hidden hnr
      clear hnr
      go_enter Try.func43, Try.ntmps43
      go_wp2_with (go_at_call 41; refine (HN.out).mono ?_; rintro e w1 ⟨rfl, h2⟩; obtain ⟨s, b, c0, c1, z0, z1, hss, rfl, rfl⟩ := h2.1.read; have hle : n ≤ s.size := (by have := HNR.out; rw [Cm.toL_len] at this; exact this); have hng : ¬ s.size < n := (by omega); have r1 := run_to s n hle; have r2 := run_from s n hle; have HRS := hidden (h2.cut (s.extract n s.size) (by rw [ByteArray.size_extract]; omega)); rw [Cm.toL_cut] at HRS; have HT : Hid (s.extract 0 n = ⟨(s.data.toList.take n).toArray⟩) := Cm.of_toL (Cm.toL_take s n); clear h2 hss hle)
      go_ret
      exact ⟨by rw [HT.out]; rfl, HRS.out⟩
    · rw [if_neg hnr, if_neg hnr]
      have HNR := hidden hnr
      clear hnr
      go_enter Try.func43, Try.ntmps43
      go_wp2_with (go_at_call 41; refine (HN.out).mono ?_; rintro e w1 ⟨rfl, h2⟩; obtain ⟨s, b, c0, c1, z0, z1, hss, rfl, rfl⟩ := h2.1.read; have hng : s.size < n := (by have := HNR.out; rw [Cm.toL_len] at this; omega); have HSP := hidden h2.spoil; clear h2 hss)
      go_ret
      exact ⟨rfl, HSP.out⟩

set_option maxHeartbeats 1000000 in
set_option maxRecDepth 100000 in
theorem in_fine {w0 w : World} {B : Nat} {x : Option (List UInt8)} (h : Rs w0 B x w) :
    Calls Try.prog 44 #[.pointer (some ⟨B, 0, none⟩)] w fun e w' => e = .returned (.bool (fineB x)) ∧ w' = w := by
  obtain ⟨s, b, c0, c1, z0, z1, -, hx⟩ := h.read
  clear h
  cases x with
  | none =>
    subst hx
    go_enter Try.func44, Try.ntmps44
    go_wp2
    go_ret
    exact ⟨rfl, rfl⟩
  | some l =>
    obtain ⟨rfl, rfl⟩ := hx
    have hB : s.toList.isEmpty = fineB (some s.data.toList) := by
      rw [ByteArray.toList_eq]
      cases s.data.toList <;> rfl
    generalize fineB (some s.data.toList) = fb at *
    cases fb with
    | true =>
      go_enter Try.func44, Try.ntmps44
      go_wp2
      go_ret
      exact ⟨rfl, rfl⟩
    | false =>
      go_enter Try.func44, Try.ntmps44
      go_wp2
      go_ret
      exact ⟨rfl, rfl⟩

set_option maxHeartbeats 1000000 in
set_option maxRecDepth 100000 in
theorem in_mark {w0 w : World} {B : Nat} {x : Option (List UInt8)} (h : Rs w0 B x w) (m : UInt8) :
    Calls Try.prog 39 #[.pointer (some ⟨B, 0, none⟩), .int .u8 (m.toNat : Int)] w fun e w' => e = .returned (.tuple #[]) ∧ RsO w0 B (markX m x) w w' := by
  obtain ⟨s, b, c0, c1, z0, z1, hs, hx⟩ := h.read
  have HSP := hidden h.self.spoil
  cases x with
  | none =>
    subst hx
    clear h
    go_enter Try.func39, Try.ntmps39
    go_wp2
    (try simp only [Exit.inBlock, Exit.then]); refine bodyPost_ret (results_none rfl _ _ _) rfl ?_
    exact ⟨rfl, HSP.out⟩
  | some l =>
    obtain ⟨rfl, hl⟩ := hx
    by_cases h0 : 0 < s.size
    · have hne : s.toList.isEmpty = false := by rw [ByteArray.toList_eq, toL_consI s h0]; rfl
      have hidx : ∀ W, (Instr.index 9 (.string s) (.int .i64 0)).run Try.prog W = .ok (.int .u8 (s[0].toNat : Int)) W := fun W => by
        have h := run_index_string (P := Try.prog) W 9 s .i64 ((0 : Nat) : Int) Try.underlying9
        rw [dif_pos (by omega)] at h
        simpa using h
      have hcut : ∀ W, (Instr.slice 9 (.string s) (some (.int .i64 1)) none none).run Try.prog W = .ok (.string (s.extract 1 s.size)) W := run_from s 1 (by omega)
      have hR := h.self.cut (s.extract 1 s.size) (by rw [ByteArray.size_extract]; omega)
      have hlc : l = s[0] :: (s.extract 1 s.size).data.toList := by rw [← hl, toL_consI s h0, Cm.toL_cut]
      subst hlc
      have HR := hidden hR
      by_cases hm : s[0] = m
      · have hX : markX m (some (s[0] :: (s.extract 1 s.size).data.toList)) = some (s.extract 1 s.size).data.toList := by simp only [markX, if_pos hm]
        rw [hX]
        have hn : s[0].toNat = m.toNat := by rw [hm]
        rw [hn] at hidx
        generalize m.toNat = k at *
        clear hR h hl hs h0 hX hm hn
        go_enter Try.func39, Try.ntmps39
        go_wp2
        go_end0
        exact ⟨rfl, HR.out⟩
      · have hX : markX m (some (s[0] :: (s.extract 1 s.size).data.toList)) = none := by simp only [markX, if_neg hm]
        rw [hX]
        have hn : ¬ s[0].toNat = m.toNat := fun e => hm (UInt8.toNat_inj.1 e)
        generalize s[0].toNat = j at *
        generalize m.toNat = k at *
        have hi : ¬ (j : Int) = (k : Int) := by omega
        have hj : ((j : Int) == (k : Int)) = false := by simp only [beq_eq_false_iff_ne, ne_eq]; exact hi
        clear hR h hl hs h0 hX hm
        go_enter Try.func39, Try.ntmps39
        go_wp2
        (try simp only [Exit.inBlock, Exit.then]); refine bodyPost_ret (results_none rfl _ _ _) rfl ?_
        exact ⟨rfl, HSP.out⟩
    · have hl0 : l = [] := by
        have : s.data.toList = [] := List.eq_nil_of_length_eq_zero (by rw [Cm.toL_len]; omega)
        rw [← hl]; exact this
      subst hl0
      have he : s.toList.isEmpty = true := by rw [ByteArray.toList_eq, hl]; rfl
      clear h hl hs h0
      go_enter Try.func39, Try.ntmps39
      go_wp2
      (try simp only [Exit.inBlock, Exit.then]); refine bodyPost_ret (results_none rfl _ _ _) rfl ?_
      exact ⟨rfl, HSP.out⟩

end Go.Proofs.Ytgkcchbignakcaa
