/-
  What tear leaves of a file: its sure bytes and a beginning of the loose ones, the last one of them turned; all are sure.
-/
import Derived.Test.YtpfnkjfbhcffiaaDkCut
import Derived.Test.YtpfnkjfbhcffiaaDkSync
import Derived.Test.YtpfnkjfbhcffiaaSumOwn
namespace Go.Proofs.Ytpfnkjfbhcffiaa
open Go.RowKit

/-- Of the bytes l, s of them sure, k loose ones are kept, and the last of these is turned. -/
def torn (l : List UInt8) (s k : Nat) (t : UInt8) : List UInt8 := if k = 0 then l.take s else (l.take (s + k)).set (s + k - 1) (l.getD (s + k - 1) 0 ^^^ t)
/-- How many loose bytes are kept. -/
def keeps (most : Int) (x : Nat) : Nat := most.toNat % (x + 1)
theorem keeps_le (most : Int) (x : Nat) : keeps most x ≤ x := by unfold keeps; have := Nat.mod_lt most.toNat (show 0 < x + 1 by omega); omega

theorem torn_length {l : List UInt8} {s k : Nat} (t : UInt8) (h : s + k ≤ l.length) : (torn l s k t).length = s + k := by
  unfold torn
  split
  · simp; omega
  · simp; omega

theorem since_since {own : Nat → Prop} {w w1 w2 : World} (h : w.heap.size ≤ w1.heap.size) : ∀ k, k < w2.heap.size → since (since own w) w1 k → since own w k := by
  intro k _ e
  rcases e with e | e
  · exact e
  · exact .inr (by omega)
theorem since_old {own : Nat → Prop} (w : World) : ∀ k, k < w.heap.size → since own w k → own k := by
  intro k hk e
  rcases e with e | e
  · exact e
  · omega
theorem upd_upd {α : Type} (f : Nat → α) (i : Nat) (x y : α) : upd (upd f i x) i y = upd f i y := by funext j; unfold upd; split <;> rfl

theorem OwnB.set {w : World} {base g n cap : Nat} {u8 : TypeId} {l : List UInt8} (h : OwnB w base u8 (.slice (some ⟨g, 0, none⟩) n cap) l) (hn : n = l.length) (j : Nat) (x : UInt8) :
    OwnB (w.setCell ⟨g, j, none⟩ (.int .u8 (x.toNat : Int))) base u8 (.slice (some ⟨g, 0, none⟩) n cap) (l.set j x) := by
  subst hn
  have := (World.ownsRow.stored h j (.int .u8 (x.toNat : Int))).1
  unfold OwnB
  rw [List.length_set]
  simpa [Lib.byteCells, List.map_set] using this

/-- What stands behind the last stores of tear. -/
theorem DkV.tornHere {w : World} {b room g cap : Nat} {A : Nat → List UInt8} {S : Nat → Nat} {own : Nat → Prop} {V : Nat → Value} (h : DkV w b room A S own V) {i : Nat} (hi : i < 256)
    (hv : V i = .slice (some ⟨g, 0, none⟩) (A i).length cap) (j : Nat) (x : UInt8) :
    Dk ((w.setCell ⟨g, j, none⟩ (.int .u8 (x.toNat : Int))).setCell ⟨b, 2 + i * 2 + 1, none⟩ (.int .i64 ((A i).length : Int))).drew b room (upd A i ((A i).set j x)) (upd S i (A i).length) (since own w) ∧
    Kept b own w ((w.setCell ⟨g, j, none⟩ (.int .u8 (x.toNat : Int))).setCell ⟨b, 2 + i * 2 + 1, none⟩ (.int .i64 ((A i).length : Int))).drew := by
  have hrow := h.row i hi
  rw [hv] at hrow
  have hg := (OwnB.block hrow (k := g) rfl)
  have hgb : g ≠ b := by omega
  have ht : tot (upd A i ((A i).set j x)) = tot A := by have := tot_upd A hi ((A i).set j x); rw [List.length_set] at this; omega
  have hc0 : ∀ o, (w.setCell ⟨g, j, none⟩ (.int .u8 (x.toNat : Int))).cell? ⟨b, o, none⟩ = w.cell? ⟨b, o, none⟩ := fun o => World.cell?_setCell_other _ _ _ _ (by intro q; injection q; omega)
  have k : Kept b (fun k => (V i).ownBlock = some k) w ((w.setCell ⟨g, j, none⟩ (.int .u8 (x.toNat : Int))).setCell ⟨b, 2 + i * 2 + 1, none⟩ (.int .i64 ((A i).length : Int))) :=
    ((Kept.refl _ _ _).setCell ⟨g, j, none⟩ (.inr (.inl (by rw [hv]; rfl))) _).setCell ⟨b, 2 + i * 2 + 1, none⟩ (.inl rfl) _
  have hr : OwnB ((w.setCell ⟨g, j, none⟩ (.int .u8 (x.toNat : Int))).setCell ⟨b, 2 + i * 2 + 1, none⟩ (.int .i64 ((A i).length : Int))) (b + 1) 5 (.slice (some ⟨g, 0, none⟩) (A i).length cap) ((A i).set j x) := by
    refine OwnB.carry (OwnB.set hrow rfl j x) fun k hk => ?_
    have e : k = g := by simp [Value.ownBlock] at hk; exact hk.symm
    rw [Below.heap_setCell _ _ _ _ (by show k ≠ b; omega)]
  obtain ⟨q1, q2⟩ := h.turn hi k hr (fun k hk => .inl (by rw [hv]; exact hk)) (by rw [List.length_set]; exact Nat.le_refl _) (by rw [ht]; exact h.fits) (by
    intro o _
    rw [cell_set _ (by rw [hc0]; exact h.sure i hi), hc0, ht]
    by_cases e1 : o = 1
    · rw [if_neg (by omega), if_pos e1, e1]; exact h.used
    · rw [if_neg e1]
      by_cases e2 : o = 2 + i * 2
      · rw [if_neg (by omega), if_pos e2, e2, ← hv]; exact h.bytes i hi
      · rw [if_neg e2]) (by
    intro o ho
    rw [World.frozen?_setCell, World.frozen?_setCell]
    exact h.froz o ho)
  exact ⟨q1.drew, q2.drew⟩

set_option maxHeartbeats 400000 in
set_option maxRecDepth 20000 in
theorem tear_yes {w : World} {b room : Nat} {A : Nat → List UInt8} {S : Nat → Nat} {own : Nat → Prop} (h : Dk w b room A S own) (i : Nat) (hi : i < 256) (most : Int) (hmost : most ≤ 9223372036854775807) (t : UInt8) :
    Calls Try.prog 43 #[.pointer (some ⟨b, 0, none⟩), .pointer (some ⟨b, 2 + i * 2, none⟩), .int .i64 most, .int .u8 (t.toNat : Int)] w fun e w' => e = .returned (.tuple #[]) ∧
      Dk w' b room (upd A i (torn (A i) (S i) (keeps most ((A i).length - S i)) t)) (upd S i (S i + keeps most ((A i).length - S i))) (since own w) ∧ Kept b own w w' := by
  have HK : Hid (Dk w b room A S own) := h
  obtain ⟨V, h⟩ := h
  have hle := h.leSure i hi
  have hlen := h.len hi
  have h2 := h.bytes i hi
  have h3 := h.sure i hi
  obtain ⟨ao, cap, hv⟩ := (h.row i hi).form
  rw [hv] at h2
  have hlo := loose_any w b (2 + i * 2) _ cap ao (S i) h2 h3 hle (by omega)
  obtain ⟨x, hx⟩ : ∃ x, x = (A i).length - S i := ⟨_, rfl⟩
  rw [← hx] at hlo ⊢
  obtain ⟨s, hs⟩ : ∃ s, s = S i := ⟨_, rfl⟩
  obtain ⟨k, hk⟩ : ∃ k, k = keeps most x := ⟨_, rfl⟩
  have hkx := keeps_le most x
  rw [← hk] at hkx ⊢
  have hcut := cut_yes HK.out.drew i (s + k) hi (by omega)
  rw [Int.natCast_add, ← hs, Nat.min_eq_left (by omega : s ≤ s + k)] at hcut
  have HCut : Hid _ := hcut
  have HLo : Hid _ := hlo
  rw [← hs] at h3 ⊢
  have HE : Hid (s + k ≤ (A i).length) := by show s + k ≤ _; omega
  have hs4 : s ≤ 16777216 := by omega
  have hx4 : x ≤ 16777216 := by omega
  obtain ⟨L, hL⟩ : ∃ L, L = torn (A i) s k t := ⟨_, rfl⟩
  rw [← hL]
  have HL : Hid (L = torn (A i) s k t) := hL
  obtain ⟨m, hm⟩ : ∃ m : Nat, m = most.toNat := ⟨_, rfl⟩
  have hmod : (m : Int) % ((x : Int) + 1) = (k : Int) := by rw [hk, hm]; unfold keeps; simp
  have hm4 : (m : Int) ≤ 9223372036854775807 := by omega
  have HX : Hid (most = (m : Int) ∨ (most < 0 ∧ m = 0)) := by show _ ∨ _; omega
  clear h h2 hle hlen hv hcut hlo hs hk hx hL hm
  have hm0 : m = 0 → k = 0 := by intro e; subst e; simp at hmod; omega
  rcases HX.out with e | ⟨e1, e2⟩
  · subst e
    by_cases tm : 0 < m
    · go_enter Try.func43, Try.ntmps43
      go_wp2_with fail
      refine Calls.mono HLo.out ?_
      rintro e w1 ⟨rfl, rfl⟩
      go_wp2_with fail
      rw [hmod]
      refine Calls.mono HCut.out ?_
      rintro e w1 ⟨rfl, hd, hkp⟩
      clear hmod tm hm0
      obtain ⟨V1, hv1⟩ := hd
      have HV1 : Hid (DkV w1 b room (upd A i ((A i).take (s + k))) (upd S i s) (since own w.drew) V1) := hv1
      have HKp : Hid (Kept b own w w1) := ⟨hkp.os, hkp.tape, hkp.output, hkp.size, hkp.block⟩
      have b2 := hv1.bytes i hi
      have b3 := hv1.sure i hi
      have f3 := hv1.froz (2 + i * 2 + 1) (by omega)
      have hrow := hv1.row i hi
      rw [upd_same] at b3 hrow
      have htl : ((A i).take (s + k)).length = s + k := by rw [List.length_take]; have := HE.out; omega
      have Htl : Hid (((A i).take (s + k)).length = s + k) := htl
      by_cases ek : k = 0
      · subst ek
        obtain ⟨ao1, cap1, hv⟩ := hrow.form
        rw [htl, Nat.add_zero] at hv
        rw [hv] at b2
        clear hv1 hkp hrow htl hv
        go_wp2
        have hx := HV1.out.setSure hi (s' := s) (by rw [upd_same, Htl.out]; omega)
        have eL : L = (A i).take (s + 0) := by rw [HL.out]; simp [torn]
        rw [upd_upd, ← eL] at hx
        exact bodyPost_end (v := .tuple #[]) (by simp [results, Try.results43]) rfl ⟨rfl, Dk.wider ⟨V1, hx⟩ (fun _ _ e => e), HKp.out.setCell ⟨b, 2 + i * 2 + 1, none⟩ (.inl rfl) _⟩
      · obtain ⟨j, hj⟩ : ∃ j, s + k = j + 1 := ⟨s + k - 1, by omega⟩
        obtain ⟨hq, ⟨hv, hz⟩ | ⟨g, cap1, cur, hv, hbg, hg, hnc, hcm, hcs, htk⟩⟩ := hrow
        · exfalso; omega
        rw [htl, hj] at hv
        rw [hv] at b2
        have hjl : j < (A i).length := by have := HE.out; omega
        obtain ⟨c, hc⟩ : ∃ c, c = (A i)[j] := ⟨_, rfl⟩
        have hown : OwnB w1 (b + 1) 5 (.slice (some ⟨g, 0, none⟩) ((A i).take (s + k)).length cap1) ((A i).take (s + k)) := ⟨hq, .inr ⟨g, cap1, cur, rfl, hbg, hg, hnc, hcm, hcs, htk⟩⟩
        have cj : w1.cell? ⟨g, j, none⟩ = some (.int .u8 (c.toNat : Int)) := by
          rw [World.ownsRow.cellAt hown j (by omega)]
          have : j < s + k := by omega
          simp [Lib.byteCells, hc, this, hjl]
        have fj : w1.frozen? ⟨g, j, none⟩ = false := World.ownsRow.frozenAt hown j
        have hxor : bits BinOp.xor IntKind.u8 (c.toNat : Int) (t.toNat : Int) = ((c ^^^ t).toNat : Int) := by
          rw [xor8 _ _ c.toNat_lt t.toNat_lt, UInt8.toNat_xor]
        obtain ⟨y, hy⟩ : ∃ y, y = c ^^^ t := ⟨_, rfl⟩
        rw [← hy] at hxor
        have hgb : ¬ (g = b) := by omega
        have hk0 : 0 < k := by omega
        have hj4 : j ≤ 33554432 := by omega
        have Hv : Hid (V1 i = .slice (some ⟨g, 0, none⟩) (j + 1) cap1) := hv
        have Hj : Hid (s + k = j + 1) := hj
        have Hc : Hid (L = ((A i).take (s + k)).set j y) := by
          show L = _
          rw [HL.out]
          unfold torn
          rw [if_neg ek, show s + k - 1 = j by omega, hy, hc]
          simp [hjl]
        clear hv1 hkp hq hbg hg hnc hcm hcs htk hown htl hv hj ek hc hjl hy
        go_wp2
        go_region
        go_wp2
        have hv2 : V1 i = .slice (some ⟨g, 0, none⟩) (upd A i ((A i).take (s + k)) i).length cap1 := by rw [upd_same, Htl.out, Hj.out]; exact Hv.out
        obtain ⟨q1, q2⟩ := HV1.out.tornHere hi hv2 j y
        rw [upd_same, upd_upd, upd_upd, Htl.out, ← Hc.out] at q1
        rw [upd_same, Htl.out] at q2
        have ec : ((s + k : Nat) : Int) = (j : Int) + 1 := by have := Hj.out; omega
        rw [ec] at q1 q2
        exact bodyPost_end (v := .tuple #[]) (by simp [results, Try.results43]) rfl ⟨rfl, Dk.wider q1 (since_since HKp.out.size), HKp.out.trans q2 (since_old _)⟩
    · have em : m = 0 := by omega
      have ek : k = 0 := hm0 em
      subst em ek
      have hcut := HCut.out
      simp only [Nat.add_zero, Int.natCast_zero, Int.add_zero] at hcut HL HE ⊢
      have HCut2 : Hid _ := hcut
      clear hmod tm hm0 HCut hcut
      go_enter Try.func43, Try.ntmps43
      go_wp2_with fail
      refine Calls.mono HLo.out ?_
      rintro e w1 ⟨rfl, rfl⟩
      go_wp2_with fail
      refine Calls.mono HCut2.out ?_
      rintro e w1 ⟨rfl, hd, hkp⟩
      obtain ⟨V1, hv1⟩ := hd
      have HV1 : Hid (DkV w1 b room (upd A i ((A i).take s)) (upd S i s) (since own w.drew) V1) := hv1
      have HKp : Hid (Kept b own w w1) := ⟨hkp.os, hkp.tape, hkp.output, hkp.size, hkp.block⟩
      have b2 := hv1.bytes i hi
      have b3 := hv1.sure i hi
      have f3 := hv1.froz (2 + i * 2 + 1) (by omega)
      have hrow := hv1.row i hi
      rw [upd_same] at b3 hrow
      have htl : ((A i).take s).length = s := by rw [List.length_take]; have := HE.out; omega
      have Htl : Hid (((A i).take s).length = s) := htl
      obtain ⟨ao1, cap1, hv⟩ := hrow.form
      rw [htl] at hv
      rw [hv] at b2
      clear hv1 hkp hrow htl hv
      go_wp2
      have hx := HV1.out.setSure hi (s' := s) (by rw [upd_same, Htl.out]; omega)
      have eL : L = (A i).take s := by rw [HL.out]; simp [torn]
      rw [upd_upd, ← eL] at hx
      exact bodyPost_end (v := .tuple #[]) (by simp [results, Try.results43]) rfl ⟨rfl, Dk.wider ⟨V1, hx⟩ (fun _ _ e => e), HKp.out.setCell ⟨b, 2 + i * 2 + 1, none⟩ (.inl rfl) _⟩
  · have ek : k = 0 := hm0 e2
    subst ek
    have hcut := HCut.out
    simp only [Nat.add_zero, Int.natCast_zero, Int.add_zero] at hcut HL HE ⊢
    have HCut2 : Hid _ := hcut
    clear hmod hm0 HCut hcut e2 hm4
    go_enter Try.func43, Try.ntmps43
    go_wp2_with fail
    refine Calls.mono HLo.out ?_
    rintro e w1 ⟨rfl, rfl⟩
    go_wp2_with fail
    refine Calls.mono HCut2.out ?_
    rintro e w1 ⟨rfl, hd, hkp⟩
    obtain ⟨V1, hv1⟩ := hd
    have HV1 : Hid (DkV w1 b room (upd A i ((A i).take s)) (upd S i s) (since own w.drew) V1) := hv1
    have HKp : Hid (Kept b own w w1) := ⟨hkp.os, hkp.tape, hkp.output, hkp.size, hkp.block⟩
    have b2 := hv1.bytes i hi
    have b3 := hv1.sure i hi
    have f3 := hv1.froz (2 + i * 2 + 1) (by omega)
    have hrow := hv1.row i hi
    rw [upd_same] at b3 hrow
    have htl : ((A i).take s).length = s := by rw [List.length_take]; have := HE.out; omega
    have Htl : Hid (((A i).take s).length = s) := htl
    obtain ⟨ao1, cap1, hv⟩ := hrow.form
    rw [htl] at hv
    rw [hv] at b2
    clear hv1 hkp hrow htl hv
    go_wp2
    have hx := HV1.out.setSure hi (s' := s) (by rw [upd_same, Htl.out]; omega)
    have eL : L = (A i).take s := by rw [HL.out]; simp [torn]
    rw [upd_upd, ← eL] at hx
    exact bodyPost_end (v := .tuple #[]) (by simp [results, Try.results43]) rfl ⟨rfl, Dk.wider ⟨V1, hx⟩ (fun _ _ e => e), HKp.out.setCell ⟨b, 2 + i * 2 + 1, none⟩ (.inl rfl) _⟩
end Go.Proofs.Ytpfnkjfbhcffiaa
