/-
  For all entries l, every index and every end of another log: RlogCompacts answers true: what is compacted changes nothing behind it; the arguments read afterwards as before. No condition.
-/
import Derived.Test.YtamoapbbkaagdaaRlTwo
import Derived.Test.YtamoapbbkaagdaaArr
import Derived.Test.YtamoapbbkaagdaaDkMask
import Derived.ProofKit
import Derived.OpenShut
import Derived.ShutString
import Derived.SizedLaws
import Derived.Deep.RegionHeld
namespace Go.Proofs.Ytamoapbbkaagdaa.rlogCompacts
open Go.ChangeShapes Go.WideShapes Go.ChangeAt Go.RowKit
open Go.ChangeMaps (open_string shut_string)

/-- What Compact leaves. -/
theorem cmp_in {s : G.L} (hb : s.base = 0) {k : Nat} (hk : k ≤ s.ents.length) : G.termE s (k : Int) = 0 ∧ G.cmp s (k : Int) = ⟨(k : Int), G.termAt s (k : Int), s.ents.drop k⟩ := by
  have e : G.termE s (k : Int) = 0 := by
    unfold G.termE
    rw [G.within_zero]
    unfold G.last
    omega
  refine ⟨e, ?_⟩
  unfold G.cmp
  rw [if_pos e, hb, Int.sub_zero, Int.toNat_natCast]

theorem cmp_last {s : G.L} (hb : s.base = 0) {k : Nat} (hk : k ≤ s.ents.length) : G.last (G.cmp s (k : Int)) = G.last s := by
  rw [(cmp_in hb hk).2]
  unfold G.last
  simp only [List.length_drop]
  omega

theorem cmp_termAt {s : G.L} (hb : s.base = 0) {k : Nat} (hk : k ≤ s.ents.length) {i : Int} (hi : (k : Int) ≤ i) : G.termAt (G.cmp s (k : Int)) i = G.termAt s i := by
  rw [(cmp_in hb hk).2]
  by_cases e : i = (k : Int)
  · rw [e]
    show (if (k : Int) = (k : Int) then G.termAt s (k : Int) else _) = _
    rw [if_pos rfl]
  · have e2 : (s.ents.drop k)[(i - (k : Int) - 1).toNat]? = s.ents[(i - s.base - 1).toNat]? := by
      rw [List.getElem?_drop]
      congr 1
      omega
    unfold G.termAt
    dsimp only
    rw [if_neg e, if_neg (show ¬ i = s.base by omega), e2]

theorem cmp_entAt {s : G.L} (hb : s.base = 0) {k : Nat} (hk : k ≤ s.ents.length) {i : Int} (hi : (k : Int) < i) : G.entAt (G.cmp s (k : Int)) i = G.entAt s i := by
  rw [(cmp_in hb hk).2]
  unfold G.entAt
  have e2 : (s.ents.drop k)[(i - (k : Int) - 1).toNat]? = s.ents[(i - s.base - 1).toNat]? := by
    rw [List.getElem?_drop]
    congr 1
    omega
  dsimp only
  rw [e2]

theorem cmp_newer {s : G.L} (hb : s.base = 0) {k : Nat} (hk : k ≤ s.ents.length) (i t : Int) : G.newer (G.cmp s (k : Int)) i t = G.newer s i t := by
  unfold G.newer
  rw [cmp_last hb hk, cmp_termAt hb hk (by unfold G.last; omega)]

/-- The answers at an index, of both logs. -/
theorem at_i {s : G.L} (hb : s.base = 0) {k : Nat} (hk : k ≤ s.ents.length) {i : Nat} (hi : i ≤ s.ents.length) :
    G.termE s (i : Int) = 0 ∧ (i < k → G.termE (G.cmp s (k : Int)) (i : Int) = 60) ∧ (k ≤ i → G.termE (G.cmp s (k : Int)) (i : Int) = 0 ∧ G.termA (G.cmp s (k : Int)) (i : Int) = G.termA s (i : Int)) ∧
    (i ≤ k → G.entryE (G.cmp s (k : Int)) (i : Int) = 60) ∧ (k < i → G.entryE (G.cmp s (k : Int)) (i : Int) = 0 ∧ G.entryA (G.cmp s (k : Int)) (i : Int) = G.entryA s (i : Int)) := by
  have e0 : G.termE s (i : Int) = 0 := by unfold G.termE; rw [G.within_zero]; unfold G.last; omega
  have hl := cmp_last hb hk
  have hbb : (G.cmp s (k : Int)).base = (k : Int) := by rw [(cmp_in hb hk).2]
  refine ⟨e0, fun h => ?_, fun h => ?_, fun h => ?_, fun h => ?_⟩
  · unfold G.termE G.within
    rw [hbb, if_pos (by omega)]
  · have e1 : G.termE (G.cmp s (k : Int)) (i : Int) = 0 := by unfold G.termE; rw [G.within_zero, hbb, hl]; unfold G.last; omega
    refine ⟨e1, ?_⟩
    unfold G.termA
    rw [if_pos e1, if_pos e0, cmp_termAt hb hk (by omega)]
  · unfold G.entryE G.within
    rw [hbb, if_pos (by omega)]
  · have e1 : G.entryE (G.cmp s (k : Int)) (i : Int) = 0 := by unfold G.entryE; rw [G.within_zero, hbb, hl]; unfold G.last; omega
    have e2 : G.entryE s (i : Int) = 0 := by unfold G.entryE; rw [G.within_zero, hb]; unfold G.last; omega
    refine ⟨e1, ?_⟩
    unfold G.entryA
    rw [if_pos e1, if_pos e2, cmp_entAt hb hk (by omega)]

theorem app_base (s : G.L) (x : Int × ByteArray) : (G.app s x).base = s.base := by unfold G.app; split <;> rfl

theorem and_65535 (x : Int) : bits .and .i64 x 65535 = x % 65536 := by
  have h1 : (BitVec.ofInt 64 (65535 : Int)).toNat = 2 ^ 16 - 1 := by decide
  have h2 : (BitVec.ofInt 64 x).toNat = (x % 18446744073709551616).toNat := by rw [BitVec.toNat_ofInt]; rfl
  show IntKind.i64.wrap ((BitVec.ofInt 64 x &&& BitVec.ofInt 64 65535).toNat : Int) = _
  rw [BitVec.toNat_and, h1, h2, Nat.and_two_pow_sub_one_eq_mod, wraps_i64 _ (by omega) (by rw [pow63]; omega)]
  omega

theorem mod_index (x : Int) (n : Nat) : (bits .and .i64 x 65535).tmod ((n : Int) + 1) = (((x % 65536).toNat % (n + 1) : Nat) : Int) := by
  rw [and_65535, Int.tmod_eq_emod_of_nonneg (Int.emod_nonneg _ (by decide))]
  have h : (x % 65536) = (((x % 65536).toNat : Nat) : Int) := by omega
  rw [h, Int.toNat_natCast]
  rw [Int.natCast_emod]
  rfl

set_option maxHeartbeats 3200000 in
set_option maxRecDepth 20000 in
theorem walk (v0 : Value) (a0 : List (Int × ByteArray)) (a1 : Int) (a2 c2 : Int) (w0 : World) (b0 : Elems w0 2 (fun x : Int × ByteArray => [.int .i64 x.1, .string x.2]) EntIn v0 a0) (_b1 : -9223372036854775808 ≤ a1 ∧ a1 ≤ 9223372036854775807) (_b2 : (-9223372036854775808 ≤ a2 ∧ a2 ≤ 9223372036854775807) ∧ (-9223372036854775808 ≤ c2 ∧ c2 ≤ 9223372036854775807)) :
    Calls Try.prog 5 #[v0, .int .i64 a1, .agg #[.int .i64 a2, .int .i64 c2]] w0 fun e w' => e = .returned (.bool true) ∧ Below w0.heap.size w0 w' := by
  have HA : Hid (∀ u : World, Calls Try.prog 8 #[] u fun e w' => e = .returned (.bool true) ∧ Below u.heap.size u w') := awake_c
  have HN : Hid _ := fun u : World => New_yes u 0 0 (by omega)
  obtain ⟨w, hw⟩ : ∃ w, w = w0.alloc (.cells #[.int .i64 a2, .int .i64 c2] 47) := ⟨_, rfl⟩
  have HW : Hid (Below w0.heap.size w0 w) := by rw [hw]; exact below_alloc _ _
  obtain ⟨be, hbe⟩ : ∃ be, be = w0.heap.size := ⟨_, rfl⟩
  have HE : Hid (∀ j, w.cell? ⟨be, j, none⟩ = (#[.int .i64 a2, .int .i64 c2] : Array Value)[j]?) := by intro j; rw [hw, hbe]; exact World.cell?_alloc_mark w0 _ _ _ j
  have HBE : Hid (be < w.heap.size) := by show be < w.heap.size; rw [hw, hbe]; simp
  have b0 := b0.below (w' := w) (fun k hk => HW.out.block k hk) HW.out.size
  have KA : Hid (∀ X Bx By sx sy (x : Int × ByteArray), Two w X Bx By sx sy → Calls Try.prog 13 #[.pointer (some ⟨Bx, 0, none⟩), .agg #[.int .i64 x.1, .string x.2]] X fun e w' => e = .returned (.tuple #[.int .i64 (G.appA sx x), .int .i64 (G.appE sx x)]) ∧ Two w w' Bx By (G.app sx x) sy) := by
    intro X Bx By sx sy x hX
    obtain ⟨ox, h1, h2⟩ := hX.left
    refine (Append_c h1 x).mono ?_
    rintro e w' ⟨he, ha⟩
    exact ⟨he, h2 _ _ ha⟩
  have KL : Hid (∀ X Bx By sx sy, Two w X Bx By sx sy → Calls Try.prog 16 #[.pointer (some ⟨Bx, 0, none⟩)] X fun e w' => e = .returned (.int .i64 (G.last sx)) ∧ Two w w' Bx By sx sy) := by
    intro X Bx By sx sy hX
    obtain ⟨ox, h1, h2⟩ := hX.left
    refine (Last_c h1).mono ?_
    rintro e w' ⟨he, hw⟩
    exact ⟨he, by rw [hw]; exact hX.below (below_drewN _ 1)⟩
  have KB : Hid (∀ X Bx By sx sy, Two w X Bx By sx sy → Calls Try.prog 17 #[.pointer (some ⟨Bx, 0, none⟩)] X fun e w' => e = .returned (.int .i64 sx.base) ∧ Two w w' Bx By sx sy) := by
    intro X Bx By sx sy hX
    obtain ⟨ox, h1, h2⟩ := hX.left
    refine (Base_c h1).mono ?_
    rintro e w' ⟨he, hw⟩
    exact ⟨he, by rw [hw]; exact hX⟩
  have KC : Hid (∀ X Bx By sx sy i, Two w X Bx By sx sy → Calls Try.prog 15 #[.pointer (some ⟨Bx, 0, none⟩), .int .i64 i] X fun e w' => e = .returned (.int .i64 (G.termE sx i)) ∧ Two w w' Bx By (G.cmp sx i) sy) := by
    intro X Bx By sx sy i hX
    obtain ⟨ox, h1, h2⟩ := hX.left
    refine (Compact_c h1 i).mono ?_
    rintro e w' ⟨he, ha⟩
    exact ⟨he, h2 _ _ ha⟩
  have KT : Hid (∀ X Bx By sx sy i, Two w X Bx By sx sy → Calls Try.prog 18 #[.pointer (some ⟨Bx, 0, none⟩), .int .i64 i] X fun e w' => e = .returned (.tuple #[.int .i64 (G.termA sx i), .int .i64 (G.termE sx i)]) ∧ Two w w' Bx By sx sy) := by
    intro X Bx By sx sy i hX
    obtain ⟨ox, h1, h2⟩ := hX.left
    refine (Term_c h1 i).mono ?_
    rintro e w' ⟨he, m, hw⟩
    exact ⟨he, by rw [hw]; exact hX.below (below_drewN _ m)⟩
  have KE : Hid (∀ X Bx By sx sy i, Two w X Bx By sx sy → Calls Try.prog 20 #[.pointer (some ⟨Bx, 0, none⟩), .int .i64 i] X fun e w' => e = .returned (.tuple #[.agg #[.int .i64 (G.entryA sx i).1, .string (G.entryA sx i).2], .int .i64 (G.entryE sx i)]) ∧ Two w w' Bx By sx sy ∧ Below X.heap.size X w') := by
    intro X Bx By sx sy i hX
    obtain ⟨ox, h1, h2⟩ := hX.left
    refine (Entry_c h1 i).mono ?_
    rintro e w' ⟨he, hb⟩
    exact ⟨he, hX.below hb, hb⟩
  have KN : Hid (∀ X Bx By sx sy i t, Two w X Bx By sx sy → Calls Try.prog 19 #[.pointer (some ⟨Bx, 0, none⟩), .int .i64 i, .int .i64 t] X fun e w' => e = .returned (.bool (G.newer sx i t)) ∧ Two w w' Bx By sx sy) := by
    intro X Bx By sx sy i t hX
    obtain ⟨ox, h1, h2⟩ := hX.left
    refine (Newer_c h1 i t).mono ?_
    rintro e w' ⟨he, m, hw⟩
    exact ⟨he, by rw [hw]; exact hX.below (below_drewN _ m)⟩
  obtain ⟨p0, c0, rfl, hc0, hm0, _, k0⟩ := b0
  obtain ⟨n0, hn0⟩ : ∃ n, n = a0.length := ⟨_, rfl⟩
  rw [← hn0] at hc0 ⊢
  have HK0 : Hid _ := k0
  have HL0 : Hid _ := hn0
  clear k0 hn0 hm0 _b1 _b2
  by_cases t0 : n0 ≤ 100
  · go_enter Try.func5, Try.ntmps5
    go_wp2_with fail
    rw [← hw]
    try rw [← hbe]
    clear hw hbe
    refine Calls.mono (HN.out _) ?_
    rintro e w1 ⟨rfl, hl1, hb1⟩
    have H1 : Hid _ := hl1
    have B1 : Hid _ := hb1
    clear hl1 hb1
    go_wp2_with fail
    refine Calls.mono (HN.out _) ?_
    rintro e w2 ⟨rfl, hl2, hb2⟩
    have HT : Hid (Two w w2 w.heap.size w1.heap.size ⟨0, 0, []⟩ ⟨0, 0, []⟩) := Two.make H1.out B1.out hl2 hb2
    clear hl2 hb2 H1 B1
    obtain ⟨Bx, hBx⟩ : ∃ Bx, Bx = w.heap.size := ⟨_, rfl⟩
    obtain ⟨By, hBy⟩ : ∃ By, By = w1.heap.size := ⟨_, rfl⟩
    rw [← hBy, ← hBx] at HT
    go_wp2
    rw [← hBx, ← hBy]
    clear hBx hBy
    go_loopw [11] (fun x wr => ∃ (k : Nat) (s : G.L), x = .int .i64 (k : Int) ∧ k ≤ n0 ∧ Hid (s.base = 0 ∧ Two w wr Bx By s s)) (fun x _ => n0 - (intOf x).toNat)
    case atStart => exact ⟨0, _, rfl, Nat.zero_le _, rfl, HT.out⟩
    case round =>
      clear HT
      obtain ⟨k, s, rfl, hk2, HT⟩ := hrel
      by_cases hlt : k < n0
      · obtain ⟨x, hx⟩ : ∃ x, a0[k]? = some x := ⟨_, List.getElem?_eq_getElem (by have := HL0.out; omega)⟩
        obtain ⟨g, o, rfl, hg, hcell⟩ : ∃ g o, p0 = some ⟨g, o, none⟩ ∧ g < w.heap.size ∧ ∀ q u, ([.int .i64 x.1, .string x.2] : List Value)[q]? = some u → w.cell? ⟨g, o + k * 2 + q, none⟩ = some u := by
          rcases HK0.out with e | ⟨g, o, h1, h2, h3⟩
          · rw [e] at hx; simp at hx
          · exact ⟨g, o, h1, h2, h3 k x hx⟩
        have HC0 : Hid (∀ X, Two w X Bx By s s ∨ Two w X By Bx s (G.app s x) ∨ Two w X Bx By (G.app s x) s → X.cell? ⟨g, o + k * 2, none⟩ = some (.int .i64 x.1) ∧ X.cell? ⟨g, o + k * 2 + 1, none⟩ = some (.string x.2)) := by
          intro X hX
          have hb : Below w.heap.size w X := by
            rcases hX with h | h | h
            · exact h.old
            · exact h.old
            · exact h.old
          exact ⟨(hb.cell (p := ⟨g, o + k * 2, none⟩) hg).trans (hcell 0 _ rfl), (hb.cell (p := ⟨g, o + k * 2 + 1, none⟩) hg).trans (hcell 1 _ rfl)⟩
        obtain ⟨y0, y1⟩ := HC0.out wr (.inl HT.out.2)
        have HA1 : Hid _ := KA.out wr Bx By s s x HT.out.2
        have HA2 : Hid (∀ X, Two w X Bx By (G.app s x) s → Calls Try.prog 13 #[.pointer (some ⟨By, 0, none⟩), .agg #[.int .i64 x.1, .string x.2]] X fun e w' => e = .returned (.tuple #[.int .i64 (G.appA s x), .int .i64 (G.appE s x)]) ∧ Two w w' Bx By (G.app s x) (G.app s x)) := by
          intro X hX
          refine (KA.out X By Bx s (G.app s x) x hX.swap).mono ?_
          rintro e w' ⟨he, h⟩
          exact ⟨he, h.swap⟩
        have HSB : Hid ((G.app s x).base = 0) := by rw [app_base]; exact HT.out.1
        generalize G.app s x = s' at HA1 HA2 HC0 HSB
        generalize G.appA s x = i1 at HA1 HA2
        generalize G.appE s x = i2 at HA1 HA2
        obtain ⟨t, d⟩ := x
        dsimp only at y0 y1 HA1 HA2 HC0
        have hk0 : (0 : Int) ≤ (k : Int) := by omega
        have hk1 : (k : Int) < (n0 : Int) := by omega
        clear hcell hg hx
        by_cases hd : d.size ≤ 4096
        · have d1 : decide ((4096 : Int) < (d.size : Int)) = false := decide_eq_false (by omega)
          clear hd
          go_wp2_with fail
          refine Calls.mono HA1.out ?_
          rintro e w3 ⟨rfl, h3⟩
          have H3 : Hid (Two w w3 Bx By s' s) := h3
          obtain ⟨z0, z1⟩ := HC0.out w3 (.inr (.inr h3))
          clear h3 y0 y1
          go_wp2_with fail
          refine Calls.mono (HA2.out _ H3.out) ?_
          rintro e w4 ⟨rfl, h4⟩
          have H4 : Hid (Two w w4 Bx By s' s') := h4
          clear h4 z0 z1
          go_wp2
          go_roundw
          case rel => exact ⟨k + 1, s', by go_num, by omega, HSB.out, H4.out⟩
          case measure => simp [intOf]; omega
        · have d1 : decide ((4096 : Int) < (d.size : Int)) = true := decide_eq_true (by omega)
          clear hd
          go_wp2_with fail
          refine (HA.out _).mono ?_
          rintro e w3 ⟨rfl, hb3⟩
          have HB3 : Hid (Below w0.heap.size w0 w3) := HW.out.trans (Below.mono ((Two.old HT.out.2).trans (hb3.mono (Two.old HT.out.2).size)) HW.out.size)
          clear hb3
          go_wp2
          go_ret
          exact ⟨rfl, HB3.out⟩
      · obtain rfl : k = n0 := by omega
        clear hlt hk2
        obtain ⟨n, hn⟩ : ∃ n : Nat, n = s.ents.length := ⟨_, rfl⟩
        have hlast : G.last s = (n : Int) := by unfold G.last; rw [HT.out.1, hn]; omega
        have hok := HT.out.2.ok.1.len.1
        obtain ⟨kk, hkk⟩ : ∃ kk : Nat, kk = (a1 % 65536).toNat % (n + 1) := ⟨_, rfl⟩
        have hq : (bits .and .i64 a1 65535).tmod ((n : Int) + 1) = (kk : Int) := by rw [mod_index, hkk]
        have hkn : kk ≤ n := by have := Nat.mod_lt (a1 % 65536).toNat (show 0 < n + 1 by omega); omega
        have hks : kk ≤ s.ents.length := by rw [← hn]; exact hkn
        obtain ⟨s2, hs2⟩ : ∃ s2, s2 = G.cmp s (kk : Int) := ⟨_, rfl⟩
        obtain ⟨nb, hnb⟩ : ∃ nb, nb = G.newer s a2 c2 := ⟨_, rfl⟩
        have hs2b : s2.base = (kk : Int) := by rw [hs2, (cmp_in HT.out.1 hks).2]
        have hs2l : G.last s2 = (n : Int) := by rw [hs2, cmp_last HT.out.1 hks, hlast]
        have KL0 : Hid (∀ X, Two w X Bx By s s → Calls Try.prog 16 #[.pointer (some ⟨Bx, 0, none⟩)] X fun e w' => e = .returned (.int .i64 (n : Int)) ∧ Two w w' Bx By s s) := by
          intro X hX
          have := KL.out X Bx By s s hX
          rw [hlast] at this
          exact this
        have KCm : Hid (∀ X, Two w X Bx By s s → Calls Try.prog 15 #[.pointer (some ⟨By, 0, none⟩), .int .i64 (kk : Int)] X fun e w' => e = .returned (.int .i64 0) ∧ Two w w' Bx By s s2) := by
          intro X hX
          refine (KC.out X By Bx s s _ hX.swap).mono ?_
          rintro e w' ⟨he, h⟩
          rw [(cmp_in HT.out.1 hks).1] at he
          rw [hs2]
          exact ⟨he, h.swap⟩
        have KBa : Hid (∀ X, Two w X Bx By s s2 → Calls Try.prog 17 #[.pointer (some ⟨By, 0, none⟩)] X fun e w' => e = .returned (.int .i64 (kk : Int)) ∧ Two w w' Bx By s s2) := by
          intro X hX
          refine (KB.out X By Bx s2 s hX.swap).mono ?_
          rintro e w' ⟨he, h⟩
          rw [hs2b] at he
          exact ⟨he, h.swap⟩
        have KL1 : Hid (∀ X, Two w X Bx By s s2 → Calls Try.prog 16 #[.pointer (some ⟨Bx, 0, none⟩)] X fun e w' => e = .returned (.int .i64 (n : Int)) ∧ Two w w' Bx By s s2) := by
          intro X hX
          have := KL.out X Bx By s s2 hX
          rw [hlast] at this
          exact this
        have KL2 : Hid (∀ X, Two w X Bx By s s2 → Calls Try.prog 16 #[.pointer (some ⟨By, 0, none⟩)] X fun e w' => e = .returned (.int .i64 (n : Int)) ∧ Two w w' Bx By s s2) := by
          intro X hX
          refine (KL.out X By Bx s2 s hX.swap).mono ?_
          rintro e w' ⟨he, h⟩
          rw [hs2l] at he
          exact ⟨he, h.swap⟩
        have KN1 : Hid (∀ X, Two w X Bx By s s2 → Calls Try.prog 19 #[.pointer (some ⟨Bx, 0, none⟩), .int .i64 a2, .int .i64 c2] X fun e w' => e = .returned (.bool nb) ∧ Two w w' Bx By s s2) := by
          intro X hX
          have := KN.out X Bx By s s2 a2 c2 hX
          rw [← hnb] at this
          exact this
        have KN2 : Hid (∀ X, Two w X Bx By s s2 → Calls Try.prog 19 #[.pointer (some ⟨By, 0, none⟩), .int .i64 a2, .int .i64 c2] X fun e w' => e = .returned (.bool nb) ∧ Two w w' Bx By s s2) := by
          intro X hX
          refine (KN.out X By Bx s2 s a2 c2 hX.swap).mono ?_
          rintro e w' ⟨he, h⟩
          rw [hs2, cmp_newer HT.out.1 hks, ← hnb] at he
          exact ⟨he, h.swap⟩
        have KT1 : Hid (∀ X i, Two w X Bx By s s2 → Calls Try.prog 18 #[.pointer (some ⟨Bx, 0, none⟩), .int .i64 i] X fun e w' => e = .returned (.tuple #[.int .i64 (G.termA s i), .int .i64 (G.termE s i)]) ∧ Two w w' Bx By s s2) := fun X i hX => KT.out X Bx By s s2 i hX
        have KT2 : Hid (∀ X i, Two w X Bx By s s2 → Calls Try.prog 18 #[.pointer (some ⟨By, 0, none⟩), .int .i64 i] X fun e w' => e = .returned (.tuple #[.int .i64 (G.termA s2 i), .int .i64 (G.termE s2 i)]) ∧ Two w w' Bx By s s2) := by
          intro X i hX
          refine (KT.out X By Bx s2 s i hX.swap).mono ?_
          rintro e w' ⟨he, h⟩
          exact ⟨he, h.swap⟩
        have KE1 : Hid (∀ X i, Two w X Bx By s s2 → Calls Try.prog 20 #[.pointer (some ⟨Bx, 0, none⟩), .int .i64 i] X fun e w' => e = .returned (.tuple #[.agg #[.int .i64 (G.entryA s i).1, .string (G.entryA s i).2], .int .i64 (G.entryE s i)]) ∧ Two w w' Bx By s s2 ∧ Below X.heap.size X w') := fun X i hX => KE.out X Bx By s s2 i hX
        have KE2 : Hid (∀ X i, Two w X Bx By s s2 → Calls Try.prog 20 #[.pointer (some ⟨By, 0, none⟩), .int .i64 i] X fun e w' => e = .returned (.tuple #[.agg #[.int .i64 (G.entryA s2 i).1, .string (G.entryA s2 i).2], .int .i64 (G.entryE s2 i)]) ∧ Two w w' Bx By s s2 ∧ Below X.heap.size X w') := by
          intro X i hX
          refine (KE.out X By Bx s2 s i hX.swap).mono ?_
          rintro e w' ⟨he, h, hb⟩
          exact ⟨he, h.swap, hb⟩
        have HAt : Hid (∀ i : Nat, i ≤ n → G.termE s (i : Int) = 0 ∧ (i < kk → G.termE s2 (i : Int) = 60) ∧ (kk ≤ i → G.termE s2 (i : Int) = 0 ∧ G.termA s2 (i : Int) = G.termA s (i : Int)) ∧ (i ≤ kk → G.entryE s2 (i : Int) = 60) ∧ (kk < i → G.entryE s2 (i : Int) = 0 ∧ G.entryA s2 (i : Int) = G.entryA s (i : Int))) := by
          intro i hi
          rw [hs2]
          exact at_i HT.out.1 hks (by rw [← hn]; exact hi)
        have HC : Hid (∀ X, Two w X Bx By s s ∨ Two w X Bx By s s2 → X.cell? ⟨be, 0, none⟩ = some (.int .i64 a2) ∧ X.cell? ⟨be, 1, none⟩ = some (.int .i64 c2)) := by
          intro X hX
          have hb : Below w.heap.size w X := by
            rcases hX with h | h
            · exact h.old
            · exact h.old
          exact ⟨(hb.cell (p := ⟨be, 0, none⟩) HBE.out).trans (HE.out 0), (hb.cell (p := ⟨be, 1, none⟩) HBE.out).trans (HE.out 1)⟩
        have HT2 : Hid (Two w wr Bx By s s) := HT.out.2
        have hnn : (nb != nb) = false := by simp
        rw [← hn] at hok
        clear hn hlast hkk hks hs2 hnb hs2b hs2l KA KL KB KC KT KE KN HT HK0 HL0 HN
        go_wp2_with fail
        refine Calls.mono (KL0.out _ HT2.out) ?_
        rintro e w3 ⟨rfl, h3⟩
        have hR0 : Two w w3.drew Bx By s s := h3.below (below_drewN _ 1)
        clear h3 HT2
        go_wp2
        go_region_held (fun X => X.cell? ⟨be, 0, none⟩ = some (.int .i64 a2) ∧ X.cell? ⟨be, 1, none⟩ = some (.int .i64 c2))
          (first | exact HC.out _ (.inl (by assumption)) | exact HC.out _ (.inr (by assumption)))
          (first
            | (go_at_call 15; refine (KCm.out _ ?_).mono ?_; assumption; rintro e w4 ⟨rfl, hg4⟩)
            | (go_at_call 17; refine (KBa.out _ ?_).mono ?_; assumption; rintro e w5 ⟨rfl, hg5⟩)
            | (go_at_call_of 16 Bx; refine (KL1.out _ ?_).mono ?_; assumption; rintro e w6 ⟨rfl, hg6⟩)
            | (go_at_call_of 16 By; refine (KL2.out _ ?_).mono ?_; assumption; rintro e w7 ⟨rfl, hg7⟩)
            | (go_at_call_of 19 Bx; refine (KN1.out _ ?_).mono ?_; assumption; rintro e w8 ⟨rfl, hg8⟩)
            | (go_at_call_of 19 By; refine (KN2.out _ ?_).mono ?_; assumption; rintro e w9 ⟨rfl, hg9⟩))
        have HR : Hid (Two w w9 Bx By s s2) := hg9
        clear hg4 hg5 hg6 hg7 hg8 hg9 hR0 hq
        go_wp2
        go_loopw [13] (fun x wr => ∃ (i : Nat), x = .int .i64 (i : Int) ∧ i ≤ n + 1 ∧ Hid (Two w wr Bx By s s2)) (fun x _ => n + 1 - (intOf x).toNat)
        case atStart => exact ⟨0, rfl, Nat.zero_le _, HR⟩
        case round =>
          clear HR
          obtain ⟨i, rfl, hi2, HR⟩ := hrel
          by_cases hlt : i ≤ n
          · obtain ⟨e0, e1, e2, e3, e4⟩ := HAt.out i hlt
            have hi0 : (i : Int) ≤ (n : Int) := by omega
            obtain ⟨tA, htA⟩ : ∃ tA, tA = G.termA s (i : Int) := ⟨_, rfl⟩
            obtain ⟨xx, hxx⟩ : ∃ xx, xx = G.entryA s (i : Int) := ⟨_, rfl⟩
            obtain ⟨xE, hxE⟩ : ∃ xE, xE = G.entryE s (i : Int) := ⟨_, rfl⟩
            have KT1i : Hid (∀ X, Two w X Bx By s s2 → Calls Try.prog 18 #[.pointer (some ⟨Bx, 0, none⟩), .int .i64 (i : Int)] X fun e w' => e = .returned (.tuple #[.int .i64 tA, .int .i64 0]) ∧ Two w w' Bx By s s2) := by
              intro X hX
              have := KT1.out X (i : Int) hX
              rw [e0, ← htA] at this
              exact this
            have KE1i : Hid (∀ X, Two w X Bx By s s2 → Calls Try.prog 20 #[.pointer (some ⟨Bx, 0, none⟩), .int .i64 (i : Int)] X fun e w' => e = .returned (.tuple #[.agg #[.int .i64 xx.1, .string xx.2], .int .i64 xE]) ∧ Two w w' Bx By s s2 ∧ Below X.heap.size X w') := by
              intro X hX
              have := KE1.out X (i : Int) hX
              rw [← hxx, ← hxE] at this
              exact this
            have HS : (i < kk ∧ G.termE s2 (i : Int) = 60 ∧ G.entryE s2 (i : Int) = 60) ∨ (i = kk ∧ G.termE s2 (i : Int) = 0 ∧ G.termA s2 (i : Int) = tA ∧ G.entryE s2 (i : Int) = 60) ∨ (kk < i ∧ G.termE s2 (i : Int) = 0 ∧ G.termA s2 (i : Int) = tA ∧ G.entryE s2 (i : Int) = 0 ∧ G.entryA s2 (i : Int) = xx) := by
              rw [htA, hxx]
              by_cases c1 : i < kk
              · exact .inl ⟨c1, e1 c1, e3 (by omega)⟩
              · by_cases c2 : i = kk
                · exact .inr (.inl ⟨c2, (e2 (by omega)).1, (e2 (by omega)).2, e3 (by omega)⟩)
                · exact .inr (.inr ⟨by omega, (e2 (by omega)).1, (e2 (by omega)).2, (e4 (by omega)).1, (e4 (by omega)).2⟩)
            have KT2i : Hid _ := fun X => KT2.out X (i : Int)
            have KE2i : Hid _ := fun X => KE2.out X (i : Int)
            obtain ⟨xt, xd⟩ := xx
            dsimp only at KE1i
            clear e0 e1 e2 e3 e4 htA hxx hxE KT1 KT2 KE1 KE2 HAt
            rcases HS with ⟨q1, q2, q3⟩ | ⟨q1, q2, q3, q4⟩ | ⟨q1, q2, q3, q4, q5⟩
            · obtain ⟨tB, htB⟩ : ∃ tB, tB = G.termA s2 (i : Int) := ⟨_, rfl⟩
              obtain ⟨yy, hyy⟩ : ∃ yy, yy = G.entryA s2 (i : Int) := ⟨_, rfl⟩
              rw [q2, ← htB] at KT2i
              rw [q3, ← hyy] at KE2i
              obtain ⟨yt, yd⟩ := yy
              dsimp only at KE2i
              have r2 : ¬ kk ≤ i := by omega
              have r3 : i ≤ kk := by omega
              have r7 : ¬ kk < i := by omega
              clear q2 q3 htB hyy
              go_wp2_with fail
              refine Calls.mono (KL1.out _ HR.out) ?_
              rintro e w10 ⟨rfl, h10⟩
              have H10 : Hid (Two w w10 Bx By s s2) := h10
              clear h10
              go_wp2_with fail
              refine Calls.mono (KT1i.out _ H10.out) ?_
              rintro e w11 ⟨rfl, h11⟩
              have H11 : Hid (Two w w11 Bx By s s2) := h11
              clear h11
              go_wp2_with fail
              refine Calls.mono (KT2i.out _ H11.out) ?_
              rintro e w12 ⟨rfl, h12⟩
              have H12 : Hid (Two w w12 Bx By s s2) := h12
              clear h12
              go_wp2_with fail
              refine Calls.mono (KE1i.out _ H12.out) ?_
              rintro e w13 ⟨rfl, h13, hb13⟩
              have H13 : Hid (Two w w13 Bx By s s2) := h13
              clear h13 hb13
              go_wp2_with fail
              obtain ⟨u, hu⟩ : ∃ u, u = w13.alloc (.cells #[.int .i64 xt, .string xd] 34) := ⟨_, rfl⟩
              obtain ⟨bx, hbx⟩ : ∃ bx, bx = w13.heap.size := ⟨_, rfl⟩
              have HU : Hid (Two w u Bx By s s2) := by rw [hu]; exact H13.out.below (below_alloc _ _)
              have y0 : u.cell? ⟨bx, 0, none⟩ = some (.int .i64 xt) := by rw [hu, hbx]; exact World.cell?_alloc_mark w13 _ _ _ 0
              have y1 : u.cell? ⟨bx, 1, none⟩ = some (.string xd) := by rw [hu, hbx]; exact World.cell?_alloc_mark w13 _ _ _ 1
              have hbu : bx < u.heap.size := World.block_lt_of_cell? _ _ y0
              rw [← hu, ← hbx]
              clear hu hbx
              refine Calls.mono (KE2i.out _ HU.out) ?_
              rintro e w14 ⟨rfl, h14, hb14⟩
              have H14 : Hid (Two w w14 Bx By s s2) := h14
              have z0 : w14.cell? ⟨bx, 0, none⟩ = some (.int .i64 xt) := (hb14.cell (p := ⟨bx, 0, none⟩) hbu).trans y0
              have z1 : w14.cell? ⟨bx, 1, none⟩ = some (.string xd) := (hb14.cell (p := ⟨bx, 1, none⟩) hbu).trans y1
              have hbw : bx < w14.heap.size := World.block_lt_of_cell? _ _ z0
              clear h14 hb14 y0 y1 hbu
              go_wp2
              refine And.intro ?_ ?_
              · exact ⟨i + 1, by go_num, by omega, H14.out.below (below_alloc _ _)⟩
              · simp [intOf]; omega
            · obtain ⟨yy, hyy⟩ : ∃ yy, yy = G.entryA s2 (i : Int) := ⟨_, rfl⟩
              rw [q2, q3] at KT2i
              rw [q4, ← hyy] at KE2i
              obtain ⟨yt, yd⟩ := yy
              dsimp only at KE2i
              have r1 : ¬ i < kk := by omega
              have r2 : kk ≤ i := by omega
              have r3 : i ≤ kk := by omega
              have r7 : ¬ kk < i := by omega
              have r4 : (tA != tA) = false := by simp
              clear q1 q2 q3 q4 hyy
              go_wp2_with fail
              refine Calls.mono (KL1.out _ HR.out) ?_
              rintro e w10 ⟨rfl, h10⟩
              have H10 : Hid (Two w w10 Bx By s s2) := h10
              clear h10
              go_wp2_with fail
              refine Calls.mono (KT1i.out _ H10.out) ?_
              rintro e w11 ⟨rfl, h11⟩
              have H11 : Hid (Two w w11 Bx By s s2) := h11
              clear h11
              go_wp2_with fail
              refine Calls.mono (KT2i.out _ H11.out) ?_
              rintro e w12 ⟨rfl, h12⟩
              have H12 : Hid (Two w w12 Bx By s s2) := h12
              clear h12
              go_wp2_with fail
              refine Calls.mono (KE1i.out _ H12.out) ?_
              rintro e w13 ⟨rfl, h13, hb13⟩
              have H13 : Hid (Two w w13 Bx By s s2) := h13
              clear h13 hb13
              go_wp2_with fail
              obtain ⟨u, hu⟩ : ∃ u, u = w13.alloc (.cells #[.int .i64 xt, .string xd] 34) := ⟨_, rfl⟩
              obtain ⟨bx, hbx⟩ : ∃ bx, bx = w13.heap.size := ⟨_, rfl⟩
              have HU : Hid (Two w u Bx By s s2) := by rw [hu]; exact H13.out.below (below_alloc _ _)
              have y0 : u.cell? ⟨bx, 0, none⟩ = some (.int .i64 xt) := by rw [hu, hbx]; exact World.cell?_alloc_mark w13 _ _ _ 0
              have y1 : u.cell? ⟨bx, 1, none⟩ = some (.string xd) := by rw [hu, hbx]; exact World.cell?_alloc_mark w13 _ _ _ 1
              have hbu : bx < u.heap.size := World.block_lt_of_cell? _ _ y0
              rw [← hu, ← hbx]
              clear hu hbx
              refine Calls.mono (KE2i.out _ HU.out) ?_
              rintro e w14 ⟨rfl, h14, hb14⟩
              have H14 : Hid (Two w w14 Bx By s s2) := h14
              have z0 : w14.cell? ⟨bx, 0, none⟩ = some (.int .i64 xt) := (hb14.cell (p := ⟨bx, 0, none⟩) hbu).trans y0
              have z1 : w14.cell? ⟨bx, 1, none⟩ = some (.string xd) := (hb14.cell (p := ⟨bx, 1, none⟩) hbu).trans y1
              have hbw : bx < w14.heap.size := World.block_lt_of_cell? _ _ z0
              clear h14 hb14 y0 y1 hbu
              go_wp2
              refine And.intro ?_ ?_
              · exact ⟨i + 1, by go_num, by omega, H14.out.below (below_alloc _ _)⟩
              · simp [intOf]; omega
            · rw [q2, q3] at KT2i
              rw [q4, q5] at KE2i
              have r1 : ¬ i < kk := by omega
              have r2 : kk ≤ i := by omega
              have r3 : ¬ i ≤ kk := by omega
              have r4 : (tA != tA) = false := by simp
              have r5 : (xt == xt) = true := by simp
              have r6 : (xd.toList == xd.toList) = true := by simp
              clear q2 q3 q4 q5
              go_wp2_with fail
              refine Calls.mono (KL1.out _ HR.out) ?_
              rintro e w10 ⟨rfl, h10⟩
              have H10 : Hid (Two w w10 Bx By s s2) := h10
              clear h10
              go_wp2_with fail
              refine Calls.mono (KT1i.out _ H10.out) ?_
              rintro e w11 ⟨rfl, h11⟩
              have H11 : Hid (Two w w11 Bx By s s2) := h11
              clear h11
              go_wp2_with fail
              refine Calls.mono (KT2i.out _ H11.out) ?_
              rintro e w12 ⟨rfl, h12⟩
              have H12 : Hid (Two w w12 Bx By s s2) := h12
              clear h12
              go_wp2_with fail
              refine Calls.mono (KE1i.out _ H12.out) ?_
              rintro e w13 ⟨rfl, h13, hb13⟩
              have H13 : Hid (Two w w13 Bx By s s2) := h13
              clear h13 hb13
              go_wp2_with fail
              obtain ⟨u, hu⟩ : ∃ u, u = w13.alloc (.cells #[.int .i64 xt, .string xd] 34) := ⟨_, rfl⟩
              obtain ⟨bx, hbx⟩ : ∃ bx, bx = w13.heap.size := ⟨_, rfl⟩
              have HU : Hid (Two w u Bx By s s2) := by rw [hu]; exact H13.out.below (below_alloc _ _)
              have y0 : u.cell? ⟨bx, 0, none⟩ = some (.int .i64 xt) := by rw [hu, hbx]; exact World.cell?_alloc_mark w13 _ _ _ 0
              have y1 : u.cell? ⟨bx, 1, none⟩ = some (.string xd) := by rw [hu, hbx]; exact World.cell?_alloc_mark w13 _ _ _ 1
              have hbu : bx < u.heap.size := World.block_lt_of_cell? _ _ y0
              rw [← hu, ← hbx]
              clear hu hbx
              refine Calls.mono (KE2i.out _ HU.out) ?_
              rintro e w14 ⟨rfl, h14, hb14⟩
              have H14 : Hid (Two w w14 Bx By s s2) := h14
              have z0 : w14.cell? ⟨bx, 0, none⟩ = some (.int .i64 xt) := (hb14.cell (p := ⟨bx, 0, none⟩) hbu).trans y0
              have z1 : w14.cell? ⟨bx, 1, none⟩ = some (.string xd) := (hb14.cell (p := ⟨bx, 1, none⟩) hbu).trans y1
              have hbw : bx < w14.heap.size := World.block_lt_of_cell? _ _ z0
              clear h14 hb14 y0 y1 hbu
              go_wp2
              refine And.intro ?_ ?_
              · exact ⟨i + 1, by go_num, by omega, H14.out.below (below_alloc _ _)⟩
              · simp [intOf]; omega
          · obtain rfl : i = n + 1 := by omega
            go_wp2_with fail
            refine Calls.mono (KL1.out _ HR.out) ?_
            rintro e w10 ⟨rfl, h10⟩
            have H10 : Hid (Two w w10 Bx By s s2) := h10
            clear h10
            go_wp2_with fail
            refine (HA.out _).mono ?_
            rintro e w3 ⟨rfl, hb3⟩
            have HB3 : Hid (Below w0.heap.size w0 w3) := HW.out.trans (Below.mono ((Two.old H10.out).trans (hb3.mono (Two.old H10.out).size)) HW.out.size)
            clear hb3
            go_wp2
            go_ret
            exact ⟨rfl, HB3.out⟩
  · go_enter Try.func5, Try.ntmps5
    go_wp2_with fail
    rw [← hw]
    try rw [← hbe]
    clear hw hbe
    refine Calls.mono (HN.out _) ?_
    rintro e w1 ⟨rfl, hl1, hb1⟩
    have H1 : Hid _ := hl1
    have B1 : Hid _ := hb1
    clear hl1 hb1
    go_wp2_with fail
    refine Calls.mono (HN.out _) ?_
    rintro e w2 ⟨rfl, hl2, hb2⟩
    have HB2 : Hid (Below w0.heap.size w0 w2) := (HW.out.trans (Below.mono B1.out HW.out.size)).trans (Below.mono hb2 (Nat.le_trans HW.out.size B1.out.size))
    clear hl2 hb2 H1 B1
    go_wp2_with fail
    refine (HA.out _).mono ?_
    rintro e w3 ⟨rfl, hb3⟩
    have HB3 : Hid (Below w0.heap.size w0 w3) := HB2.out.trans (hb3.mono HB2.out.size)
    clear hb3
    go_wp2
    go_ret
    exact ⟨rfl, HB3.out⟩

theorem laidOut : laidOutB Try.prog = true := by kernel_rfl

theorem own : ownKnob Try.prog.godebug = none := by kernel_rfl

set_option maxRecDepth 100000 in
theorem lifted (os : Os) (started : os.Started) (H : Type) (enc : TypeId × Value → H) :
    ReturnsInHanded {} Try.checked os 5 .any (Rows.rlogCompactsSpec.pre6 enc Try.prog Try.f5 Rows.rlogCompactsRow.domain false) (Rows.rlogCompactsSpec.post enc Try.prog Try.f5 false true false false) := by
  refine returnsInHanded_of_change_sized (C := Try.checked) own started (by kernel_rfl) Try.func5
    (ChangeSpec.witness6 (enc := enc) (C := Try.checked) false ⟨#[], #[.slice none 0 0, .int .i64 0, .agg #[.int .i64 0, .int .i64 0]], []⟩ 8 (by kernel_rfl) (by kernel_rfl) (by kernel_rfl) (by kernel_rfl)) ?_
  intro W base args ds gs before hval0 hW _ hsz0 _
  have hsz : (DataW.weightsEach Try.prog (Try.f5.params.toList ++ Rows.rlogCompactsSpec.plain.varTypes Try.prog) (ds ++ gs)).all (· ≤ reachBytes) = true := hsz0
  have hval : ∀ (j : Nat) t v, Try.f5.params[j]? = some t → args[j]? = some v → Value.okWide Try.prog W .any base t v := hval0
  have hW' := hW
  obtain ⟨p, q, hA0, hV, rfl, hfz, hnd⟩ := hW
  have hA : DataW.TrodAll enc Try.prog W 0 (fun _ => true) true Try.f5.params.toList args.toList ds p := hA0
  rw [Try.params5] at hA hval hsz
  obtain ⟨v0, vs0, d0, ds0, p0, q0, hargs, rfl, rfl, h0, r0⟩ := trodAll_cons hA
  obtain ⟨v1, vs1, d1, ds1, p1, q1, rfl, rfl, rfl, h1, r1⟩ := trodAll_cons r0
  obtain ⟨v2, vs2, d2, ds2, p2, q2, rfl, rfl, rfl, h2, r2⟩ := trodAll_cons r1
  obtain ⟨rfl, rfl, rfl⟩ := trodAll_nil r2
  obtain rfl : args = #[v0, v1, v2] := by cases args; simp_all
  obtain ⟨rfl, rfl⟩ := trodVars_none hV
  have k0 := h0
  have lt0 : ∀ x ∈ p0, x.block < W.heap.size := by obtain ⟨m, hm⟩ := k0; exact DataW.trod_lt m _ _ _ hm
  obtain ⟨a0, b0⟩ := open_ents (hval 0 28 v0 rfl rfl) h0
  obtain ⟨a1, rfl, rfl, rfl, w1⟩ := open_int Try.underlying3 (hval 1 3 v1 rfl rfl) h1
  have b1 : -9223372036854775808 ≤ a1 ∧ a1 ≤ 9223372036854775807 := by simpa [Lit.wf, IntKind.min, IntKind.max, IntKind.signed, IntKind.bits] using w1
  have k2 := h2
  have lt2 : ∀ x ∈ p2, x.block < W.heap.size := by obtain ⟨m, hm⟩ := k2; exact DataW.trod_lt m _ _ _ hm
  obtain ⟨a2, c2, rfl, b2⟩ := open_arr2 Try.underlying47 Try.underlying3 (by kernel_rfl) (by kernel_rfl) (hval 2 47 v2 rfl rfl) h2
  clear hA0 hval0 hsz0
  refine (walk v0 a0 a1 a2 c2 W b0 b1 b2).mono fun e W' ⟨he, bel⟩ => ?_
  subst he
  exact ⟨_, rfl, _, _, _, [], _, [], hW', trodAll_mk1 (shut_bool Try.underlying4 _), (trodAll_cons_mk (Below.trod laidOut (by kernel_rfl) (of_decide_eq_true (by kernel_rfl)) k0 bel lt0) (trodAll_cons_mk (shut_int Try.underlying3 w1) (trodAll_cons_mk (Below.trod laidOut (by kernel_rfl) (of_decide_eq_true (by kernel_rfl)) k2 bel lt2) trodAll_mk0))), rfl, bel.frame _, fun h => by cases h⟩

theorem over : Rows.rlogCompactsRow.holds Try.pinned (OpenSpec.ofChange Rows.rlogCompactsSpec) :=
  OpenClaim.holds_of_wide 5 Try.f5 rfl rfl rfl rfl rfl rfl rfl ⟨rfl, rfl, rfl, rfl, rfl⟩ rfl rfl rfl rfl rfl (by kernel_rfl) Try.func5 (by kernel_rfl)
    (of_decide_eq_true (by kernel_rfl)) (by unfold Func.isWrapper; first | (rw [if_pos (by decide +kernel)]; kernel_rfl) | (rw [if_neg (by decide +kernel)]; exact ⟨rfl, rfl⟩))
    (fun os started H enc _ => lifted os started H enc)


end Go.Proofs.Ytamoapbbkaagdaa.rlogCompacts
namespace Go.Proofs.Ytamoapbbkaagdaa
/-- The statement. -/
theorem rlogCompacts_holds : Rows.RlogCompactsSaid := rlogCompacts.over
end Go.Proofs.Ytamoapbbkaagdaa
