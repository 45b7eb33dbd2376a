/-
  For every text: SumsSlots answers true: the slots of 256 channels of one workspace of up to 40 bytes are the document's, and not all one; the argument reads afterwards as before. No condition.
-/
import Derived.Test.YtkjmajkmjebhnaaSumAwake
import Derived.Test.YtkjmajkmjebhnaaSumRows
import Derived.Test.YtkjmajkmjebhnaaSlotMath
import Derived.ProofKit
import Derived.OpenShut
import Derived.ShutString
import Derived.SizedLaws
namespace Go.Proofs.Ytkjmajkmjebhnaa.sumsSlots
open Go.ChangeShapes Go.WideShapes Go.ChangeAt Go.RowKit
open Go.ChangeMaps (open_string shut_string)

theorem infoI : (Try.prog.info? 3).map (fun i => (i.zero, i.size, i.bytes)) = some (some (.int .i64 0), 1, 8) := by kernel_rfl

/-- How often j was told in the first k. -/
def cnt (f : Nat → Nat) (j : Nat) : Nat → Nat
  | 0 => 0
  | k + 1 => cnt f j k + if f k = j then 1 else 0
theorem cnt_le (f : Nat → Nat) (j : Nat) : ∀ k, cnt f j k ≤ k
  | 0 => Nat.le_refl _
  | k + 1 => by
    have := cnt_le f j k
    rw [cnt]
    split <;> omega
theorem cnt_full (f : Nat → Nat) (j : Nat) : ∀ k, cnt f j k = k → ∀ i, i < k → f i = j
  | 0, _, _, hi => absurd hi (Nat.not_lt_zero _)
  | k + 1, h, i, hi => by
    have h1 := cnt_le f j k
    rw [cnt] at h
    split at h
    · rename_i e
      rcases Nat.lt_or_ge i k with h2 | h2
      · exact cnt_full f j k (by omega) i h2
      · obtain rfl : i = k := by omega
        exact e
    · omega

/-- Sixteen numbers in a block. -/
def Tells (W : World) (g : Nat) (c : Nat → Nat) : Prop := g < W.heap.size ∧ ∀ j, j < 16 → W.cell? ⟨g, j, none⟩ = some (.int .i64 (c j : Int)) ∧ W.frozen? ⟨g, j, none⟩ = false
theorem Tells.below {W W' : World} {base g : Nat} {c : Nat → Nat} (h : Tells W g c) (hb : Below base W W') (hg : g < base) : Tells W' g c :=
  ⟨Nat.lt_of_lt_of_le h.1 hb.size, fun j hj => ⟨by rw [hb.cell (p := ⟨g, j, none⟩) hg]; exact (h.2 j hj).1, by rw [hb.frozen (p := ⟨g, j, none⟩) hg]; exact (h.2 j hj).2⟩⟩
theorem Tells.alloc {W : World} {g : Nat} {c : Nat → Nat} (h : Tells W g c) (o : Obj) : Tells (W.alloc o) g c := h.below ((Below.refl W.heap.size W).alloc (Nat.le_refl _) o) h.1
theorem Tells.set {W : World} {g : Nat} {f : Nat → Nat} {k v : Nat} (h : Tells W g (fun j => cnt f j k)) (hv : f k = v) :
    Tells (W.setCell ⟨g, v, none⟩ (.int .i64 ((cnt f v k : Int) + 1))) g (fun j => cnt f j (k + 1)) := by
  refine ⟨by simpa [World.setCell] using h.1, fun j hj => ?_⟩
  obtain ⟨h1, h2⟩ := h.2 j hj
  refine ⟨?_, by simpa using h2⟩
  by_cases e : v = j
  · subst e
    rw [World.cell?_setCell_same _ _ _ h1]
    simp [cnt, hv]
  · rw [World.cell?_setCell_other _ _ _ _ (by intro q; injection q; omega), h1]
    simp [cnt, hv, e]

/-- The channel number k of a workspace, and its slot. -/
def chan (s : ByteArray) (k : Nat) : List UInt8 := s.data.toList ++ [47] ++ [UInt8.ofNat (97 + k % 16), UInt8.ofNat (97 + k / 16)]
def sl (s : ByteArray) (k : Nat) : Nat := S.slot (chan s k)

theorem sl_hash (s : ByteArray) (j : Nat) (hj : j < 8) : sl s (112 + 16 * j) = S.nibs 8 ((S.hash (s.data.toList ++ [47] ++ [97]) ^^^ (104 + j)) * 16777619 % 4294967296) := by
  unfold sl chan S.slot
  rw [show (112 + 16 * j) % 16 = 0 by omega, show 97 + (112 + 16 * j) / 16 = 104 + j by omega]
  have e : s.data.toList ++ [47] ++ [UInt8.ofNat (97 + 0), UInt8.ofNat (104 + j)] = (s.data.toList ++ [47] ++ [97]) ++ [UInt8.ofNat (104 + j)] := by
    rw [List.append_assoc (s.data.toList ++ [47])]
    rfl
  rw [e, S.hash_snoc, S.hstep, UInt8.toNat_ofNat', Nat.mod_eq_of_lt (show 104 + j < 2 ^ 8 by omega)]

theorem not_one (s : ByteArray) (j : Nat) : cnt (sl s) j 256 < 256 := by
  have h1 := cnt_le (sl s) j 256
  rcases Nat.lt_or_ge (cnt (sl s) j 256) 256 with h | h
  · exact h
  · exfalso
    have hall := cnt_full (sl s) j 256 (by omega)
    refine S.spread (S.hash (s.data.toList ++ [47] ++ [97])) j ?_
    intro i hi
    rw [← sl_hash s i hi]
    exact hall _ (by omega)

theorem conv2 (m q : Nat) (D : ByteArray) (hm : m < 16) (hq : q < 16) (hD : D = ⟨#[UInt8.ofNat (97 + m), UInt8.ofNat (97 + q)]⟩) (W : World) :
    (convert 25 9 (.slice (some ⟨W.heap.size, 0, none⟩) 2 2)).run Try.prog (W.alloc (.cells #[.int .u8 (97 + (m : Int)), .int .u8 (97 + (q : Int))] 5)) = .ok (.string D) (W.alloc (.cells #[.int .u8 (97 + (m : Int)), .int .u8 (97 + (q : Int))] 5)) := by
  have e : #[Value.int .u8 (97 + (m : Int)), .int .u8 (97 + (q : Int))] = (([UInt8.ofNat (97 + m), UInt8.ofNat (97 + q)] : List UInt8).map fun b => Value.int .u8 (b.toNat : Int)).toArray := by
    have h1 : ((UInt8.ofNat (97 + m)).toNat : Int) = 97 + (m : Int) := by rw [UInt8.toNat_ofNat']; omega
    have h2 : ((UInt8.ofNat (97 + q)).toNat : Int) = 97 + (q : Int) := by rw [UInt8.toNat_ofNat']; omega
    simp only [List.map_cons, List.map_nil, h1, h2]
  rw [hD, e]
  exact (lies_new W [UInt8.ofNat (97 + m), UInt8.ofNat (97 + q)] 5).conv 2 2 rfl 25 9 5 Try.underlying25 Try.underlying5 Try.underlying9

set_option maxHeartbeats 1000000 in
set_option maxRecDepth 20000 in
theorem walk_main (a0 : ByteArray) (w : World) (b0 : a0.size ≤ 40) :
    Calls Try.prog 7 #[.string a0] w fun e w' => e = .returned (.bool true) ∧ Below w.heap.size w w' := by
  obtain ⟨i0, hi, hz0, hz1, hz2⟩ := info_parts infoI
  have hd1 : decide ((40 : Int) < (a0.size : Int)) = false := decide_eq_false (by omega)
  go_enter Try.func7, Try.ntmps7
  go_wp2_with (at_make; refine wpList_make_full _ rfl _ _ 28 rfl w.heap.size 3 i0 (.int .i64 0) 1 Try.underlying28 hi hz0 hz1 .i64 .i64 16 16 16 rfl rfl rfl rfl (by rw [hz2]; omega) (by unfold maxLen; omega) (Nat.le_refl _) ?_; intro w1 ho1 hg1)
  have hb1 : Below w.heap.size w w1 := (Below.refl _ _).grown hg1 (Nat.le_refl _) (by intro k hk; cases hk)
  have ht1 : Tells w1 w.heap.size (fun j => cnt (sl a0) j 0) := by
    refine ⟨(ho1.lt w.heap.size rfl).2, fun j hj => ⟨?_, ho1.frozenAt j⟩⟩
    have e : (Value.int .i64 0).cells = #[Value.int .i64 0] := rfl
    rw [ho1.cellAt j (by omega), e, toList_madeCells_one, List.getElem?_replicate, if_pos (by omega)]
    rfl
  clear hg1 ho1
  go_loopw [4] (fun i wr => ∃ k : Nat, k ≤ 256 ∧ i = .int .i64 (k : Int) ∧ Tells wr w.heap.size (fun j => cnt (sl a0) j k) ∧ Below w.heap.size w wr) (fun i _ => 256 - (intOf i).toNat)
  case atStart => exact ⟨0, by omega, rfl, ht1, hb1⟩
  case round =>
    obtain ⟨k, hk, rfl, ht, hb⟩ := hrel
    clear ht1 hb1
    by_cases hlt : k < 256
    · obtain ⟨m, hm⟩ : ∃ m, m = k % 16 := ⟨_, rfl⟩
      obtain ⟨q, hq⟩ : ∃ q, q = k / 16 := ⟨_, rfl⟩
      obtain ⟨D, hD⟩ : ∃ D : ByteArray, D = ⟨#[UInt8.ofNat (97 + m), UInt8.ofNat (97 + q)]⟩ := ⟨_, rfl⟩
      have hand : bits BinOp.and IntKind.i64 (k : Int) 15 = (m : Int) := by rw [and64_15 k (by omega), hm]
      have hdiv : (k : Int) / 16 = (q : Int) := by rw [hq]; omega
      have hm16 : m < 16 := by omega
      have hq16 : q < 16 := by omega
      have hcv := conv2 m q D hm16 hq16 hD
      have hDs : D.size = 2 := by rw [hD]; rfl
      obtain ⟨v, hv⟩ : ∃ v, v = sl a0 k := ⟨_, rfl⟩
      have hv16 : v < 16 := by rw [hv]; exact S.slot_lt _
      have hX : S.slot (a0 ++ ⟨#[47]⟩ ++ D).data.toList = v := by
        rw [hv, hD, sl, chan, ← hm, ← hq]
        simp
      have hXs : (a0 ++ ⟨#[47]⟩ ++ D).size ≤ maxLen := by
        rw [ByteArray.size_append, ByteArray.size_append, hDs]
        unfold maxLen
        have : (⟨#[47]⟩ : ByteArray).size = 1 := rfl
        omega
      have HC1 : Hid (∀ W, Calls Try.prog 11 #[.string (a0 ++ ⟨#[47]⟩ ++ D)] W fun e w' => e = .returned (.int .i64 (v : Int)) ∧ w' = W) := by
        intro W; rw [← hX]; exact sums_Slot _ W hXs
      have HC2 : Hid (∀ W, Calls Try.prog 12 #[.string (a0 ++ ⟨#[47]⟩ ++ D)] W fun e w' => e = .returned (.int .i64 (v : Int)) ∧ w' = W) := by
        intro W; rw [← hX]; exact ref_Slot _ W hXs
      have HV : Hid (v = sl a0 k) := hv
      clear hm hq hD hX hXs hv
      obtain ⟨O, hO⟩ : ∃ O : Obj, O = .cells #[Value.int .u8 (97 + (m : Int)), .int .u8 (97 + (q : Int))] 5 := ⟨_, rfl⟩
      have ht2 := (ht.alloc O).alloc O
      have hc := (ht2.2 v hv16).1
      have hf := (ht2.2 v hv16).2
      have hN : Tells (((wr.alloc O).alloc O).setCell ⟨w.heap.size, v, none⟩ (.int .i64 ((cnt (sl a0) v k : Int) + 1))) w.heap.size (fun j => cnt (sl a0) j (k + 1)) := ht2.set HV.out.symm
      have hB : Below w.heap.size w (((wr.alloc O).alloc O).setCell ⟨w.heap.size, v, none⟩ (.int .i64 ((cnt (sl a0) v k : Int) + 1))) :=
        ((hb.alloc hb.size O).alloc (by have := hb.size; simp; omega) O).setCell (Nat.le_refl _) _
      have hcl : cnt (sl a0) v k ≤ k := cnt_le _ _ _
      obtain ⟨n, hn⟩ : ∃ n, n = cnt (sl a0) v k := ⟨_, rfl⟩
      simp only [← hn] at hc hN hB hcl
      subst hO
      have hcv2 := hcv (wr.alloc (.cells #[Value.int .u8 (97 + (m : Int)), .int .u8 (97 + (q : Int))] 5))
      rw [show (wr.alloc (.cells #[Value.int .u8 (97 + (m : Int)), .int .u8 (97 + (q : Int))] 5)).heap.size = wr.heap.size + 1 from by simp] at hcv2
      have HN : Hid _ := hN
      have HB : Hid _ := hB
      clear hN hB hn ht2 ht hb
      go_wp2_with fail
      refine (HC1.out _).mono ?_
      rintro e w2 ⟨rfl, rfl⟩
      go_wp2_with fail
      refine (HC2.out _).mono ?_
      rintro e w2 ⟨rfl, rfl⟩
      go_wp2
      go_roundw
      case rel => exact ⟨k + 1, by omega, by go_num, HN.out, HB.out⟩
      case measure => simp [intOf]; omega
    · obtain rfl : k = 256 := by omega
      have hall : ∀ j, j < 16 → wr.cell? ⟨w.heap.size, j, none⟩ = some (.int .i64 (cnt (sl a0) j 256 : Int)) := fun j hj => (ht.2 j hj).1
      have HA : Hid _ := hall
      have HB : Hid _ := hb
      clear ht hb hall
      go_wp2
      go_loop [6, 7] (fun x i => ∃ (j v : Nat), j ≤ 16 ∧ i = .int .i64 (j : Int) ∧ x = .int .i64 (v : Int) ∧ v < 256) (fun _ i => 16 - (intOf i).toNat)
      case atStart => exact ⟨0, 0, by omega, rfl, rfl, by omega⟩
      case round =>
        obtain ⟨j, v, hj, rfl, rfl, hv⟩ := hrel
        by_cases hj16 : j < 16
        · have hc := HA.out j hj16
          have hnl := not_one a0 j
          obtain ⟨n, hn⟩ : ∃ n, n = cnt (sl a0) j 256 := ⟨_, rfl⟩
          rw [← hn] at hc hnl
          clear hn
          go_wp2
          refine ⟨⟨j + 1, if v < n then n else v, by omega, by go_num, ?_, by split <;> omega⟩, by simp [intOf]; omega⟩
          split <;> rfl
        · obtain rfl : j = 16 := by omega
          go_wp2_with fail
          refine (awake2 _).mono ?_
          rintro e w2 ⟨rfl, hb2⟩
          go_wp2
          go_ret
          exact ⟨rfl, HB.out.trans (hb2.mono HB.out.size)⟩

set_option maxHeartbeats 400000 in
theorem walk (a0 : ByteArray) (w : World) (_b0 : a0.size ≤ 140737488351232) :
    Calls Try.prog 7 #[.string a0] w fun e w' => e = .returned (.bool true) ∧ Below w.heap.size w w' := by
  by_cases h : 40 < a0.size
  · have hd : decide ((40 : Int) < (a0.size : Int)) = true := decide_eq_true (by omega)
    clear h
    go_enter Try.func7, Try.ntmps7
    go_wp2_with fail
    refine (awake2 _).mono ?_
    rintro e w1 ⟨rfl, hb1⟩
    go_wp2
    go_ret
    exact ⟨rfl, hb1⟩
  · exact walk_main a0 w (by omega)

theorem own : ownKnob Try.prog.godebug = none := by kernel_rfl

set_option maxRecDepth 100000 in
theorem lifted (os : Os) (started : os.Started) (H : Type) (enc : TypeId × Value → H) :
    ReturnsInHanded {} Try.checked os 7 .any (Rows.sumsSlotsSpec.pre6 enc Try.prog Try.f7 Rows.sumsSlotsRow.domain false) (Rows.sumsSlotsSpec.post enc Try.prog Try.f7 false true false false) := by
  refine returnsInHanded_of_change_sized (C := Try.checked) own started (by kernel_rfl) Try.func7
    (ChangeSpec.witness6 (enc := enc) (C := Try.checked) false ⟨#[], #[.string ByteArray.empty], []⟩ 8 (by kernel_rfl) (by kernel_rfl) (by kernel_rfl) (by kernel_rfl)) ?_
  intro W base args ds gs before hval0 hW _ hsz0 _
  have hsz : (DataW.weightsEach Try.prog (Try.f7.params.toList ++ Rows.sumsSlotsSpec.plain.varTypes Try.prog) (ds ++ gs)).all (· ≤ reachBytes) = true := hsz0
  have hval : ∀ (j : Nat) t v, Try.f7.params[j]? = some t → args[j]? = some v → Value.okWide Try.prog W .any base t v := hval0
  have hW' := hW
  obtain ⟨p, q, hA0, hV, rfl, hfz, hnd⟩ := hW
  have hA : DataW.TrodAll enc Try.prog W 0 (fun _ => true) true Try.f7.params.toList args.toList ds p := hA0
  rw [Try.params7] at hA hval hsz
  obtain ⟨v0, vs0, d0, ds0, p0, q0, hargs, rfl, rfl, h0, r0⟩ := trodAll_cons hA
  obtain ⟨rfl, rfl, rfl⟩ := trodAll_nil r0
  obtain rfl : args = #[v0] := by cases args; simp_all
  obtain ⟨rfl, rfl⟩ := trodVars_none hV
  obtain ⟨a0, rfl, rfl, rfl, w0⟩ := open_string Try.underlying9 (hval 0 9 v0 rfl rfl) h0
  have b0 : a0.size ≤ 140737488351232 := by have := sized_string hsz (j := 0) (t := 9) rfl rfl; simpa [reachBytes] using this
  clear hA0 hval0 hsz0
  refine (walk a0 W b0).mono fun e W' ⟨he, bel⟩ => ?_
  subst he
  exact ⟨_, rfl, _, _, _, [], _, [], hW', trodAll_mk1 (shut_bool Try.underlying4 _), (trodAll_cons_mk (shut_string Try.underlying9 w0) trodAll_mk0), rfl, bel.frame _, fun h => by cases h⟩

theorem over : Rows.sumsSlotsRow.holds Try.pinned (OpenSpec.ofChange Rows.sumsSlotsSpec) :=
  OpenClaim.holds_of_wide 7 Try.f7 rfl rfl rfl rfl rfl rfl rfl ⟨rfl, rfl, rfl, rfl, rfl⟩ rfl rfl rfl rfl rfl (by kernel_rfl) Try.func7 (by kernel_rfl)
    (of_decide_eq_true (by kernel_rfl)) (by unfold Func.isWrapper; first | (rw [if_pos (by decide +kernel)]; kernel_rfl) | (rw [if_neg (by decide +kernel)]; exact ⟨rfl, rfl⟩))
    (fun os started H enc _ => lifted os started H enc)


end Go.Proofs.Ytkjmajkmjebhnaa.sumsSlots
namespace Go.Proofs.Ytkjmajkmjebhnaa
/-- The statement. -/
theorem sumsSlots_holds : Rows.SumsSlotsSaid := sumsSlots.over
end Go.Proofs.Ytkjmajkmjebhnaa
