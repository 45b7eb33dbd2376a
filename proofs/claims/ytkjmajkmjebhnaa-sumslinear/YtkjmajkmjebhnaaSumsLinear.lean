/-
  For all texts s and t: SumsLinear answers true: the sum of two texts of one length of up to 2^13 bytes, one xor the other, is that of the first, of the second and of noughts, one xor the other; the arguments read afterwards as before. No condition.
-/
import Derived.Test.YtkjmajkmjebhnaaSumAwake
import Derived.Test.YtkjmajkmjebhnaaSumRows
import Derived.Deep.RegionHeld
import Derived.ProofKit
import Derived.OpenShut
import Derived.ShutString
import Derived.SizedLaws
namespace Go.Proofs.Ytkjmajkmjebhnaa.sumsLinear
open Go.ChangeShapes Go.WideShapes Go.ChangeAt Go.RowKit
open Go.ChangeMaps (open_string shut_string)

theorem info8 : (Try.prog.info? 5).map (fun i => (i.zero, i.size, i.bytes)) = some (some (.int .u8 0), 1, 1) := by kernel_rfl

/-- Noughts, in a new block. -/
def noughts (n : Nat) : Array Value := ((List.replicate n (0 : UInt8)).map fun b => Value.int .u8 (b.toNat : Int)).toArray
theorem run_make8 (n : Nat) (hn : n ≤ 8192) (W : World) : (Instr.makeSlice 25 (.int .i64 (n : Int)) (.int .i64 (n : Int))).run Try.prog W = .ok (.slice (some ⟨W.heap.size, 0, none⟩) n n) (W.alloc (.cells (noughts n) 5)) := by
  obtain ⟨i0, hi, hz0, hz1, hz2⟩ := info_parts info8
  have h := run_make (P := Try.prog) W 25 5 i0 (.int .u8 0) Try.underlying25 hi hz0 .i64 .i64 (n : Int) (n : Int) (by omega) (by omega) (by rw [hz2]; omega) (by omega)
  rw [hz1, Int.toNat_natCast, madeCells_u8] at h
  exact h

/-- So many bytes of one text xor those of another, then noughts. -/
def mixed (l r : List UInt8) (n i : Nat) : List UInt8 := List.zipWith (· ^^^ ·) (l.take i) (r.take i) ++ List.replicate (n - i) 0
theorem mixed_length (l r : List UInt8) (n i : Nat) (hi : i ≤ n) (hl : n ≤ l.length) (hr : n ≤ r.length) : (mixed l r n i).length = n := by
  simp [mixed]
  omega
theorem mixed_set (l r : List UInt8) (n i : Nat) (hi : i < n) (hl : n ≤ l.length) (hr : n ≤ r.length) : (mixed l r n i).set i (l[i] ^^^ r[i]) = mixed l r n (i + 1) := by
  have hz : (List.zipWith (· ^^^ ·) (l.take i) (r.take i)).length = i := by simp; omega
  unfold mixed
  rw [List.set_append_right _ _ (by omega), hz, Nat.sub_self, List.take_succ_eq_append_getElem (by omega), List.take_succ_eq_append_getElem (by omega), List.zipWith_append (by simp; omega), List.append_assoc]
  congr 1
  obtain ⟨d, hd⟩ : ∃ d, n - i = d + 1 := ⟨n - i - 1, by omega⟩
  rw [hd, show n - (i + 1) = d by omega]
  rfl
theorem mixed_all (l r : List UInt8) (n : Nat) : mixed l r n n = List.zipWith (· ^^^ ·) (l.take n) (r.take n) := by simp [mixed]

/-- What stays: nothing of before is changed, and the bytes lie there; and noughts besides. -/
def Good (w : World) (l : List UInt8) (W : World) : Prop := Lies W w.heap.size l ∧ Below w.heap.size w W
def Good2 (w : World) (l : List UInt8) (n g : Nat) (W : World) : Prop := Good w l W ∧ Lies W g (List.replicate n 0)
theorem Good.drew {w W : World} {l : List UInt8} (h : Good w l W) : Good w l W.drew := ⟨h.1.drew, h.2.drew⟩
theorem Good.bel {w W : World} {l : List UInt8} (h : Good w l W) : Below w.heap.size w W := h.2
theorem Good.below {w W W' : World} {l : List UInt8} (h : Good w l W) (hb : Below W.heap.size W W') : Good w l W' := ⟨h.1.below hb h.1.1, h.2.trans (hb.mono (Nat.le_of_lt h.1.1))⟩
theorem Good2.good {w W : World} {l : List UInt8} {n g : Nat} (h : Good2 w l n g W) : Good w l W := h.1
theorem Good2.bel {w W : World} {l : List UInt8} {n g : Nat} (h : Good2 w l n g W) : Below w.heap.size w W := h.1.2
theorem Good2.drew {w W : World} {l : List UInt8} {n g : Nat} (h : Good2 w l n g W) : Good2 w l n g W.drew := ⟨h.1.drew, h.2.drew⟩
theorem Good2.below {w W W' : World} {l : List UInt8} {n g : Nat} (h : Good2 w l n g W) (hb : Below W.heap.size W W') : Good2 w l n g W' := ⟨h.1.below hb, h.2.below hb h.2.1⟩
theorem Good.make {w W : World} {l : List UInt8} (h : Good w l W) (n : Nat) : Good2 w l n W.heap.size (W.alloc (.cells (noughts n) 5)) :=
  ⟨h.below ((Below.refl _ W).alloc (Nat.le_refl _) _), lies_new W (List.replicate n 0) 5⟩

theorem run_at (s : ByteArray) (j : Nat) (x : UInt8) (hj : j < s.size) (hx : x = s[j]) (W : World) :
    (Instr.index 9 (.string s) (.int .i64 (j : Int))).run Try.prog W = .ok (.int .u8 (x.toNat : Int)) W := by
  have h := run_index_string (P := Try.prog) W 9 s .i64 (j : Int) Try.underlying9
  rw [h, hx]
  simp [hj]

theorem sums_xor (a b : ByteArray) (k : Nat) (ha : k ≤ a.size) (hb : k ≤ b.size) :
    bits BinOp.xor IntKind.i64 (bits BinOp.xor IntKind.i64 ((S.crc (a.extract 0 k).data.toList : Nat) : Int) ((S.crc (b.extract 0 k).data.toList : Nat) : Int)) ((S.crc (⟨(List.replicate k (0 : UInt8)).toArray⟩ : ByteArray).data.toList : Nat) : Int)
      = ((S.crc (⟨(mixed a.data.toList b.data.toList k k).toArray⟩ : ByteArray).data.toList : Nat) : Int) := by
  have e1 : (a.extract 0 k).data.toList = a.data.toList.take k := by simp
  have e2 : (b.extract 0 k).data.toList = b.data.toList.take k := by simp
  have h1 := S.crc_linear (a.data.toList.take k) (b.data.toList.take k) (by simp; omega)
  have h2 := S.crc_lt (a.data.toList.take k)
  have h3 := S.crc_lt (b.data.toList.take k)
  have h4 := S.crc_lt (List.replicate k 0)
  rw [show (a.data.toList.take k).length = k by simp; omega] at h1
  rw [e1, e2]
  show bits BinOp.xor IntKind.i64 (bits BinOp.xor IntKind.i64 ((S.crc (a.data.toList.take k) : Nat) : Int) ((S.crc (b.data.toList.take k) : Nat) : Int)) ((S.crc (List.replicate k 0) : Nat) : Int) = ((S.crc (mixed a.data.toList b.data.toList k k) : Nat) : Int)
  rw [mixed_all, h1, xor64 _ _ h2 h3, xor64 _ _ (Nat.xor_lt_two_pow h2 h3) h4]

set_option maxHeartbeats 4000000 in
set_option maxRecDepth 20000 in
theorem walk_main (a0 a1 : ByteArray) (n : Nat) (w : World) (hn : n ≤ 8192) (c0 : a0.size ≤ 140737488351232) (c1 : a1.size ≤ 140737488351232)
    (hl0 : n ≤ a0.size) (hl1 : n ≤ a1.size) (hmin : (if a1.size < a0.size then (a1.size : Int) else (a0.size : Int)) = (n : Int)) :
    Calls Try.prog 6 #[.string a0, .string a1] w fun e w' => e = .returned (.bool true) ∧ Below w.heap.size w w' := by
  have hmk := run_make8 n hn
  have HL0 : Hid (n ≤ a0.size) := hl0
  have HL1 : Hid (n ≤ a1.size) := hl1
  clear hl0 hl1
  have hd8 : decide ((8192 : Int) < (n : Int)) = false := decide_eq_false (by omega)
  go_enter Try.func6, Try.ntmps6
  go_wp2
  go_loopw [7] (fun i wr => ∃ k : Nat, k ≤ n ∧ i = .int .i64 (k : Int) ∧ Good w (mixed a0.data.toList a1.data.toList n k) wr) (fun i _ => n - (intOf i).toNat)
  case atStart =>
    refine ⟨0, by omega, rfl, ?_, (Below.refl _ w).alloc (Nat.le_refl _) _⟩
    have e : mixed a0.data.toList a1.data.toList n 0 = List.replicate n 0 := by simp [mixed]
    rw [e]
    exact lies_new w (List.replicate n 0) 5
  case round =>
    obtain ⟨k, hk, rfl, hg⟩ := hrel
    by_cases hlt : k < n
    · have hk0 : k < a0.size := by have := HL0.out; omega
      have hk1 : k < a1.size := by have := HL1.out; omega
      have hml := mixed_length a0.data.toList a1.data.toList n k hk (by simpa using HL0.out) (by simpa using HL1.out)
      obtain ⟨x, hx⟩ : ∃ x, x = a0[k] := ⟨_, rfl⟩
      obtain ⟨y, hy⟩ : ∃ y, y = a1[k] := ⟨_, rfl⟩
      have hi0 := run_at a0 k x hk0 hx
      have hi1 := run_at a1 k y hk1 hy
      have hxy : bits BinOp.xor IntKind.u8 (x.toNat : Int) (y.toNat : Int) = ((x ^^^ y).toNat : Int) := by
        have := x.toNat_lt
        have := y.toNat_lt
        rw [xor8 _ _ (by omega) (by omega), UInt8.toNat_xor]
      obtain ⟨z, hz⟩ : ∃ z, z = (mixed a0.data.toList a1.data.toList n k)[k]'(by omega) := ⟨_, rfl⟩
      have hc := (hg.1.2 k (by omega)).1
      have hf := (hg.1.2 k (by omega)).2
      rw [← hz] at hc
      have HN : Hid (Good w (mixed a0.data.toList a1.data.toList n (k + 1)) (wr.setCell ⟨w.heap.size, k, none⟩ (.int .u8 ((x ^^^ y).toNat : Int))).drew) := by
        unfold Hid
        have e := mixed_set a0.data.toList a1.data.toList n k hlt (by simpa using HL0.out) (by simpa using HL1.out)
        rw [← e, show a0.data.toList[k]'(by simpa using hk0) = x from hx.symm, show a1.data.toList[k]'(by simpa using hk1) = y from hy.symm]
        exact ⟨(hg.1.set _ _).drew, (hg.2.setCell (Nat.le_refl _) _).drew⟩
      clear hz hml hg hx hy hmk
      go_wp2
      go_region
      go_wp2
      go_roundw
      case rel => exact ⟨k + 1, by omega, by go_num, HN.out⟩
      case measure => simp [intOf]; omega
    · obtain rfl : k = n := by omega
      obtain ⟨l, hle⟩ : ∃ l, l = mixed a0.data.toList a1.data.toList k k := ⟨_, rfl⟩
      have hul := mixed_length a0.data.toList a1.data.toList k k hk (by simpa using HL0.out) (by simpa using HL1.out)
      rw [← hle] at hg hul
      have hgd : Good w l wr.drew := hg.drew
      have hg2 : Good2 w l k wr.heap.size (wr.alloc (.cells (noughts k) 5)).drew := (hg.make k).drew
      have HK : Hid (∀ W, Good w l W → (convert 25 9 (.slice (some ⟨w.heap.size, 0, none⟩) k k)).run Try.prog W = .ok (.string ⟨l.toArray⟩) W) :=
        fun W h => h.1.conv k k hul.symm 25 9 5 Try.underlying25 Try.underlying5 Try.underlying9
      have HZ : Hid (∀ g W, Good2 w l k g W → (convert 25 9 (.slice (some ⟨g, 0, none⟩) k k)).run Try.prog W = .ok (.string ⟨(List.replicate k (0 : UInt8)).toArray⟩) W) :=
        fun g W h => h.2.conv k k (by simp) 25 9 5 Try.underlying25 Try.underlying5 Try.underlying9
      obtain ⟨X, hX⟩ : ∃ X : ByteArray, X = ⟨l.toArray⟩ := ⟨_, rfl⟩
      obtain ⟨Z, hZ⟩ : ∃ Z : ByteArray, Z = ⟨(List.replicate k (0 : UInt8)).toArray⟩ := ⟨_, rfl⟩
      rw [← hX] at HK
      rw [← hZ] at HZ
      have hXs : X.size ≤ maxLen := by rw [hX]; unfold maxLen; simp [ByteArray.size]; omega
      have hZs : Z.size ≤ maxLen := by rw [hZ]; unfold maxLen; simp [ByteArray.size]; omega
      have hAs : (a0.extract 0 k).size ≤ maxLen := by rw [ByteArray.size_extract]; unfold maxLen; omega
      have hBs : (a1.extract 0 k).size ≤ maxLen := by rw [ByteArray.size_extract]; unfold maxLen; omega
      obtain ⟨F, hF⟩ : ∃ F : ByteArray → Int, F = fun s => (S.crc s.data.toList : Int) := ⟨_, rfl⟩
      obtain ⟨y, hy⟩ : ∃ y, y = bits BinOp.xor IntKind.i64 (F (a0.extract 0 k)) (F (a1.extract 0 k)) := ⟨_, rfl⟩
      have hxb : bits BinOp.xor IntKind.i64 y (F Z) = F X := by
        rw [hy, hF, hX, hZ, hle]
        exact sums_xor a0 a1 k HL0.out HL1.out
      have HC : Hid (∀ (s : ByteArray) (W : World), s.size ≤ maxLen → Good w l W → Calls Try.prog 9 #[.string s] W fun e w' => e = .returned (.int .i64 (F s)) ∧ Good w l w' ∧ Good2 w l k w'.heap.size (w'.alloc (.cells (noughts k) 5)) ∧ ∀ g, Good2 w l k g W → Good2 w l k g w') := by
        intro s W hs h
        rw [hF]
        refine (sums_Crc s W hs).mono ?_
        rintro e w' ⟨rfl, hb'⟩
        exact ⟨rfl, h.below hb', (h.below hb').make k, fun g h2 => h2.below hb'⟩
      have HAW : Hid (∀ W, Good w l W → Calls Try.prog 8 #[] W fun e w' => e = .returned (.bool true) ∧ Good w l w') := by
        intro W h
        refine (awake2 W).mono ?_
        rintro e w' ⟨rfl, hb'⟩
        exact ⟨rfl, h.below hb'⟩
      have hz2 := HZ.out _ _ hg2
      have hxa := hy.symm
      have hi1 : (0 : Int) ≤ (k : Int) := by omega
      have hi2 : (k : Int) ≤ (a0.size : Int) := by have := HL0.out; omega
      have hi3 : (k : Int) ≤ (a1.size : Int) := by have := HL1.out; omega
      clear hy hF hX hZ hle hul hmin hn c0 c1 hg hk hlt
      go_wp2
      go_region_held (fun W => (convert 25 9 (.slice (some ⟨w.heap.size, 0, none⟩) k k)).run Try.prog W = .ok (.string X) W) (first | exact HK.out _ (by assumption) | exact HK.out _ (Good2.good (by assumption)))
        (first
          | (go_at_call 9; refine (HC.out _ _ ?_ ?_).mono ?_; assumption; (first | assumption | (refine Good2.good (n := k) (g := ?_) ?_; rotate_left; assumption)); rintro e w' ⟨rfl, hg', hm', hgg'⟩; have hzm' := HZ.out _ _ hm'; (try (have h2' := hgg' _ (by assumption); have hzz' := HZ.out _ _ h2')))
          | (go_at_call 8; refine (HAW.out _ ?_).mono ?_; (first | assumption | (refine Good2.good (n := k) (g := ?_) ?_; rotate_left; assumption)); rintro e w' ⟨rfl, hg'⟩))
      all_goals go_wp2
      all_goals go_ret
      all_goals exact ⟨rfl, hg'.bel⟩

set_option maxHeartbeats 400000 in
theorem walk_long (a0 a1 : ByteArray) (n : Nat) (w : World) (hd : decide ((8192 : Int) < (n : Int)) = true)
    (hmin : (if a1.size < a0.size then (a1.size : Int) else (a0.size : Int)) = (n : Int)) :
    Calls Try.prog 6 #[.string a0, .string a1] w fun e w' => e = .returned (.bool true) ∧ Below w.heap.size w w' := by
  go_enter Try.func6, Try.ntmps6
  go_wp2_with fail
  refine (awake2 _).mono ?_
  rintro e w1 ⟨rfl, hb1⟩
  go_wp2
  go_ret
  exact ⟨rfl, hb1⟩

theorem walk (a0 a1 : ByteArray) (w : World) (c0 : a0.size ≤ 140737488351232) (c1 : a1.size ≤ 140737488351232) :
    Calls Try.prog 6 #[.string a0, .string a1] w fun e w' => e = .returned (.bool true) ∧ Below w.heap.size w w' := by
  obtain ⟨n, hn⟩ : ∃ n : Nat, (if a1.size < a0.size then (a1.size : Int) else (a0.size : Int)) = (n : Int) := by
    by_cases h : a1.size < a0.size
    · exact ⟨a1.size, if_pos h⟩
    · exact ⟨a0.size, if_neg h⟩
  by_cases h : 8192 < n
  · exact walk_long a0 a1 n w (decide_eq_true (by omega)) hn
  · refine walk_main a0 a1 n w (by omega) c0 c1 ?_ ?_ hn
    · split at hn <;> omega
    · split at hn <;> omega

theorem own : ownKnob Try.prog.godebug = none := by kernel_rfl

set_option maxRecDepth 100000 in
theorem lifted (os : Os) (started : os.Started) (H : Type) (enc : TypeId × Value → H) :
    ReturnsInHanded {} Try.checked os 6 .any (Rows.sumsLinearSpec.pre6 enc Try.prog Try.f6 Rows.sumsLinearRow.domain false) (Rows.sumsLinearSpec.post enc Try.prog Try.f6 false true false false) := by
  refine returnsInHanded_of_change_sized (C := Try.checked) own started (by kernel_rfl) Try.func6
    (ChangeSpec.witness6 (enc := enc) (C := Try.checked) false ⟨#[], #[.string ByteArray.empty, .string ByteArray.empty], []⟩ 8 (by kernel_rfl) (by kernel_rfl) (by kernel_rfl) (by kernel_rfl)) ?_
  intro W base args ds gs before hval0 hW _ hsz0 _
  have hsz : (DataW.weightsEach Try.prog (Try.f6.params.toList ++ Rows.sumsLinearSpec.plain.varTypes Try.prog) (ds ++ gs)).all (· ≤ reachBytes) = true := hsz0
  have hval : ∀ (j : Nat) t v, Try.f6.params[j]? = some t → args[j]? = some v → Value.okWide Try.prog W .any base t v := hval0
  have hW' := hW
  obtain ⟨p, q, hA0, hV, rfl, hfz, hnd⟩ := hW
  have hA : DataW.TrodAll enc Try.prog W 0 (fun _ => true) true Try.f6.params.toList args.toList ds p := hA0
  rw [Try.params6] at hA hval hsz
  obtain ⟨v0, vs0, d0, ds0, p0, q0, hargs, rfl, rfl, h0, r0⟩ := trodAll_cons hA
  obtain ⟨v1, vs1, d1, ds1, p1, q1, rfl, rfl, rfl, h1, r1⟩ := trodAll_cons r0
  obtain ⟨rfl, rfl, rfl⟩ := trodAll_nil r1
  obtain rfl : args = #[v0, v1] := by cases args; simp_all
  obtain ⟨rfl, rfl⟩ := trodVars_none hV
  obtain ⟨a0, rfl, rfl, rfl, w0⟩ := open_string Try.underlying9 (hval 0 9 v0 rfl rfl) h0
  have b0 : a0.size ≤ 140737488351232 := by have := sized_string hsz (j := 0) (t := 9) rfl rfl; simpa [reachBytes] using this
  obtain ⟨a1, rfl, rfl, rfl, w1⟩ := open_string Try.underlying9 (hval 1 9 v1 rfl rfl) h1
  have b1 : a1.size ≤ 140737488351232 := by have := sized_string hsz (j := 1) (t := 9) rfl rfl; simpa [reachBytes] using this
  clear hA0 hval0 hsz0
  refine (walk a0 a1 W b0 b1).mono fun e W' ⟨he, bel⟩ => ?_
  subst he
  exact ⟨_, rfl, _, _, _, [], _, [], hW', trodAll_mk1 (shut_bool Try.underlying4 _), (trodAll_cons_mk (shut_string Try.underlying9 w0) (trodAll_cons_mk (shut_string Try.underlying9 w1) trodAll_mk0)), rfl, bel.frame _, fun h => by cases h⟩

theorem over : Rows.sumsLinearRow.holds Try.pinned (OpenSpec.ofChange Rows.sumsLinearSpec) :=
  OpenClaim.holds_of_wide 6 Try.f6 rfl rfl rfl rfl rfl rfl rfl ⟨rfl, rfl, rfl, rfl, rfl⟩ rfl rfl rfl rfl rfl (by kernel_rfl) Try.func6 (by kernel_rfl)
    (of_decide_eq_true (by kernel_rfl)) (by unfold Func.isWrapper; first | (rw [if_pos (by decide +kernel)]; kernel_rfl) | (rw [if_neg (by decide +kernel)]; exact ⟨rfl, rfl⟩))
    (fun os started H enc _ => lifted os started H enc)


end Go.Proofs.Ytkjmajkmjebhnaa.sumsLinear
namespace Go.Proofs.Ytkjmajkmjebhnaa
/-- The statement. -/
theorem sumsLinear_holds : Rows.SumsLinearSaid := sumsLinear.over
end Go.Proofs.Ytkjmajkmjebhnaa
