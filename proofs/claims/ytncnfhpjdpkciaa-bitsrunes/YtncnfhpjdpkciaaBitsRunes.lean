/-
  For every number n: BitsRunes answers true: each sign that there is has its bytes, and they are a text; with the last one left out they are none; the argument reads afterwards as before. No condition.
-/
import Derived.Test.YtncnfhpjdpkciaaAwake
import Derived.Test.YtncnfhpjdpkciaaMathRunes
import Derived.ProofKit
import Derived.OpenShut
import Derived.ShutString
import Derived.SizedLaws
namespace Go.Proofs.Ytncnfhpjdpkciaa.bitsRunes
open Go.ChangeShapes Go.WideShapes Go.ChangeAt Go.RowKit
open Go.ChangeMaps (open_string shut_string)

theorem and63 (n : Int) : bits BinOp.and IntKind.i64 n 63 = n % 64 := by
  unfold bits
  simp only [BitVec.toNat_and]
  have e : (BitVec.ofInt IntKind.i64.bits 63).toNat = 2 ^ 6 - 1 := by decide
  have e2 : (2 ^ IntKind.i64.bits : Nat) = 18446744073709551616 := by decide
  have e3 : (2 ^ 6 : Nat) = 64 := by decide
  rw [e, Nat.and_two_pow_sub_one_eq_mod, BitVec.toNat_ofInt, e2, e3, IntWalk.i64_in _ (by omega)]
  omega

theorem and21 (n : Int) : bits BinOp.and IntKind.i64 n 2097151 = n % 2097152 := by
  unfold bits
  simp only [BitVec.toNat_and]
  have e : (BitVec.ofInt IntKind.i64.bits 2097151).toNat = 2 ^ 21 - 1 := by decide
  have e2 : (2 ^ IntKind.i64.bits : Nat) = 18446744073709551616 := by decide
  have e3 : (2 ^ 21 : Nat) = 2097152 := by decide
  rw [e, Nat.and_two_pow_sub_one_eq_mod, BitVec.toNat_ofInt, e2, e3, IntWalk.i64_in _ (by omega)]
  omega

theorem conv_cells {W : World} {g n cap : Nat} {cs : Array Value} {l : List UInt8} {fr : Nat × Nat} (hh : W.heap[g]? = some (.cells cs 5 fr)) (hl : cs.toList.take l.length = Lib.byteCells l) (hn : l.length = n) :
    (convert 39 9 (.slice (some ⟨g, 0, none⟩) n cap)).run Try.prog W = .ok (.string ⟨l.toArray⟩) W := by
  subst hn
  refine run_convert_bytes_back W 39 9 5 ⟨g, 0, none⟩ cap l Try.underlying39 Try.underlying5 Try.underlying9 ?_
  intro j hj
  rw [addr_add0, Lib.cell_of_heap hh]
  have h1 : (cs.toList.take l.length)[j]? = (Lib.byteCells l)[j]? := by rw [hl]
  rw [List.getElem?_take_of_lt hj] at h1
  rw [← Array.getElem?_toList, h1]
  simp [Lib.byteCells, hj]

theorem valid_of {l : List UInt8} {g b : Bool} (h : M.mValid ⟨0, 0, 0⟩ (l ++ []) = (g && M.mValid ⟨0, 0, 0⟩ [])) (hg : g = b) : valid ⟨l.toArray⟩ = b := by
  show M.mValid ⟨0, 0, 0⟩ l = b
  rw [List.append_nil] at h
  rw [h, hg]
  exact Bool.and_true b

theorem valid_az {l : List UInt8} {g b : Bool} (h : M.mValid ⟨0, 0, 0⟩ (l ++ [122]) = (g && M.mValid ⟨0, 0, 0⟩ [122])) (hg : g = b) : valid (⟨#[97]⟩ ++ ⟨l.toArray⟩ ++ ⟨#[122]⟩) = b := by
  have e : (((⟨#[97]⟩ : ByteArray) ++ ⟨l.toArray⟩ ++ ⟨#[122]⟩) : ByteArray).data.toList = 97 :: (l ++ [122]) := by simp
  unfold valid
  rw [e, show (97 : UInt8) = (97 : Nat).toUInt8 from rfl, M.mv_ascii (by omega), h, hg]
  exact Bool.and_true b

theorem cells1 (k : Nat) (h2 : k < 128) : #[Value.int .u8 ((k : Int))].toList = Lib.byteCells (M.enc1 k) := by
  simp only [M.enc1, Lib.byteCells, List.map_cons, List.map_nil]
  rw [byte_toNat (by omega)]

set_option maxHeartbeats 1000000 in
set_option maxRecDepth 20000 in
theorem walk1 (a0 : Int) (k : Nat) (w : World) (hand : bits BinOp.and IntKind.i64 a0 2097151 = (k : Int)) (h2 : k < 128)  :
    Calls Try.prog 8 #[.int .i64 a0] w fun e w' => e = .returned (.bool true) ∧ Below w.heap.size w w' := by
  have hgood : M.good k = true := by unfold M.good; exact decide_eq_true (by omega)
  have V1 : Hid (valid ⟨(M.enc1 k).toArray⟩ = true) := valid_of (M.enc1_valid h2 []) hgood
  have V3 : Hid (valid (⟨#[97]⟩ ++ ⟨(M.enc1 k).toArray⟩ ++ ⟨#[122]⟩) = true) := valid_az (M.enc1_valid h2 [122]) hgood
  have hlen : (M.enc1 k).length ≤ 4 := by show 1 ≤ 4; decide
  have hsz : Hid ((⟨(M.enc1 k).toArray⟩ : ByteArray).size ≤ maxLen) := by unfold Hid; rw [size_of_list]; show 1 ≤ maxLen; decide
  have hsz3 : Hid (((⟨#[97]⟩ ++ ⟨(M.enc1 k).toArray⟩ ++ ⟨#[122]⟩) : ByteArray).size ≤ maxLen) := by unfold Hid; rw [ByteArray.size_append, ByteArray.size_append, size_of_list]; show 1 + 1 + 1 ≤ maxLen; decide
  clear hgood
  have hcv0 := conv_cells (W := w.alloc (.cells #[Value.int .u8 ((k : Int))] 5)) (cap := 1) (heap_alloc_new w _) (by rw [cells1 k h2]; rfl) (show (M.enc1 k).length = 1 from rfl)
  go_enter Try.func8, Try.ntmps8
  go_wp2_with fail
  refine (bits_Valid _ _ hsz.out).mono ?_
  rw [V1.out]
  rintro e w1 ⟨rfl, hb1⟩
  have hh1 : w1.heap[w.heap.size]? = some (.cells #[Value.int .u8 ((k : Int))] 5 (0, 0)) := by rw [hb1.block _ (by simp)]; exact heap_alloc_new w _
  have hcv1 := conv_cells (cap := 1) hh1 (by rw [cells1 k h2]; rfl) (show (M.enc1 k).length = 1 from rfl)
  clear hh1 hcv0
  go_wp2_with fail
  refine (bits_Valid _ _ hsz3.out).mono ?_
  rw [V3.out]
  rintro e w3 ⟨rfl, hb3⟩
  go_wp2_with fail
  refine (awake _).mono ?_
  rintro e w4 ⟨rfl, hb4⟩
  go_wp2
  go_ret
  exact ⟨rfl, ((Below.refl _ w).alloc (Nat.le_refl _) _).trans ((hb1.trans ((hb3.trans (hb4.mono hb3.size)).mono hb1.size)).mono (by simp))⟩

theorem cells2 (k : Nat) (h2 : k < 2048) : #[Value.int .u8 (192 + (k : Int) / 64), Value.int .u8 (128 + (k : Int) % 64)].toList = Lib.byteCells (M.enc2 k) := by
  simp only [M.enc2, Lib.byteCells, List.map_cons, List.map_nil]
  rw [byte_toNat (by omega), byte_toNat (by omega)]
  simp

set_option maxHeartbeats 1000000 in
set_option maxRecDepth 20000 in
theorem walk2 (a0 : Int) (k : Nat) (w : World) (hand : bits BinOp.and IntKind.i64 a0 2097151 = (k : Int)) (h1 : 128 ≤ k) (h2 : k < 2048)  :
    Calls Try.prog 8 #[.int .i64 a0] w fun e w' => e = .returned (.bool true) ∧ Below w.heap.size w w' := by
  have q0 : bits BinOp.and IntKind.i64 (k : Int) 63 = (k : Int) % 64 := and63 _
  have hgood : M.good k = true := by unfold M.good; exact decide_eq_true (by omega)
  have V1 : Hid (valid ⟨(M.enc2 k).toArray⟩ = true) := valid_of (M.enc2_valid h1 h2 []) hgood
  have V3 : Hid (valid (⟨#[97]⟩ ++ ⟨(M.enc2 k).toArray⟩ ++ ⟨#[122]⟩) = true) := valid_az (M.enc2_valid h1 h2 [122]) hgood
  have V2 : Hid (valid ⟨(M.cutB2 k).toArray⟩ = false) := M.cut2 h1 h2
  have hlen : (M.enc2 k).length ≤ 4 := by show 2 ≤ 4; decide
  have hsz : Hid ((⟨(M.enc2 k).toArray⟩ : ByteArray).size ≤ maxLen) := by unfold Hid; rw [size_of_list]; show 2 ≤ maxLen; decide
  have hsz3 : Hid (((⟨#[97]⟩ ++ ⟨(M.enc2 k).toArray⟩ ++ ⟨#[122]⟩) : ByteArray).size ≤ maxLen) := by unfold Hid; rw [ByteArray.size_append, ByteArray.size_append, size_of_list]; show 1 + 2 + 1 ≤ maxLen; decide
  clear hgood
  have hcv0 := conv_cells (W := w.alloc (.cells #[Value.int .u8 (192 + (k : Int) / 64), Value.int .u8 (128 + (k : Int) % 64)] 5)) (cap := 2) (heap_alloc_new w _) (by rw [cells2 k h2]; rfl) (show (M.enc2 k).length = 2 from rfl)
  go_enter Try.func8, Try.ntmps8
  go_wp2_with fail
  refine (bits_Valid _ _ hsz.out).mono ?_
  rw [V1.out]
  rintro e w1 ⟨rfl, hb1⟩
  have hh1 : w1.heap[w.heap.size]? = some (.cells #[Value.int .u8 (192 + (k : Int) / 64), Value.int .u8 (128 + (k : Int) % 64)] 5 (0, 0)) := by rw [hb1.block _ (by simp)]; exact heap_alloc_new w _
  have hcv1 := conv_cells (cap := 2) hh1 (by rw [cells2 k h2]; rfl) (show (M.enc2 k).length = 2 from rfl)
  have hct1 := conv_cells (cap := 2) (l := M.cutB2 k) hh1 (by rw [cells2 k h2]; rfl) (show (M.cutB2 k).length = 1 from rfl)
  have HH : Hid (w1.heap[w.heap.size]? = some (.cells #[Value.int .u8 (192 + (k : Int) / 64), Value.int .u8 (128 + (k : Int) % 64)] 5 (0, 0))) := hh1
  have hlt1 : w.heap.size < w1.heap.size := by have := hb1.size; simp at this; omega
  clear hh1 hcv0
  go_wp2_with fail
  refine (bits_Valid _ _ (by rw [size_of_list]; show 1 ≤ maxLen; decide)).mono ?_
  rw [V2.out]
  rintro e w2 ⟨rfl, hb2⟩
  have hh2 : w2.heap[w.heap.size]? = some (.cells #[Value.int .u8 (192 + (k : Int) / 64), Value.int .u8 (128 + (k : Int) % 64)] 5 (0, 0)) := by rw [hb2.block _ hlt1]; exact HH.out
  have hcv2 := conv_cells (cap := 2) hh2 (by rw [cells2 k h2]; rfl) (show (M.enc2 k).length = 2 from rfl)
  clear hh2 hcv1 hct1
  go_wp2_with fail
  refine (bits_Valid _ _ hsz3.out).mono ?_
  rw [V3.out]
  rintro e w3 ⟨rfl, hb3⟩
  go_wp2_with fail
  refine (awake _).mono ?_
  rintro e w4 ⟨rfl, hb4⟩
  go_wp2
  go_ret
  exact ⟨rfl, ((Below.refl _ w).alloc (Nat.le_refl _) _).trans ((hb1.trans ((hb2.trans ((hb3.trans (hb4.mono hb3.size)).mono hb2.size)).mono hb1.size)).mono (by simp))⟩

theorem cells3 (k : Nat) (h2 : k < 65536) : #[Value.int .u8 (224 + (k : Int) / 4096), Value.int .u8 (128 + (k : Int) / 64 % 64), Value.int .u8 (128 + (k : Int) % 64)].toList = Lib.byteCells (M.enc3 k) := by
  simp only [M.enc3, Lib.byteCells, List.map_cons, List.map_nil]
  rw [byte_toNat (by omega), byte_toNat (by omega), byte_toNat (by omega)]
  simp

set_option maxHeartbeats 1000000 in
set_option maxRecDepth 20000 in
theorem walk3a (a0 : Int) (k : Nat) (w : World) (hand : bits BinOp.and IntKind.i64 a0 2097151 = (k : Int)) (h1 : 2048 ≤ k) (h2 : k < 65536) (hg : k < 55296) :
    Calls Try.prog 8 #[.int .i64 a0] w fun e w' => e = .returned (.bool true) ∧ Below w.heap.size w w' := by
  have q0 : bits BinOp.and IntKind.i64 (k : Int) 63 = (k : Int) % 64 := and63 _
  have q1 : bits BinOp.and IntKind.i64 ((k : Int) / 64) 63 = (k : Int) / 64 % 64 := and63 _
  have c0 : decide ((k : Int) < 128) = false := decide_eq_false (by omega)
  have c1 : decide ((k : Int) < 2048) = false := decide_eq_false (by omega)
  have c2 : decide ((k : Int) < 65536) = true := decide_eq_true (by omega)
  have c3 : decide ((k : Int) ≤ 1114111) = true := decide_eq_true (by omega)
  have c4 : decide ((k : Int) < 55296) = true := decide_eq_true (by omega)
  have hq : (k : Int) / 4096 ≤ 15 := by omega
  have hgood : M.good k = true := by unfold M.good; exact decide_eq_true (by omega)
  have V1 : Hid (valid ⟨(M.enc3 k).toArray⟩ = true) := valid_of (M.enc3_valid h1 h2 []) hgood
  have V3 : Hid (valid (⟨#[97]⟩ ++ ⟨(M.enc3 k).toArray⟩ ++ ⟨#[122]⟩) = true) := valid_az (M.enc3_valid h1 h2 [122]) hgood
  have V2 : Hid (valid ⟨(M.cutB3 k).toArray⟩ = false) := M.cut3 h1 h2
  have hlen : (M.enc3 k).length ≤ 4 := by show 3 ≤ 4; decide
  have hsz : Hid ((⟨(M.enc3 k).toArray⟩ : ByteArray).size ≤ maxLen) := by unfold Hid; rw [size_of_list]; show 3 ≤ maxLen; decide
  have hsz3 : Hid (((⟨#[97]⟩ ++ ⟨(M.enc3 k).toArray⟩ ++ ⟨#[122]⟩) : ByteArray).size ≤ maxLen) := by unfold Hid; rw [ByteArray.size_append, ByteArray.size_append, size_of_list]; show 1 + 3 + 1 ≤ maxLen; decide
  have hc := cells3 k h2
  have HC : Hid (#[Value.int .u8 (224 + (k : Int) / 4096), Value.int .u8 (128 + (k : Int) / 64 % 64), Value.int .u8 (128 + (k : Int) % 64)].toList = Lib.byteCells (M.enc3 k)) := hc
  clear hgood hg h1 h2 hc
  have hcv0 := conv_cells (W := w.alloc (.cells #[Value.int .u8 (224 + (k : Int) / 4096), Value.int .u8 (128 + (k : Int) / 64 % 64), Value.int .u8 (128 + (k : Int) % 64)] 5)) (cap := 3) (heap_alloc_new w _) (by rw [HC.out]; rfl) (show (M.enc3 k).length = 3 from rfl)
  go_enter Try.func8, Try.ntmps8
  go_wp2_with fail
  refine (bits_Valid _ _ hsz.out).mono ?_
  rw [V1.out]
  rintro e w1 ⟨rfl, hb1⟩
  have hh1 : w1.heap[w.heap.size]? = some (.cells #[Value.int .u8 (224 + (k : Int) / 4096), Value.int .u8 (128 + (k : Int) / 64 % 64), Value.int .u8 (128 + (k : Int) % 64)] 5 (0, 0)) := by rw [hb1.block _ (by simp)]; exact heap_alloc_new w _
  have hcv1 := conv_cells (cap := 3) hh1 (by rw [HC.out]; rfl) (show (M.enc3 k).length = 3 from rfl)
  have hct1 := conv_cells (cap := 3) (l := M.cutB3 k) hh1 (by rw [HC.out]; rfl) (show (M.cutB3 k).length = 2 from rfl)
  have HH : Hid (w1.heap[w.heap.size]? = some (.cells #[Value.int .u8 (224 + (k : Int) / 4096), Value.int .u8 (128 + (k : Int) / 64 % 64), Value.int .u8 (128 + (k : Int) % 64)] 5 (0, 0))) := hh1
  have hlt1 : w.heap.size < w1.heap.size := by have := hb1.size; simp at this; omega
  clear hh1 hcv0
  go_wp2_with fail
  refine (bits_Valid _ _ (by rw [size_of_list]; show 2 ≤ maxLen; decide)).mono ?_
  rw [V2.out]
  rintro e w2 ⟨rfl, hb2⟩
  have hh2 : w2.heap[w.heap.size]? = some (.cells #[Value.int .u8 (224 + (k : Int) / 4096), Value.int .u8 (128 + (k : Int) / 64 % 64), Value.int .u8 (128 + (k : Int) % 64)] 5 (0, 0)) := by rw [hb2.block _ hlt1]; exact HH.out
  have hcv2 := conv_cells (cap := 3) hh2 (by rw [HC.out]; rfl) (show (M.enc3 k).length = 3 from rfl)
  clear hh2 hcv1 hct1
  go_wp2_with fail
  refine (bits_Valid _ _ hsz3.out).mono ?_
  rw [V3.out]
  rintro e w3 ⟨rfl, hb3⟩
  go_wp2_with fail
  refine (awake _).mono ?_
  rintro e w4 ⟨rfl, hb4⟩
  go_wp2
  go_ret
  exact ⟨rfl, ((Below.refl _ w).alloc (Nat.le_refl _) _).trans ((hb1.trans ((hb2.trans ((hb3.trans (hb4.mono hb3.size)).mono hb2.size)).mono hb1.size)).mono (by simp))⟩

set_option maxHeartbeats 1000000 in
set_option maxRecDepth 20000 in
theorem walk3b (a0 : Int) (k : Nat) (w : World) (hand : bits BinOp.and IntKind.i64 a0 2097151 = (k : Int)) (h1 : 2048 ≤ k) (h2 : k < 65536) (hg : 57343 < k) :
    Calls Try.prog 8 #[.int .i64 a0] w fun e w' => e = .returned (.bool true) ∧ Below w.heap.size w w' := by
  have q0 : bits BinOp.and IntKind.i64 (k : Int) 63 = (k : Int) % 64 := and63 _
  have q1 : bits BinOp.and IntKind.i64 ((k : Int) / 64) 63 = (k : Int) / 64 % 64 := and63 _
  have c0 : decide ((k : Int) < 128) = false := decide_eq_false (by omega)
  have c1 : decide ((k : Int) < 2048) = false := decide_eq_false (by omega)
  have c2 : decide ((k : Int) < 65536) = true := decide_eq_true (by omega)
  have c3 : decide ((k : Int) ≤ 1114111) = true := decide_eq_true (by omega)
  have c4 : decide ((k : Int) < 55296) = false := decide_eq_false (by omega)
  have c5 : decide (57343 < (k : Int)) = true := decide_eq_true (by omega)
  have hq : (k : Int) / 4096 ≤ 15 := by omega
  have hgood : M.good k = true := by unfold M.good; exact decide_eq_true (by omega)
  have V1 : Hid (valid ⟨(M.enc3 k).toArray⟩ = true) := valid_of (M.enc3_valid h1 h2 []) hgood
  have V3 : Hid (valid (⟨#[97]⟩ ++ ⟨(M.enc3 k).toArray⟩ ++ ⟨#[122]⟩) = true) := valid_az (M.enc3_valid h1 h2 [122]) hgood
  have V2 : Hid (valid ⟨(M.cutB3 k).toArray⟩ = false) := M.cut3 h1 h2
  have hlen : (M.enc3 k).length ≤ 4 := by show 3 ≤ 4; decide
  have hsz : Hid ((⟨(M.enc3 k).toArray⟩ : ByteArray).size ≤ maxLen) := by unfold Hid; rw [size_of_list]; show 3 ≤ maxLen; decide
  have hsz3 : Hid (((⟨#[97]⟩ ++ ⟨(M.enc3 k).toArray⟩ ++ ⟨#[122]⟩) : ByteArray).size ≤ maxLen) := by unfold Hid; rw [ByteArray.size_append, ByteArray.size_append, size_of_list]; show 1 + 3 + 1 ≤ maxLen; decide
  have hc := cells3 k h2
  have HC : Hid (#[Value.int .u8 (224 + (k : Int) / 4096), Value.int .u8 (128 + (k : Int) / 64 % 64), Value.int .u8 (128 + (k : Int) % 64)].toList = Lib.byteCells (M.enc3 k)) := hc
  clear hgood hg h1 h2 hc
  have hcv0 := conv_cells (W := w.alloc (.cells #[Value.int .u8 (224 + (k : Int) / 4096), Value.int .u8 (128 + (k : Int) / 64 % 64), Value.int .u8 (128 + (k : Int) % 64)] 5)) (cap := 3) (heap_alloc_new w _) (by rw [HC.out]; rfl) (show (M.enc3 k).length = 3 from rfl)
  go_enter Try.func8, Try.ntmps8
  go_wp2_with fail
  refine (bits_Valid _ _ hsz.out).mono ?_
  rw [V1.out]
  rintro e w1 ⟨rfl, hb1⟩
  have hh1 : w1.heap[w.heap.size]? = some (.cells #[Value.int .u8 (224 + (k : Int) / 4096), Value.int .u8 (128 + (k : Int) / 64 % 64), Value.int .u8 (128 + (k : Int) % 64)] 5 (0, 0)) := by rw [hb1.block _ (by simp)]; exact heap_alloc_new w _
  have hcv1 := conv_cells (cap := 3) hh1 (by rw [HC.out]; rfl) (show (M.enc3 k).length = 3 from rfl)
  have hct1 := conv_cells (cap := 3) (l := M.cutB3 k) hh1 (by rw [HC.out]; rfl) (show (M.cutB3 k).length = 2 from rfl)
  have HH : Hid (w1.heap[w.heap.size]? = some (.cells #[Value.int .u8 (224 + (k : Int) / 4096), Value.int .u8 (128 + (k : Int) / 64 % 64), Value.int .u8 (128 + (k : Int) % 64)] 5 (0, 0))) := hh1
  have hlt1 : w.heap.size < w1.heap.size := by have := hb1.size; simp at this; omega
  clear hh1 hcv0
  go_wp2_with fail
  refine (bits_Valid _ _ (by rw [size_of_list]; show 2 ≤ maxLen; decide)).mono ?_
  rw [V2.out]
  rintro e w2 ⟨rfl, hb2⟩
  have hh2 : w2.heap[w.heap.size]? = some (.cells #[Value.int .u8 (224 + (k : Int) / 4096), Value.int .u8 (128 + (k : Int) / 64 % 64), Value.int .u8 (128 + (k : Int) % 64)] 5 (0, 0)) := by rw [hb2.block _ hlt1]; exact HH.out
  have hcv2 := conv_cells (cap := 3) hh2 (by rw [HC.out]; rfl) (show (M.enc3 k).length = 3 from rfl)
  clear hh2 hcv1 hct1
  go_wp2_with fail
  refine (bits_Valid _ _ hsz3.out).mono ?_
  rw [V3.out]
  rintro e w3 ⟨rfl, hb3⟩
  go_wp2_with fail
  refine (awake _).mono ?_
  rintro e w4 ⟨rfl, hb4⟩
  go_wp2
  go_ret
  exact ⟨rfl, ((Below.refl _ w).alloc (Nat.le_refl _) _).trans ((hb1.trans ((hb2.trans ((hb3.trans (hb4.mono hb3.size)).mono hb2.size)).mono hb1.size)).mono (by simp))⟩

set_option maxHeartbeats 1000000 in
set_option maxRecDepth 20000 in
theorem walk3n (a0 : Int) (k : Nat) (w : World) (hand : bits BinOp.and IntKind.i64 a0 2097151 = (k : Int)) (h1 : 2048 ≤ k) (h2 : k < 65536) (hg : 55296 ≤ k ∧ k ≤ 57343) :
    Calls Try.prog 8 #[.int .i64 a0] w fun e w' => e = .returned (.bool true) ∧ Below w.heap.size w w' := by
  have q0 : bits BinOp.and IntKind.i64 (k : Int) 63 = (k : Int) % 64 := and63 _
  have q1 : bits BinOp.and IntKind.i64 ((k : Int) / 64) 63 = (k : Int) / 64 % 64 := and63 _
  have c0 : decide ((k : Int) < 128) = false := decide_eq_false (by omega)
  have c1 : decide ((k : Int) < 2048) = false := decide_eq_false (by omega)
  have c2 : decide ((k : Int) < 65536) = true := decide_eq_true (by omega)
  have c3 : decide ((k : Int) ≤ 1114111) = true := decide_eq_true (by omega)
  have c4 : decide ((k : Int) < 55296) = false := decide_eq_false (by omega)
  have c5 : decide (57343 < (k : Int)) = false := decide_eq_false (by omega)
  have hq : (k : Int) / 4096 ≤ 15 := by omega
  have hgood : M.good k = false := by unfold M.good; exact decide_eq_false (by omega)
  have V1 : Hid (valid ⟨(M.enc3 k).toArray⟩ = false) := valid_of (M.enc3_valid h1 h2 []) hgood
  have V3 : Hid (valid (⟨#[97]⟩ ++ ⟨(M.enc3 k).toArray⟩ ++ ⟨#[122]⟩) = false) := valid_az (M.enc3_valid h1 h2 [122]) hgood
  have V2 : Hid (valid ⟨(M.cutB3 k).toArray⟩ = false) := M.cut3 h1 h2
  have hlen : (M.enc3 k).length ≤ 4 := by show 3 ≤ 4; decide
  have hsz : Hid ((⟨(M.enc3 k).toArray⟩ : ByteArray).size ≤ maxLen) := by unfold Hid; rw [size_of_list]; show 3 ≤ maxLen; decide
  have hsz3 : Hid (((⟨#[97]⟩ ++ ⟨(M.enc3 k).toArray⟩ ++ ⟨#[122]⟩) : ByteArray).size ≤ maxLen) := by unfold Hid; rw [ByteArray.size_append, ByteArray.size_append, size_of_list]; show 1 + 3 + 1 ≤ maxLen; decide
  have hc := cells3 k h2
  have HC : Hid (#[Value.int .u8 (224 + (k : Int) / 4096), Value.int .u8 (128 + (k : Int) / 64 % 64), Value.int .u8 (128 + (k : Int) % 64)].toList = Lib.byteCells (M.enc3 k)) := hc
  clear hgood hg h1 h2 hc
  have hcv0 := conv_cells (W := w.alloc (.cells #[Value.int .u8 (224 + (k : Int) / 4096), Value.int .u8 (128 + (k : Int) / 64 % 64), Value.int .u8 (128 + (k : Int) % 64)] 5)) (cap := 3) (heap_alloc_new w _) (by rw [HC.out]; rfl) (show (M.enc3 k).length = 3 from rfl)
  go_enter Try.func8, Try.ntmps8
  go_wp2_with fail
  refine (bits_Valid _ _ hsz.out).mono ?_
  rw [V1.out]
  rintro e w1 ⟨rfl, hb1⟩
  have hh1 : w1.heap[w.heap.size]? = some (.cells #[Value.int .u8 (224 + (k : Int) / 4096), Value.int .u8 (128 + (k : Int) / 64 % 64), Value.int .u8 (128 + (k : Int) % 64)] 5 (0, 0)) := by rw [hb1.block _ (by simp)]; exact heap_alloc_new w _
  have hcv1 := conv_cells (cap := 3) hh1 (by rw [HC.out]; rfl) (show (M.enc3 k).length = 3 from rfl)
  have hct1 := conv_cells (cap := 3) (l := M.cutB3 k) hh1 (by rw [HC.out]; rfl) (show (M.cutB3 k).length = 2 from rfl)
  have HH : Hid (w1.heap[w.heap.size]? = some (.cells #[Value.int .u8 (224 + (k : Int) / 4096), Value.int .u8 (128 + (k : Int) / 64 % 64), Value.int .u8 (128 + (k : Int) % 64)] 5 (0, 0))) := hh1
  have hlt1 : w.heap.size < w1.heap.size := by have := hb1.size; simp at this; omega
  clear hh1 hcv0
  go_wp2_with fail
  refine (bits_Valid _ _ (by rw [size_of_list]; show 2 ≤ maxLen; decide)).mono ?_
  rw [V2.out]
  rintro e w2 ⟨rfl, hb2⟩
  have hh2 : w2.heap[w.heap.size]? = some (.cells #[Value.int .u8 (224 + (k : Int) / 4096), Value.int .u8 (128 + (k : Int) / 64 % 64), Value.int .u8 (128 + (k : Int) % 64)] 5 (0, 0)) := by rw [hb2.block _ hlt1]; exact HH.out
  have hcv2 := conv_cells (cap := 3) hh2 (by rw [HC.out]; rfl) (show (M.enc3 k).length = 3 from rfl)
  clear hh2 hcv1 hct1
  go_wp2_with fail
  refine (bits_Valid _ _ hsz3.out).mono ?_
  rw [V3.out]
  rintro e w3 ⟨rfl, hb3⟩
  go_wp2_with fail
  refine (awake _).mono ?_
  rintro e w4 ⟨rfl, hb4⟩
  go_wp2
  go_ret
  exact ⟨rfl, ((Below.refl _ w).alloc (Nat.le_refl _) _).trans ((hb1.trans ((hb2.trans ((hb3.trans (hb4.mono hb3.size)).mono hb2.size)).mono hb1.size)).mono (by simp))⟩

theorem cells4 (k : Nat) (h2 : k < 2097152) : #[Value.int .u8 (240 + (k : Int) / 262144), Value.int .u8 (128 + (k : Int) / 4096 % 64), Value.int .u8 (128 + (k : Int) / 64 % 64), Value.int .u8 (128 + (k : Int) % 64)].toList = Lib.byteCells (M.enc4 k) := by
  simp only [M.enc4, Lib.byteCells, List.map_cons, List.map_nil]
  rw [byte_toNat (by omega), byte_toNat (by omega), byte_toNat (by omega), byte_toNat (by omega)]
  simp

set_option maxHeartbeats 1000000 in
set_option maxRecDepth 20000 in
theorem walk4 (a0 : Int) (k : Nat) (w : World) (hand : bits BinOp.and IntKind.i64 a0 2097151 = (k : Int)) (h1 : 65536 ≤ k) (h2 : k < 2097152) (hg : k ≤ 1114111) :
    Calls Try.prog 8 #[.int .i64 a0] w fun e w' => e = .returned (.bool true) ∧ Below w.heap.size w w' := by
  have q0 : bits BinOp.and IntKind.i64 (k : Int) 63 = (k : Int) % 64 := and63 _
  have q1 : bits BinOp.and IntKind.i64 ((k : Int) / 64) 63 = (k : Int) / 64 % 64 := and63 _
  have q2 : bits BinOp.and IntKind.i64 ((k : Int) / 4096) 63 = (k : Int) / 4096 % 64 := and63 _
  have c0 : decide ((k : Int) < 128) = false := decide_eq_false (by omega)
  have c1 : decide ((k : Int) < 2048) = false := decide_eq_false (by omega)
  have c2 : decide ((k : Int) < 65536) = false := decide_eq_false (by omega)
  have c3 : decide ((k : Int) ≤ 1114111) = true := decide_eq_true (by omega)
  have c4 : decide ((k : Int) < 55296) = false := decide_eq_false (by omega)
  have c5 : decide (57343 < (k : Int)) = true := decide_eq_true (by omega)
  have hq : (k : Int) / 262144 ≤ 7 := by omega
  have hgood : M.good k = true := by unfold M.good; exact decide_eq_true (by omega)
  have V1 : Hid (valid ⟨(M.enc4 k).toArray⟩ = true) := valid_of (M.enc4_valid h1 h2 []) hgood
  have V3 : Hid (valid (⟨#[97]⟩ ++ ⟨(M.enc4 k).toArray⟩ ++ ⟨#[122]⟩) = true) := valid_az (M.enc4_valid h1 h2 [122]) hgood
  have V2 : Hid (valid ⟨(M.cutB4 k).toArray⟩ = false) := M.cut4 h1 h2
  have hlen : (M.enc4 k).length ≤ 4 := by show 4 ≤ 4; decide
  have hsz : Hid ((⟨(M.enc4 k).toArray⟩ : ByteArray).size ≤ maxLen) := by unfold Hid; rw [size_of_list]; show 4 ≤ maxLen; decide
  have hsz3 : Hid (((⟨#[97]⟩ ++ ⟨(M.enc4 k).toArray⟩ ++ ⟨#[122]⟩) : ByteArray).size ≤ maxLen) := by unfold Hid; rw [ByteArray.size_append, ByteArray.size_append, size_of_list]; show 1 + 4 + 1 ≤ maxLen; decide
  have hc := cells4 k h2
  have HC : Hid (#[Value.int .u8 (240 + (k : Int) / 262144), Value.int .u8 (128 + (k : Int) / 4096 % 64), Value.int .u8 (128 + (k : Int) / 64 % 64), Value.int .u8 (128 + (k : Int) % 64)].toList = Lib.byteCells (M.enc4 k)) := hc
  clear hgood hg h1 h2 hc
  have hcv0 := conv_cells (W := w.alloc (.cells #[Value.int .u8 (240 + (k : Int) / 262144), Value.int .u8 (128 + (k : Int) / 4096 % 64), Value.int .u8 (128 + (k : Int) / 64 % 64), Value.int .u8 (128 + (k : Int) % 64)] 5)) (cap := 4) (heap_alloc_new w _) (by rw [HC.out]; rfl) (show (M.enc4 k).length = 4 from rfl)
  go_enter Try.func8, Try.ntmps8
  go_wp2_with fail
  refine (bits_Valid _ _ hsz.out).mono ?_
  rw [V1.out]
  rintro e w1 ⟨rfl, hb1⟩
  have hh1 : w1.heap[w.heap.size]? = some (.cells #[Value.int .u8 (240 + (k : Int) / 262144), Value.int .u8 (128 + (k : Int) / 4096 % 64), Value.int .u8 (128 + (k : Int) / 64 % 64), Value.int .u8 (128 + (k : Int) % 64)] 5 (0, 0)) := by rw [hb1.block _ (by simp)]; exact heap_alloc_new w _
  have hcv1 := conv_cells (cap := 4) hh1 (by rw [HC.out]; rfl) (show (M.enc4 k).length = 4 from rfl)
  have hct1 := conv_cells (cap := 4) (l := M.cutB4 k) hh1 (by rw [HC.out]; rfl) (show (M.cutB4 k).length = 3 from rfl)
  have HH : Hid (w1.heap[w.heap.size]? = some (.cells #[Value.int .u8 (240 + (k : Int) / 262144), Value.int .u8 (128 + (k : Int) / 4096 % 64), Value.int .u8 (128 + (k : Int) / 64 % 64), Value.int .u8 (128 + (k : Int) % 64)] 5 (0, 0))) := hh1
  have hlt1 : w.heap.size < w1.heap.size := by have := hb1.size; simp at this; omega
  clear hh1 hcv0
  go_wp2_with fail
  refine (bits_Valid _ _ (by rw [size_of_list]; show 3 ≤ maxLen; decide)).mono ?_
  rw [V2.out]
  rintro e w2 ⟨rfl, hb2⟩
  have hh2 : w2.heap[w.heap.size]? = some (.cells #[Value.int .u8 (240 + (k : Int) / 262144), Value.int .u8 (128 + (k : Int) / 4096 % 64), Value.int .u8 (128 + (k : Int) / 64 % 64), Value.int .u8 (128 + (k : Int) % 64)] 5 (0, 0)) := by rw [hb2.block _ hlt1]; exact HH.out
  have hcv2 := conv_cells (cap := 4) hh2 (by rw [HC.out]; rfl) (show (M.enc4 k).length = 4 from rfl)
  clear hh2 hcv1 hct1
  go_wp2_with fail
  refine (bits_Valid _ _ hsz3.out).mono ?_
  rw [V3.out]
  rintro e w3 ⟨rfl, hb3⟩
  go_wp2_with fail
  refine (awake _).mono ?_
  rintro e w4 ⟨rfl, hb4⟩
  go_wp2
  go_ret
  exact ⟨rfl, ((Below.refl _ w).alloc (Nat.le_refl _) _).trans ((hb1.trans ((hb2.trans ((hb3.trans (hb4.mono hb3.size)).mono hb2.size)).mono hb1.size)).mono (by simp))⟩

set_option maxHeartbeats 1000000 in
set_option maxRecDepth 20000 in
theorem walk4n (a0 : Int) (k : Nat) (w : World) (hand : bits BinOp.and IntKind.i64 a0 2097151 = (k : Int)) (h1 : 65536 ≤ k) (h2 : k < 2097152) (hg : 1114111 < k) :
    Calls Try.prog 8 #[.int .i64 a0] w fun e w' => e = .returned (.bool true) ∧ Below w.heap.size w w' := by
  have q0 : bits BinOp.and IntKind.i64 (k : Int) 63 = (k : Int) % 64 := and63 _
  have q1 : bits BinOp.and IntKind.i64 ((k : Int) / 64) 63 = (k : Int) / 64 % 64 := and63 _
  have q2 : bits BinOp.and IntKind.i64 ((k : Int) / 4096) 63 = (k : Int) / 4096 % 64 := and63 _
  have c0 : decide ((k : Int) < 128) = false := decide_eq_false (by omega)
  have c1 : decide ((k : Int) < 2048) = false := decide_eq_false (by omega)
  have c2 : decide ((k : Int) < 65536) = false := decide_eq_false (by omega)
  have c3 : decide ((k : Int) ≤ 1114111) = false := decide_eq_false (by omega)
  have hq : (k : Int) / 262144 ≤ 7 := by omega
  have hgood : M.good k = false := by unfold M.good; exact decide_eq_false (by omega)
  have V1 : Hid (valid ⟨(M.enc4 k).toArray⟩ = false) := valid_of (M.enc4_valid h1 h2 []) hgood
  have V3 : Hid (valid (⟨#[97]⟩ ++ ⟨(M.enc4 k).toArray⟩ ++ ⟨#[122]⟩) = false) := valid_az (M.enc4_valid h1 h2 [122]) hgood
  have V2 : Hid (valid ⟨(M.cutB4 k).toArray⟩ = false) := M.cut4 h1 h2
  have hlen : (M.enc4 k).length ≤ 4 := by show 4 ≤ 4; decide
  have hsz : Hid ((⟨(M.enc4 k).toArray⟩ : ByteArray).size ≤ maxLen) := by unfold Hid; rw [size_of_list]; show 4 ≤ maxLen; decide
  have hsz3 : Hid (((⟨#[97]⟩ ++ ⟨(M.enc4 k).toArray⟩ ++ ⟨#[122]⟩) : ByteArray).size ≤ maxLen) := by unfold Hid; rw [ByteArray.size_append, ByteArray.size_append, size_of_list]; show 1 + 4 + 1 ≤ maxLen; decide
  have hc := cells4 k h2
  have HC : Hid (#[Value.int .u8 (240 + (k : Int) / 262144), Value.int .u8 (128 + (k : Int) / 4096 % 64), Value.int .u8 (128 + (k : Int) / 64 % 64), Value.int .u8 (128 + (k : Int) % 64)].toList = Lib.byteCells (M.enc4 k)) := hc
  clear hgood hg h1 h2 hc
  have hcv0 := conv_cells (W := w.alloc (.cells #[Value.int .u8 (240 + (k : Int) / 262144), Value.int .u8 (128 + (k : Int) / 4096 % 64), Value.int .u8 (128 + (k : Int) / 64 % 64), Value.int .u8 (128 + (k : Int) % 64)] 5)) (cap := 4) (heap_alloc_new w _) (by rw [HC.out]; rfl) (show (M.enc4 k).length = 4 from rfl)
  go_enter Try.func8, Try.ntmps8
  go_wp2_with fail
  refine (bits_Valid _ _ hsz.out).mono ?_
  rw [V1.out]
  rintro e w1 ⟨rfl, hb1⟩
  have hh1 : w1.heap[w.heap.size]? = some (.cells #[Value.int .u8 (240 + (k : Int) / 262144), Value.int .u8 (128 + (k : Int) / 4096 % 64), Value.int .u8 (128 + (k : Int) / 64 % 64), Value.int .u8 (128 + (k : Int) % 64)] 5 (0, 0)) := by rw [hb1.block _ (by simp)]; exact heap_alloc_new w _
  have hcv1 := conv_cells (cap := 4) hh1 (by rw [HC.out]; rfl) (show (M.enc4 k).length = 4 from rfl)
  have hct1 := conv_cells (cap := 4) (l := M.cutB4 k) hh1 (by rw [HC.out]; rfl) (show (M.cutB4 k).length = 3 from rfl)
  have HH : Hid (w1.heap[w.heap.size]? = some (.cells #[Value.int .u8 (240 + (k : Int) / 262144), Value.int .u8 (128 + (k : Int) / 4096 % 64), Value.int .u8 (128 + (k : Int) / 64 % 64), Value.int .u8 (128 + (k : Int) % 64)] 5 (0, 0))) := hh1
  have hlt1 : w.heap.size < w1.heap.size := by have := hb1.size; simp at this; omega
  clear hh1 hcv0
  go_wp2_with fail
  refine (bits_Valid _ _ (by rw [size_of_list]; show 3 ≤ maxLen; decide)).mono ?_
  rw [V2.out]
  rintro e w2 ⟨rfl, hb2⟩
  have hh2 : w2.heap[w.heap.size]? = some (.cells #[Value.int .u8 (240 + (k : Int) / 262144), Value.int .u8 (128 + (k : Int) / 4096 % 64), Value.int .u8 (128 + (k : Int) / 64 % 64), Value.int .u8 (128 + (k : Int) % 64)] 5 (0, 0)) := by rw [hb2.block _ hlt1]; exact HH.out
  have hcv2 := conv_cells (cap := 4) hh2 (by rw [HC.out]; rfl) (show (M.enc4 k).length = 4 from rfl)
  clear hh2 hcv1 hct1
  go_wp2_with fail
  refine (bits_Valid _ _ hsz3.out).mono ?_
  rw [V3.out]
  rintro e w3 ⟨rfl, hb3⟩
  go_wp2_with fail
  refine (awake _).mono ?_
  rintro e w4 ⟨rfl, hb4⟩
  go_wp2
  go_ret
  exact ⟨rfl, ((Below.refl _ w).alloc (Nat.le_refl _) _).trans ((hb1.trans ((hb2.trans ((hb3.trans (hb4.mono hb3.size)).mono hb2.size)).mono hb1.size)).mono (by simp))⟩

theorem walk (a0 : Int) (w : World) (_b0 : -9223372036854775808 ≤ a0 ∧ a0 ≤ 9223372036854775807) :
    Calls Try.prog 8 #[.int .i64 a0] w fun e w' => e = .returned (.bool true) ∧ Below w.heap.size w w' := by
  obtain ⟨k, hk⟩ := Int.eq_ofNat_of_zero_le (show 0 ≤ a0 % 2097152 by omega)
  have hand := and21 a0
  rw [hk] at hand
  by_cases h1 : k < 128
  · exact walk1 a0 k w hand h1
  · by_cases h2 : k < 2048
    · exact walk2 a0 k w hand (by omega) h2
    · by_cases h3 : k < 65536
      · by_cases hg : k < 55296
        · exact walk3a a0 k w hand (by omega) h3 hg
        · by_cases hg2 : 57343 < k
          · exact walk3b a0 k w hand (by omega) h3 hg2
          · exact walk3n a0 k w hand (by omega) h3 (by omega)
      · by_cases hg : k ≤ 1114111
        · exact walk4 a0 k w hand (by omega) (by omega) hg
        · exact walk4n a0 k w hand (by omega) (by omega) (by omega)

theorem own : ownKnob Try.prog.godebug = none := by kernel_rfl

set_option maxRecDepth 100000 in
theorem lifted (os : Os) (started : os.Started) (H : Type) (enc : TypeId × Value → H) :
    ReturnsInHanded {} Try.checked os 8 .any (Rows.bitsRunesSpec.pre6 enc Try.prog Try.f8 Rows.bitsRunesRow.domain false) (Rows.bitsRunesSpec.post enc Try.prog Try.f8 false true false false) := by
  refine returnsInHanded_of_change_sized (C := Try.checked) own started (by kernel_rfl) Try.func8
    (ChangeSpec.witness6 (enc := enc) (C := Try.checked) false ⟨#[], #[.int .i64 0], []⟩ 8 (by kernel_rfl) (by kernel_rfl) (by kernel_rfl) (by kernel_rfl)) ?_
  intro W base args ds gs before hval0 hW _ hsz0 _
  have hsz : (DataW.weightsEach Try.prog (Try.f8.params.toList ++ Rows.bitsRunesSpec.plain.varTypes Try.prog) (ds ++ gs)).all (· ≤ reachBytes) = true := hsz0
  have hval : ∀ (j : Nat) t v, Try.f8.params[j]? = some t → args[j]? = some v → Value.okWide Try.prog W .any base t v := hval0
  have hW' := hW
  obtain ⟨p, q, hA0, hV, rfl, hfz, hnd⟩ := hW
  have hA : DataW.TrodAll enc Try.prog W 0 (fun _ => true) true Try.f8.params.toList args.toList ds p := hA0
  rw [Try.params8] at hA hval hsz
  obtain ⟨v0, vs0, d0, ds0, p0, q0, hargs, rfl, rfl, h0, r0⟩ := trodAll_cons hA
  obtain ⟨rfl, rfl, rfl⟩ := trodAll_nil r0
  obtain rfl : args = #[v0] := by cases args; simp_all
  obtain ⟨rfl, rfl⟩ := trodVars_none hV
  obtain ⟨a0, rfl, rfl, rfl, w0⟩ := open_int Try.underlying3 (hval 0 3 v0 rfl rfl) h0
  have b0 : -9223372036854775808 ≤ a0 ∧ a0 ≤ 9223372036854775807 := by simpa [Lit.wf, IntKind.min, IntKind.max, IntKind.signed, IntKind.bits] using w0
  clear hA0 hval0 hsz0
  refine (walk a0 W b0).mono fun e W' ⟨he, bel⟩ => ?_
  subst he
  exact ⟨_, rfl, _, _, _, [], _, [], hW', trodAll_mk1 (shut_bool Try.underlying4 _), (trodAll_cons_mk (shut_int Try.underlying3 w0) trodAll_mk0), rfl, bel.frame _, fun h => by cases h⟩

theorem over : Rows.bitsRunesRow.holds Try.pinned (OpenSpec.ofChange Rows.bitsRunesSpec) :=
  OpenClaim.holds_of_wide 8 Try.f8 rfl rfl rfl rfl rfl rfl rfl ⟨rfl, rfl, rfl, rfl, rfl⟩ rfl rfl rfl rfl rfl (by kernel_rfl) Try.func8 (by kernel_rfl)
    (of_decide_eq_true (by kernel_rfl)) (by unfold Func.isWrapper; first | (rw [if_pos (by decide +kernel)]; kernel_rfl) | (rw [if_neg (by decide +kernel)]; exact ⟨rfl, rfl⟩))
    (fun os started H enc _ => lifted os started H enc)


end Go.Proofs.Ytncnfhpjdpkciaa.bitsRunes
namespace Go.Proofs.Ytncnfhpjdpkciaa
/-- The statement. -/
theorem bitsRunes_holds : Rows.BitsRunesSaid := bitsRunes.over
end Go.Proofs.Ytncnfhpjdpkciaa
