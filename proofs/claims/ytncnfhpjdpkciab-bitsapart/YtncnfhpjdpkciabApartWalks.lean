/-
  The ways through BitsApart.
-/
import Derived.Test.YtncnfhpjdpkciabText
import Derived.Test.YtncnfhpjdpkciabArr
import Derived.ShutString
import Derived.SizedLaws
import Derived.Deep.QuietTactic
import Derived.BigQuiet
namespace Go.Proofs.Ytncnfhpjdpkciab.bitsApart
open Go.ChangeShapes Go.WideShapes Go.ChangeAt Go.RowKit
open Go.ChangeMaps (open_string shut_string)

def pvS (n : Int) : ByteArray := if n < 0 then ⟨#[]⟩ else ⟨(M.putVar n.toNat).toArray⟩
def pvE (n : Int) : Int := if n < 0 then 1 else 0

theorem putVar_all (n : Int) (w : World) (hn : n ≤ 9223372036854775807) :
    Calls Try.prog 5 #[.int .i64 n] w fun e w' => e = .returned (.tuple #[.string (pvS n), .int .i64 (pvE n)]) ∧ Below w.heap.size w w' := by
  unfold pvS pvE
  by_cases h : n < 0
  · rw [if_pos h, if_pos h]
    refine (bits_PutVar_no n w h).mono ?_
    rintro e w' ⟨rfl, rfl⟩
    exact ⟨rfl, Below.refl _ _⟩
  · rw [if_neg h, if_neg h]
    obtain ⟨k, rfl⟩ := Int.eq_ofNat_of_zero_le (show 0 ≤ n by omega)
    exact bits_PutVar_yes k w (by omega)

def ptS (s : ByteArray) : ByteArray := if valid s = true then ⟨(M.putVar s.size).toArray⟩ ++ s else ⟨#[]⟩
def ptE (s : ByteArray) : Int := if valid s = true then 0 else 11

theorem putText_all (s : ByteArray) (w : World) (hs : s.size ≤ 140737488351232) :
    Calls Try.prog 6 #[.string s] w fun e w' => e = .returned (.tuple #[.string (ptS s), .int .i64 (ptE s)]) ∧ Below w.heap.size w w' := by
  unfold ptS ptE
  by_cases h : valid s = true
  · rw [if_pos h, if_pos h]
    exact bits_PutText_yes s w hs h
  · rw [if_neg h, if_neg h]
    exact bits_PutText_no s w hs (by simpa using h)

theorem putVar_inj {m n : Nat} (hm : m < 9223372036854775808) (hn : n < 9223372036854775808) (h : M.putVar m = M.putVar n) : m = n := by
  have h1 := M.rdVar_put m [] hm
  have h2 := M.rdVar_put n [] hn
  rw [h, h2] at h1
  exact (Prod.mk.inj h1).1.symm

theorem pvS_inj {m n : Int} (hm : 0 ≤ m) (hn : 0 ≤ n) (bm : m ≤ 9223372036854775807) (bn : n ≤ 9223372036854775807) : pvS m = pvS n ↔ m = n := by
  constructor
  · intro h
    unfold pvS at h
    rw [if_neg (by omega), if_neg (by omega)] at h
    have h2 : M.putVar m.toNat = M.putVar n.toNat := by
      have := congrArg (fun b : ByteArray => b.data.toList) h
      simpa using this
    have := putVar_inj (by omega) (by omega) h2
    omega
  · intro h; rw [h]

/-- What was put is read back, whatever stands behind. -/
theorem rd (t u : ByteArray) (most : Int) (hm : (t.size : Int) ≤ most) (hb : most ≤ 4096) (hv : valid t = true) :
    rdText ((⟨(M.putVar t.size).toArray⟩ ++ t) ++ u) most = (t, (((M.putVar t.size).length + t.size : Nat) : Int), 0) := by
  have e : ((((⟨(M.putVar t.size).toArray⟩ : ByteArray) ++ t) ++ u) : ByteArray).data.toList = M.putVar t.size ++ (t.data.toList ++ u.data.toList) := by simp
  have hr := M.rdVar_put t.size (t.data.toList ++ u.data.toList) (by omega)
  rw [← e] at hr
  have hsz : ((((⟨(M.putVar t.size).toArray⟩ : ByteArray) ++ t) ++ u) : ByteArray).size = (M.putVar t.size).length + t.size + u.size := by
    rw [ByteArray.size_append, ByteArray.size_append, size_of_list]
  have hx : ((((⟨(M.putVar t.size).toArray⟩ : ByteArray) ++ t) ++ u) : ByteArray).extract (M.putVar t.size).length ((M.putVar t.size).length + t.size) = t := by
    apply ByteArray.ext
    apply Array.toList_inj.1
    rw [ByteArray.data_extract, Array.toList_extract, List.extract_eq_take_drop, e, Nat.add_sub_cancel_left, List.drop_append_of_le_length (Nat.le_refl _), List.drop_length, List.nil_append]
    rw [List.take_append_of_le_length (by simp), List.take_of_length_le (by simp)]
  unfold rdText
  rw [hr]
  simp only
  rw [if_neg (by omega), if_neg (by simp), if_neg (by omega), if_neg (by rw [hsz]; omega), hx, if_neg (by rw [hv]; simp)]

theorem tail_eq (c d : ByteArray) : (c ++ d).extract c.size (c ++ d).size = d := by
  apply ByteArray.ext
  apply Array.toList_inj.1
  rw [ByteArray.data_extract, Array.toList_extract, List.extract_eq_take_drop]
  have e : (c ++ d).data.toList = c.data.toList ++ d.data.toList := by simp
  rw [e, ByteArray.size_append, Nat.add_sub_cancel_left, List.drop_append_of_le_length (by simp), List.drop_of_length_le (by simp), List.nil_append, List.take_of_length_le (by simp)]

set_option maxHeartbeats 1000000 in
set_option maxRecDepth 20000 in
theorem walk_a1 (m n : Int) (t u : ByteArray) (w : World) (sa sb sc sd : ByteArray) (ea eb ec ed : Int)
    (HA : Hid (∀ W, Calls Try.prog 5 #[.int .i64 m] W fun e w' => e = .returned (.tuple #[.string sa, .int .i64 ea]) ∧ Below W.heap.size W w'))
    (HB : Hid (∀ W, Calls Try.prog 5 #[.int .i64 n] W fun e w' => e = .returned (.tuple #[.string sb, .int .i64 eb]) ∧ Below W.heap.size W w'))
    (HC : Hid (∀ W, Calls Try.prog 6 #[.string t] W fun e w' => e = .returned (.tuple #[.string sc, .int .i64 ec]) ∧ Below W.heap.size W w'))
    (HD : Hid (∀ W, Calls Try.prog 6 #[.string u] W fun e w' => e = .returned (.tuple #[.string sd, .int .i64 ed]) ∧ Below W.heap.size W w'))
    (f1 : (ea == 0) = false)
    (g1 : (ec != 0) = true) :
    Calls Try.prog 3 #[.agg #[.int .i64 m, .int .i64 n], .string t, .string u] w fun e w' => e = .returned (.bool true) ∧ Below w.heap.size w w' := by
  go_enter Try.func3, Try.ntmps3
  go_wp2_with fail
  go_quiet (fail)
  go_wp2_with fail
  refine (HA.out _).mono ?_
  rintro e w1 ⟨rfl, hb1⟩
  go_wp2_with fail
  refine (HB.out _).mono ?_
  rintro e w2 ⟨rfl, hb2⟩
  go_wp2_with fail
  refine (HC.out _).mono ?_
  rintro e w3 ⟨rfl, hb3⟩
  go_wp2_with fail
  refine (HD.out _).mono ?_
  rintro e w4 ⟨rfl, hb4⟩
  go_wp2_with fail
  refine (awake _).mono ?_
  rintro e w7 ⟨rfl, hb7⟩
  go_wp2
  go_ret
  exact ⟨rfl, ((below_drewN ((Below.refl _ w).alloc (Nat.le_refl _) _) _).trans ((hb1.trans ((hb2.trans ((hb3.trans ((hb4.trans (hb7.mono hb4.size)).mono hb3.size)).mono hb2.size)).mono hb1.size)).mono (by simp)))⟩

set_option maxHeartbeats 1000000 in
set_option maxRecDepth 20000 in
theorem walk_a2 (m n : Int) (t u : ByteArray) (w : World) (sa sb sc sd : ByteArray) (ea eb ec ed : Int)
    (HA : Hid (∀ W, Calls Try.prog 5 #[.int .i64 m] W fun e w' => e = .returned (.tuple #[.string sa, .int .i64 ea]) ∧ Below W.heap.size W w'))
    (HB : Hid (∀ W, Calls Try.prog 5 #[.int .i64 n] W fun e w' => e = .returned (.tuple #[.string sb, .int .i64 eb]) ∧ Below W.heap.size W w'))
    (HC : Hid (∀ W, Calls Try.prog 6 #[.string t] W fun e w' => e = .returned (.tuple #[.string sc, .int .i64 ec]) ∧ Below W.heap.size W w'))
    (HD : Hid (∀ W, Calls Try.prog 6 #[.string u] W fun e w' => e = .returned (.tuple #[.string sd, .int .i64 ed]) ∧ Below W.heap.size W w'))
    (f1 : (ea == 0) = false)
    (g1 : (ec != 0) = false) (g2 : (ed != 0) = true) :
    Calls Try.prog 3 #[.agg #[.int .i64 m, .int .i64 n], .string t, .string u] w fun e w' => e = .returned (.bool true) ∧ Below w.heap.size w w' := by
  go_enter Try.func3, Try.ntmps3
  go_wp2_with fail
  go_quiet (fail)
  go_wp2_with fail
  refine (HA.out _).mono ?_
  rintro e w1 ⟨rfl, hb1⟩
  go_wp2_with fail
  refine (HB.out _).mono ?_
  rintro e w2 ⟨rfl, hb2⟩
  go_wp2_with fail
  refine (HC.out _).mono ?_
  rintro e w3 ⟨rfl, hb3⟩
  go_wp2_with fail
  refine (HD.out _).mono ?_
  rintro e w4 ⟨rfl, hb4⟩
  go_wp2_with fail
  refine (awake _).mono ?_
  rintro e w7 ⟨rfl, hb7⟩
  go_wp2
  go_ret
  exact ⟨rfl, ((below_drewN ((Below.refl _ w).alloc (Nat.le_refl _) _) _).trans ((hb1.trans ((hb2.trans ((hb3.trans ((hb4.trans (hb7.mono hb4.size)).mono hb3.size)).mono hb2.size)).mono hb1.size)).mono (by simp)))⟩

set_option maxHeartbeats 1000000 in
set_option maxRecDepth 20000 in
theorem walk_a3 (m n : Int) (t u : ByteArray) (w : World) (sa sb sc sd : ByteArray) (ea eb ec ed : Int)
    (HA : Hid (∀ W, Calls Try.prog 5 #[.int .i64 m] W fun e w' => e = .returned (.tuple #[.string sa, .int .i64 ea]) ∧ Below W.heap.size W w'))
    (HB : Hid (∀ W, Calls Try.prog 5 #[.int .i64 n] W fun e w' => e = .returned (.tuple #[.string sb, .int .i64 eb]) ∧ Below W.heap.size W w'))
    (HC : Hid (∀ W, Calls Try.prog 6 #[.string t] W fun e w' => e = .returned (.tuple #[.string sc, .int .i64 ec]) ∧ Below W.heap.size W w'))
    (HD : Hid (∀ W, Calls Try.prog 6 #[.string u] W fun e w' => e = .returned (.tuple #[.string sd, .int .i64 ed]) ∧ Below W.heap.size W w'))
    (f1 : (ea == 0) = false)
    (g1 : (ec != 0) = false) (g2 : (ed != 0) = false) (g3 : (4096 : Int) < (t.size : Int)) :
    Calls Try.prog 3 #[.agg #[.int .i64 m, .int .i64 n], .string t, .string u] w fun e w' => e = .returned (.bool true) ∧ Below w.heap.size w w' := by
  go_enter Try.func3, Try.ntmps3
  go_wp2_with fail
  go_quiet (fail)
  go_wp2_with fail
  refine (HA.out _).mono ?_
  rintro e w1 ⟨rfl, hb1⟩
  go_wp2_with fail
  refine (HB.out _).mono ?_
  rintro e w2 ⟨rfl, hb2⟩
  go_wp2_with fail
  refine (HC.out _).mono ?_
  rintro e w3 ⟨rfl, hb3⟩
  go_wp2_with fail
  refine (HD.out _).mono ?_
  rintro e w4 ⟨rfl, hb4⟩
  go_wp2_with fail
  refine (awake _).mono ?_
  rintro e w7 ⟨rfl, hb7⟩
  go_wp2
  go_ret
  exact ⟨rfl, ((below_drewN ((Below.refl _ w).alloc (Nat.le_refl _) _) _).trans ((hb1.trans ((hb2.trans ((hb3.trans ((hb4.trans (hb7.mono hb4.size)).mono hb3.size)).mono hb2.size)).mono hb1.size)).mono (by simp)))⟩

set_option maxHeartbeats 1000000 in
set_option maxRecDepth 20000 in
theorem walk_a4 (m n : Int) (t u : ByteArray) (w : World) (sa sb sc sd : ByteArray) (ea eb ec ed : Int)
    (HA : Hid (∀ W, Calls Try.prog 5 #[.int .i64 m] W fun e w' => e = .returned (.tuple #[.string sa, .int .i64 ea]) ∧ Below W.heap.size W w'))
    (HB : Hid (∀ W, Calls Try.prog 5 #[.int .i64 n] W fun e w' => e = .returned (.tuple #[.string sb, .int .i64 eb]) ∧ Below W.heap.size W w'))
    (HC : Hid (∀ W, Calls Try.prog 6 #[.string t] W fun e w' => e = .returned (.tuple #[.string sc, .int .i64 ec]) ∧ Below W.heap.size W w'))
    (HD : Hid (∀ W, Calls Try.prog 6 #[.string u] W fun e w' => e = .returned (.tuple #[.string sd, .int .i64 ed]) ∧ Below W.heap.size W w'))
    (f1 : (ea == 0) = false)
    (g1 : (ec != 0) = false) (g2 : (ed != 0) = false) (g3 : ¬ (4096 : Int) < (t.size : Int)) (g4 : (4096 : Int) < (u.size : Int)) :
    Calls Try.prog 3 #[.agg #[.int .i64 m, .int .i64 n], .string t, .string u] w fun e w' => e = .returned (.bool true) ∧ Below w.heap.size w w' := by
  go_enter Try.func3, Try.ntmps3
  go_wp2_with fail
  go_quiet (fail)
  go_wp2_with fail
  refine (HA.out _).mono ?_
  rintro e w1 ⟨rfl, hb1⟩
  go_wp2_with fail
  refine (HB.out _).mono ?_
  rintro e w2 ⟨rfl, hb2⟩
  go_wp2_with fail
  refine (HC.out _).mono ?_
  rintro e w3 ⟨rfl, hb3⟩
  go_wp2_with fail
  refine (HD.out _).mono ?_
  rintro e w4 ⟨rfl, hb4⟩
  go_wp2_with fail
  refine (awake _).mono ?_
  rintro e w7 ⟨rfl, hb7⟩
  go_wp2
  go_ret
  exact ⟨rfl, ((below_drewN ((Below.refl _ w).alloc (Nat.le_refl _) _) _).trans ((hb1.trans ((hb2.trans ((hb3.trans ((hb4.trans (hb7.mono hb4.size)).mono hb3.size)).mono hb2.size)).mono hb1.size)).mono (by simp)))⟩

set_option maxHeartbeats 1000000 in
set_option maxRecDepth 20000 in
theorem walk_a5 (m n : Int) (t u : ByteArray) (w : World) (sa sb sc sd : ByteArray) (ea eb ec ed : Int)
    (HA : Hid (∀ W, Calls Try.prog 5 #[.int .i64 m] W fun e w' => e = .returned (.tuple #[.string sa, .int .i64 ea]) ∧ Below W.heap.size W w'))
    (HB : Hid (∀ W, Calls Try.prog 5 #[.int .i64 n] W fun e w' => e = .returned (.tuple #[.string sb, .int .i64 eb]) ∧ Below W.heap.size W w'))
    (HC : Hid (∀ W, Calls Try.prog 6 #[.string t] W fun e w' => e = .returned (.tuple #[.string sc, .int .i64 ec]) ∧ Below W.heap.size W w'))
    (HD : Hid (∀ W, Calls Try.prog 6 #[.string u] W fun e w' => e = .returned (.tuple #[.string sd, .int .i64 ed]) ∧ Below W.heap.size W w'))
    (f1 : (ea == 0) = false)
    (g1 : (ec != 0) = false) (g2 : (ed != 0) = false) (g3 : ¬ (4096 : Int) < (t.size : Int)) (g4 : ¬ (4096 : Int) < (u.size : Int)) (y : Bool) (g5 : (sc.toList == sd.toList) = y) (g6 : (t.toList == u.toList) = y)
    (s1 : sc.size ≤ 5000) (s2 : sd.size ≤ 5000) (R1 : Hid (rdText (sc ++ sd) 4096 = (t, (sc.size : Int), 0))) (k5 : Int) (R2 : Hid (rdText sd 4096 = (u, k5, 0))) :
    Calls Try.prog 3 #[.agg #[.int .i64 m, .int .i64 n], .string t, .string u] w fun e w' => e = .returned (.bool true) ∧ Below w.heap.size w w' := by
  have hbig : (sc ++ sd).size ≤ 562949953421312 := by rw [ByteArray.size_append]; omega
  have HT : Hid ((sc ++ sd).extract sc.size (sc.size + sd.size) = sd) := by unfold Hid; rw [← ByteArray.size_append]; exact tail_eq sc sd
  go_enter Try.func3, Try.ntmps3
  go_wp2_with fail
  go_quiet (fail)
  go_wp2_with fail
  refine (HA.out _).mono ?_
  rintro e w1 ⟨rfl, hb1⟩
  go_wp2_with fail
  refine (HB.out _).mono ?_
  rintro e w2 ⟨rfl, hb2⟩
  go_wp2_with fail
  refine (HC.out _).mono ?_
  rintro e w3 ⟨rfl, hb3⟩
  go_wp2_with fail
  refine (HD.out _).mono ?_
  rintro e w4 ⟨rfl, hb4⟩
  go_wp2_with fail
  refine (bits_Text (sc ++ sd) 4096 _ hbig (Or.inl (by omega))).mono ?_
  rw [R1.out]
  rintro e w5 ⟨rfl, hb5⟩
  go_wp2_with fail
  rw [HT.out]
  refine (bits_Text sd 4096 _ (by omega) (Or.inl (by omega))).mono ?_
  rw [R2.out]
  rintro e w6 ⟨rfl, hb6⟩
  go_wp2_with fail
  refine (awake _).mono ?_
  rintro e w7 ⟨rfl, hb7⟩
  go_wp2
  go_ret
  exact ⟨rfl, ((below_drewN ((Below.refl _ w).alloc (Nat.le_refl _) _) _).trans ((hb1.trans ((hb2.trans ((hb3.trans ((hb4.trans ((hb5.trans ((hb6.trans (hb7.mono hb6.size)).mono hb5.size)).mono hb4.size)).mono hb3.size)).mono hb2.size)).mono hb1.size)).mono (by simp)))⟩

set_option maxHeartbeats 1000000 in
set_option maxRecDepth 20000 in
theorem walk_b1 (m n : Int) (t u : ByteArray) (w : World) (sa sb sc sd : ByteArray) (ea eb ec ed : Int)
    (HA : Hid (∀ W, Calls Try.prog 5 #[.int .i64 m] W fun e w' => e = .returned (.tuple #[.string sa, .int .i64 ea]) ∧ Below W.heap.size W w'))
    (HB : Hid (∀ W, Calls Try.prog 5 #[.int .i64 n] W fun e w' => e = .returned (.tuple #[.string sb, .int .i64 eb]) ∧ Below W.heap.size W w'))
    (HC : Hid (∀ W, Calls Try.prog 6 #[.string t] W fun e w' => e = .returned (.tuple #[.string sc, .int .i64 ec]) ∧ Below W.heap.size W w'))
    (HD : Hid (∀ W, Calls Try.prog 6 #[.string u] W fun e w' => e = .returned (.tuple #[.string sd, .int .i64 ed]) ∧ Below W.heap.size W w'))
    (f1 : (ea == 0) = true) (f2 : (eb == 0) = false)
    (g1 : (ec != 0) = true) :
    Calls Try.prog 3 #[.agg #[.int .i64 m, .int .i64 n], .string t, .string u] w fun e w' => e = .returned (.bool true) ∧ Below w.heap.size w w' := by
  go_enter Try.func3, Try.ntmps3
  go_wp2_with fail
  go_quiet (fail)
  go_wp2_with fail
  refine (HA.out _).mono ?_
  rintro e w1 ⟨rfl, hb1⟩
  go_wp2_with fail
  refine (HB.out _).mono ?_
  rintro e w2 ⟨rfl, hb2⟩
  go_wp2_with fail
  refine (HC.out _).mono ?_
  rintro e w3 ⟨rfl, hb3⟩
  go_wp2_with fail
  refine (HD.out _).mono ?_
  rintro e w4 ⟨rfl, hb4⟩
  go_wp2_with fail
  refine (awake _).mono ?_
  rintro e w7 ⟨rfl, hb7⟩
  go_wp2
  go_ret
  exact ⟨rfl, ((below_drewN ((Below.refl _ w).alloc (Nat.le_refl _) _) _).trans ((hb1.trans ((hb2.trans ((hb3.trans ((hb4.trans (hb7.mono hb4.size)).mono hb3.size)).mono hb2.size)).mono hb1.size)).mono (by simp)))⟩

set_option maxHeartbeats 1000000 in
set_option maxRecDepth 20000 in
theorem walk_b2 (m n : Int) (t u : ByteArray) (w : World) (sa sb sc sd : ByteArray) (ea eb ec ed : Int)
    (HA : Hid (∀ W, Calls Try.prog 5 #[.int .i64 m] W fun e w' => e = .returned (.tuple #[.string sa, .int .i64 ea]) ∧ Below W.heap.size W w'))
    (HB : Hid (∀ W, Calls Try.prog 5 #[.int .i64 n] W fun e w' => e = .returned (.tuple #[.string sb, .int .i64 eb]) ∧ Below W.heap.size W w'))
    (HC : Hid (∀ W, Calls Try.prog 6 #[.string t] W fun e w' => e = .returned (.tuple #[.string sc, .int .i64 ec]) ∧ Below W.heap.size W w'))
    (HD : Hid (∀ W, Calls Try.prog 6 #[.string u] W fun e w' => e = .returned (.tuple #[.string sd, .int .i64 ed]) ∧ Below W.heap.size W w'))
    (f1 : (ea == 0) = true) (f2 : (eb == 0) = false)
    (g1 : (ec != 0) = false) (g2 : (ed != 0) = true) :
    Calls Try.prog 3 #[.agg #[.int .i64 m, .int .i64 n], .string t, .string u] w fun e w' => e = .returned (.bool true) ∧ Below w.heap.size w w' := by
  go_enter Try.func3, Try.ntmps3
  go_wp2_with fail
  go_quiet (fail)
  go_wp2_with fail
  refine (HA.out _).mono ?_
  rintro e w1 ⟨rfl, hb1⟩
  go_wp2_with fail
  refine (HB.out _).mono ?_
  rintro e w2 ⟨rfl, hb2⟩
  go_wp2_with fail
  refine (HC.out _).mono ?_
  rintro e w3 ⟨rfl, hb3⟩
  go_wp2_with fail
  refine (HD.out _).mono ?_
  rintro e w4 ⟨rfl, hb4⟩
  go_wp2_with fail
  refine (awake _).mono ?_
  rintro e w7 ⟨rfl, hb7⟩
  go_wp2
  go_ret
  exact ⟨rfl, ((below_drewN ((Below.refl _ w).alloc (Nat.le_refl _) _) _).trans ((hb1.trans ((hb2.trans ((hb3.trans ((hb4.trans (hb7.mono hb4.size)).mono hb3.size)).mono hb2.size)).mono hb1.size)).mono (by simp)))⟩

set_option maxHeartbeats 1000000 in
set_option maxRecDepth 20000 in
theorem walk_b3 (m n : Int) (t u : ByteArray) (w : World) (sa sb sc sd : ByteArray) (ea eb ec ed : Int)
    (HA : Hid (∀ W, Calls Try.prog 5 #[.int .i64 m] W fun e w' => e = .returned (.tuple #[.string sa, .int .i64 ea]) ∧ Below W.heap.size W w'))
    (HB : Hid (∀ W, Calls Try.prog 5 #[.int .i64 n] W fun e w' => e = .returned (.tuple #[.string sb, .int .i64 eb]) ∧ Below W.heap.size W w'))
    (HC : Hid (∀ W, Calls Try.prog 6 #[.string t] W fun e w' => e = .returned (.tuple #[.string sc, .int .i64 ec]) ∧ Below W.heap.size W w'))
    (HD : Hid (∀ W, Calls Try.prog 6 #[.string u] W fun e w' => e = .returned (.tuple #[.string sd, .int .i64 ed]) ∧ Below W.heap.size W w'))
    (f1 : (ea == 0) = true) (f2 : (eb == 0) = false)
    (g1 : (ec != 0) = false) (g2 : (ed != 0) = false) (g3 : (4096 : Int) < (t.size : Int)) :
    Calls Try.prog 3 #[.agg #[.int .i64 m, .int .i64 n], .string t, .string u] w fun e w' => e = .returned (.bool true) ∧ Below w.heap.size w w' := by
  go_enter Try.func3, Try.ntmps3
  go_wp2_with fail
  go_quiet (fail)
  go_wp2_with fail
  refine (HA.out _).mono ?_
  rintro e w1 ⟨rfl, hb1⟩
  go_wp2_with fail
  refine (HB.out _).mono ?_
  rintro e w2 ⟨rfl, hb2⟩
  go_wp2_with fail
  refine (HC.out _).mono ?_
  rintro e w3 ⟨rfl, hb3⟩
  go_wp2_with fail
  refine (HD.out _).mono ?_
  rintro e w4 ⟨rfl, hb4⟩
  go_wp2_with fail
  refine (awake _).mono ?_
  rintro e w7 ⟨rfl, hb7⟩
  go_wp2
  go_ret
  exact ⟨rfl, ((below_drewN ((Below.refl _ w).alloc (Nat.le_refl _) _) _).trans ((hb1.trans ((hb2.trans ((hb3.trans ((hb4.trans (hb7.mono hb4.size)).mono hb3.size)).mono hb2.size)).mono hb1.size)).mono (by simp)))⟩

set_option maxHeartbeats 1000000 in
set_option maxRecDepth 20000 in
theorem walk_b4 (m n : Int) (t u : ByteArray) (w : World) (sa sb sc sd : ByteArray) (ea eb ec ed : Int)
    (HA : Hid (∀ W, Calls Try.prog 5 #[.int .i64 m] W fun e w' => e = .returned (.tuple #[.string sa, .int .i64 ea]) ∧ Below W.heap.size W w'))
    (HB : Hid (∀ W, Calls Try.prog 5 #[.int .i64 n] W fun e w' => e = .returned (.tuple #[.string sb, .int .i64 eb]) ∧ Below W.heap.size W w'))
    (HC : Hid (∀ W, Calls Try.prog 6 #[.string t] W fun e w' => e = .returned (.tuple #[.string sc, .int .i64 ec]) ∧ Below W.heap.size W w'))
    (HD : Hid (∀ W, Calls Try.prog 6 #[.string u] W fun e w' => e = .returned (.tuple #[.string sd, .int .i64 ed]) ∧ Below W.heap.size W w'))
    (f1 : (ea == 0) = true) (f2 : (eb == 0) = false)
    (g1 : (ec != 0) = false) (g2 : (ed != 0) = false) (g3 : ¬ (4096 : Int) < (t.size : Int)) (g4 : (4096 : Int) < (u.size : Int)) :
    Calls Try.prog 3 #[.agg #[.int .i64 m, .int .i64 n], .string t, .string u] w fun e w' => e = .returned (.bool true) ∧ Below w.heap.size w w' := by
  go_enter Try.func3, Try.ntmps3
  go_wp2_with fail
  go_quiet (fail)
  go_wp2_with fail
  refine (HA.out _).mono ?_
  rintro e w1 ⟨rfl, hb1⟩
  go_wp2_with fail
  refine (HB.out _).mono ?_
  rintro e w2 ⟨rfl, hb2⟩
  go_wp2_with fail
  refine (HC.out _).mono ?_
  rintro e w3 ⟨rfl, hb3⟩
  go_wp2_with fail
  refine (HD.out _).mono ?_
  rintro e w4 ⟨rfl, hb4⟩
  go_wp2_with fail
  refine (awake _).mono ?_
  rintro e w7 ⟨rfl, hb7⟩
  go_wp2
  go_ret
  exact ⟨rfl, ((below_drewN ((Below.refl _ w).alloc (Nat.le_refl _) _) _).trans ((hb1.trans ((hb2.trans ((hb3.trans ((hb4.trans (hb7.mono hb4.size)).mono hb3.size)).mono hb2.size)).mono hb1.size)).mono (by simp)))⟩

set_option maxHeartbeats 1000000 in
set_option maxRecDepth 20000 in
theorem walk_b5 (m n : Int) (t u : ByteArray) (w : World) (sa sb sc sd : ByteArray) (ea eb ec ed : Int)
    (HA : Hid (∀ W, Calls Try.prog 5 #[.int .i64 m] W fun e w' => e = .returned (.tuple #[.string sa, .int .i64 ea]) ∧ Below W.heap.size W w'))
    (HB : Hid (∀ W, Calls Try.prog 5 #[.int .i64 n] W fun e w' => e = .returned (.tuple #[.string sb, .int .i64 eb]) ∧ Below W.heap.size W w'))
    (HC : Hid (∀ W, Calls Try.prog 6 #[.string t] W fun e w' => e = .returned (.tuple #[.string sc, .int .i64 ec]) ∧ Below W.heap.size W w'))
    (HD : Hid (∀ W, Calls Try.prog 6 #[.string u] W fun e w' => e = .returned (.tuple #[.string sd, .int .i64 ed]) ∧ Below W.heap.size W w'))
    (f1 : (ea == 0) = true) (f2 : (eb == 0) = false)
    (g1 : (ec != 0) = false) (g2 : (ed != 0) = false) (g3 : ¬ (4096 : Int) < (t.size : Int)) (g4 : ¬ (4096 : Int) < (u.size : Int)) (y : Bool) (g5 : (sc.toList == sd.toList) = y) (g6 : (t.toList == u.toList) = y)
    (s1 : sc.size ≤ 5000) (s2 : sd.size ≤ 5000) (R1 : Hid (rdText (sc ++ sd) 4096 = (t, (sc.size : Int), 0))) (k5 : Int) (R2 : Hid (rdText sd 4096 = (u, k5, 0))) :
    Calls Try.prog 3 #[.agg #[.int .i64 m, .int .i64 n], .string t, .string u] w fun e w' => e = .returned (.bool true) ∧ Below w.heap.size w w' := by
  have hbig : (sc ++ sd).size ≤ 562949953421312 := by rw [ByteArray.size_append]; omega
  have HT : Hid ((sc ++ sd).extract sc.size (sc.size + sd.size) = sd) := by unfold Hid; rw [← ByteArray.size_append]; exact tail_eq sc sd
  go_enter Try.func3, Try.ntmps3
  go_wp2_with fail
  go_quiet (fail)
  go_wp2_with fail
  refine (HA.out _).mono ?_
  rintro e w1 ⟨rfl, hb1⟩
  go_wp2_with fail
  refine (HB.out _).mono ?_
  rintro e w2 ⟨rfl, hb2⟩
  go_wp2_with fail
  refine (HC.out _).mono ?_
  rintro e w3 ⟨rfl, hb3⟩
  go_wp2_with fail
  refine (HD.out _).mono ?_
  rintro e w4 ⟨rfl, hb4⟩
  go_wp2_with fail
  refine (bits_Text (sc ++ sd) 4096 _ hbig (Or.inl (by omega))).mono ?_
  rw [R1.out]
  rintro e w5 ⟨rfl, hb5⟩
  go_wp2_with fail
  rw [HT.out]
  refine (bits_Text sd 4096 _ (by omega) (Or.inl (by omega))).mono ?_
  rw [R2.out]
  rintro e w6 ⟨rfl, hb6⟩
  go_wp2_with fail
  refine (awake _).mono ?_
  rintro e w7 ⟨rfl, hb7⟩
  go_wp2
  go_ret
  exact ⟨rfl, ((below_drewN ((Below.refl _ w).alloc (Nat.le_refl _) _) _).trans ((hb1.trans ((hb2.trans ((hb3.trans ((hb4.trans ((hb5.trans ((hb6.trans (hb7.mono hb6.size)).mono hb5.size)).mono hb4.size)).mono hb3.size)).mono hb2.size)).mono hb1.size)).mono (by simp)))⟩

set_option maxHeartbeats 1000000 in
set_option maxRecDepth 20000 in
theorem walk_c1 (m n : Int) (t u : ByteArray) (w : World) (sa sb sc sd : ByteArray) (ea eb ec ed : Int)
    (HA : Hid (∀ W, Calls Try.prog 5 #[.int .i64 m] W fun e w' => e = .returned (.tuple #[.string sa, .int .i64 ea]) ∧ Below W.heap.size W w'))
    (HB : Hid (∀ W, Calls Try.prog 5 #[.int .i64 n] W fun e w' => e = .returned (.tuple #[.string sb, .int .i64 eb]) ∧ Below W.heap.size W w'))
    (HC : Hid (∀ W, Calls Try.prog 6 #[.string t] W fun e w' => e = .returned (.tuple #[.string sc, .int .i64 ec]) ∧ Below W.heap.size W w'))
    (HD : Hid (∀ W, Calls Try.prog 6 #[.string u] W fun e w' => e = .returned (.tuple #[.string sd, .int .i64 ed]) ∧ Below W.heap.size W w'))
    (f1 : (ea == 0) = true) (f2 : (eb == 0) = true) (x : Bool) (f3 : (sa.toList == sb.toList) = x) (f4 : (m == n) = x)
    (g1 : (ec != 0) = true) :
    Calls Try.prog 3 #[.agg #[.int .i64 m, .int .i64 n], .string t, .string u] w fun e w' => e = .returned (.bool true) ∧ Below w.heap.size w w' := by
  go_enter Try.func3, Try.ntmps3
  go_wp2_with fail
  go_quiet (fail)
  go_wp2_with fail
  refine (HA.out _).mono ?_
  rintro e w1 ⟨rfl, hb1⟩
  go_wp2_with fail
  refine (HB.out _).mono ?_
  rintro e w2 ⟨rfl, hb2⟩
  go_wp2_with fail
  refine (HC.out _).mono ?_
  rintro e w3 ⟨rfl, hb3⟩
  go_wp2_with fail
  refine (HD.out _).mono ?_
  rintro e w4 ⟨rfl, hb4⟩
  go_wp2_with fail
  refine (awake _).mono ?_
  rintro e w7 ⟨rfl, hb7⟩
  go_wp2
  go_ret
  exact ⟨rfl, ((below_drewN ((Below.refl _ w).alloc (Nat.le_refl _) _) _).trans ((hb1.trans ((hb2.trans ((hb3.trans ((hb4.trans (hb7.mono hb4.size)).mono hb3.size)).mono hb2.size)).mono hb1.size)).mono (by simp)))⟩

set_option maxHeartbeats 1000000 in
set_option maxRecDepth 20000 in
theorem walk_c2 (m n : Int) (t u : ByteArray) (w : World) (sa sb sc sd : ByteArray) (ea eb ec ed : Int)
    (HA : Hid (∀ W, Calls Try.prog 5 #[.int .i64 m] W fun e w' => e = .returned (.tuple #[.string sa, .int .i64 ea]) ∧ Below W.heap.size W w'))
    (HB : Hid (∀ W, Calls Try.prog 5 #[.int .i64 n] W fun e w' => e = .returned (.tuple #[.string sb, .int .i64 eb]) ∧ Below W.heap.size W w'))
    (HC : Hid (∀ W, Calls Try.prog 6 #[.string t] W fun e w' => e = .returned (.tuple #[.string sc, .int .i64 ec]) ∧ Below W.heap.size W w'))
    (HD : Hid (∀ W, Calls Try.prog 6 #[.string u] W fun e w' => e = .returned (.tuple #[.string sd, .int .i64 ed]) ∧ Below W.heap.size W w'))
    (f1 : (ea == 0) = true) (f2 : (eb == 0) = true) (x : Bool) (f3 : (sa.toList == sb.toList) = x) (f4 : (m == n) = x)
    (g1 : (ec != 0) = false) (g2 : (ed != 0) = true) :
    Calls Try.prog 3 #[.agg #[.int .i64 m, .int .i64 n], .string t, .string u] w fun e w' => e = .returned (.bool true) ∧ Below w.heap.size w w' := by
  go_enter Try.func3, Try.ntmps3
  go_wp2_with fail
  go_quiet (fail)
  go_wp2_with fail
  refine (HA.out _).mono ?_
  rintro e w1 ⟨rfl, hb1⟩
  go_wp2_with fail
  refine (HB.out _).mono ?_
  rintro e w2 ⟨rfl, hb2⟩
  go_wp2_with fail
  refine (HC.out _).mono ?_
  rintro e w3 ⟨rfl, hb3⟩
  go_wp2_with fail
  refine (HD.out _).mono ?_
  rintro e w4 ⟨rfl, hb4⟩
  go_wp2_with fail
  refine (awake _).mono ?_
  rintro e w7 ⟨rfl, hb7⟩
  go_wp2
  go_ret
  exact ⟨rfl, ((below_drewN ((Below.refl _ w).alloc (Nat.le_refl _) _) _).trans ((hb1.trans ((hb2.trans ((hb3.trans ((hb4.trans (hb7.mono hb4.size)).mono hb3.size)).mono hb2.size)).mono hb1.size)).mono (by simp)))⟩

set_option maxHeartbeats 1000000 in
set_option maxRecDepth 20000 in
theorem walk_c3 (m n : Int) (t u : ByteArray) (w : World) (sa sb sc sd : ByteArray) (ea eb ec ed : Int)
    (HA : Hid (∀ W, Calls Try.prog 5 #[.int .i64 m] W fun e w' => e = .returned (.tuple #[.string sa, .int .i64 ea]) ∧ Below W.heap.size W w'))
    (HB : Hid (∀ W, Calls Try.prog 5 #[.int .i64 n] W fun e w' => e = .returned (.tuple #[.string sb, .int .i64 eb]) ∧ Below W.heap.size W w'))
    (HC : Hid (∀ W, Calls Try.prog 6 #[.string t] W fun e w' => e = .returned (.tuple #[.string sc, .int .i64 ec]) ∧ Below W.heap.size W w'))
    (HD : Hid (∀ W, Calls Try.prog 6 #[.string u] W fun e w' => e = .returned (.tuple #[.string sd, .int .i64 ed]) ∧ Below W.heap.size W w'))
    (f1 : (ea == 0) = true) (f2 : (eb == 0) = true) (x : Bool) (f3 : (sa.toList == sb.toList) = x) (f4 : (m == n) = x)
    (g1 : (ec != 0) = false) (g2 : (ed != 0) = false) (g3 : (4096 : Int) < (t.size : Int)) :
    Calls Try.prog 3 #[.agg #[.int .i64 m, .int .i64 n], .string t, .string u] w fun e w' => e = .returned (.bool true) ∧ Below w.heap.size w w' := by
  go_enter Try.func3, Try.ntmps3
  go_wp2_with fail
  go_quiet (fail)
  go_wp2_with fail
  refine (HA.out _).mono ?_
  rintro e w1 ⟨rfl, hb1⟩
  go_wp2_with fail
  refine (HB.out _).mono ?_
  rintro e w2 ⟨rfl, hb2⟩
  go_wp2_with fail
  refine (HC.out _).mono ?_
  rintro e w3 ⟨rfl, hb3⟩
  go_wp2_with fail
  refine (HD.out _).mono ?_
  rintro e w4 ⟨rfl, hb4⟩
  go_wp2_with fail
  refine (awake _).mono ?_
  rintro e w7 ⟨rfl, hb7⟩
  go_wp2
  go_ret
  exact ⟨rfl, ((below_drewN ((Below.refl _ w).alloc (Nat.le_refl _) _) _).trans ((hb1.trans ((hb2.trans ((hb3.trans ((hb4.trans (hb7.mono hb4.size)).mono hb3.size)).mono hb2.size)).mono hb1.size)).mono (by simp)))⟩

set_option maxHeartbeats 1000000 in
set_option maxRecDepth 20000 in
theorem walk_c4 (m n : Int) (t u : ByteArray) (w : World) (sa sb sc sd : ByteArray) (ea eb ec ed : Int)
    (HA : Hid (∀ W, Calls Try.prog 5 #[.int .i64 m] W fun e w' => e = .returned (.tuple #[.string sa, .int .i64 ea]) ∧ Below W.heap.size W w'))
    (HB : Hid (∀ W, Calls Try.prog 5 #[.int .i64 n] W fun e w' => e = .returned (.tuple #[.string sb, .int .i64 eb]) ∧ Below W.heap.size W w'))
    (HC : Hid (∀ W, Calls Try.prog 6 #[.string t] W fun e w' => e = .returned (.tuple #[.string sc, .int .i64 ec]) ∧ Below W.heap.size W w'))
    (HD : Hid (∀ W, Calls Try.prog 6 #[.string u] W fun e w' => e = .returned (.tuple #[.string sd, .int .i64 ed]) ∧ Below W.heap.size W w'))
    (f1 : (ea == 0) = true) (f2 : (eb == 0) = true) (x : Bool) (f3 : (sa.toList == sb.toList) = x) (f4 : (m == n) = x)
    (g1 : (ec != 0) = false) (g2 : (ed != 0) = false) (g3 : ¬ (4096 : Int) < (t.size : Int)) (g4 : (4096 : Int) < (u.size : Int)) :
    Calls Try.prog 3 #[.agg #[.int .i64 m, .int .i64 n], .string t, .string u] w fun e w' => e = .returned (.bool true) ∧ Below w.heap.size w w' := by
  go_enter Try.func3, Try.ntmps3
  go_wp2_with fail
  go_quiet (fail)
  go_wp2_with fail
  refine (HA.out _).mono ?_
  rintro e w1 ⟨rfl, hb1⟩
  go_wp2_with fail
  refine (HB.out _).mono ?_
  rintro e w2 ⟨rfl, hb2⟩
  go_wp2_with fail
  refine (HC.out _).mono ?_
  rintro e w3 ⟨rfl, hb3⟩
  go_wp2_with fail
  refine (HD.out _).mono ?_
  rintro e w4 ⟨rfl, hb4⟩
  go_wp2_with fail
  refine (awake _).mono ?_
  rintro e w7 ⟨rfl, hb7⟩
  go_wp2
  go_ret
  exact ⟨rfl, ((below_drewN ((Below.refl _ w).alloc (Nat.le_refl _) _) _).trans ((hb1.trans ((hb2.trans ((hb3.trans ((hb4.trans (hb7.mono hb4.size)).mono hb3.size)).mono hb2.size)).mono hb1.size)).mono (by simp)))⟩

set_option maxHeartbeats 1000000 in
set_option maxRecDepth 20000 in
theorem walk_c5 (m n : Int) (t u : ByteArray) (w : World) (sa sb sc sd : ByteArray) (ea eb ec ed : Int)
    (HA : Hid (∀ W, Calls Try.prog 5 #[.int .i64 m] W fun e w' => e = .returned (.tuple #[.string sa, .int .i64 ea]) ∧ Below W.heap.size W w'))
    (HB : Hid (∀ W, Calls Try.prog 5 #[.int .i64 n] W fun e w' => e = .returned (.tuple #[.string sb, .int .i64 eb]) ∧ Below W.heap.size W w'))
    (HC : Hid (∀ W, Calls Try.prog 6 #[.string t] W fun e w' => e = .returned (.tuple #[.string sc, .int .i64 ec]) ∧ Below W.heap.size W w'))
    (HD : Hid (∀ W, Calls Try.prog 6 #[.string u] W fun e w' => e = .returned (.tuple #[.string sd, .int .i64 ed]) ∧ Below W.heap.size W w'))
    (f1 : (ea == 0) = true) (f2 : (eb == 0) = true) (x : Bool) (f3 : (sa.toList == sb.toList) = x) (f4 : (m == n) = x)
    (g1 : (ec != 0) = false) (g2 : (ed != 0) = false) (g3 : ¬ (4096 : Int) < (t.size : Int)) (g4 : ¬ (4096 : Int) < (u.size : Int)) (y : Bool) (g5 : (sc.toList == sd.toList) = y) (g6 : (t.toList == u.toList) = y)
    (s1 : sc.size ≤ 5000) (s2 : sd.size ≤ 5000) (R1 : Hid (rdText (sc ++ sd) 4096 = (t, (sc.size : Int), 0))) (k5 : Int) (R2 : Hid (rdText sd 4096 = (u, k5, 0))) :
    Calls Try.prog 3 #[.agg #[.int .i64 m, .int .i64 n], .string t, .string u] w fun e w' => e = .returned (.bool true) ∧ Below w.heap.size w w' := by
  have hbig : (sc ++ sd).size ≤ 562949953421312 := by rw [ByteArray.size_append]; omega
  have HT : Hid ((sc ++ sd).extract sc.size (sc.size + sd.size) = sd) := by unfold Hid; rw [← ByteArray.size_append]; exact tail_eq sc sd
  go_enter Try.func3, Try.ntmps3
  go_wp2_with fail
  go_quiet (fail)
  go_wp2_with fail
  refine (HA.out _).mono ?_
  rintro e w1 ⟨rfl, hb1⟩
  go_wp2_with fail
  refine (HB.out _).mono ?_
  rintro e w2 ⟨rfl, hb2⟩
  go_wp2_with fail
  refine (HC.out _).mono ?_
  rintro e w3 ⟨rfl, hb3⟩
  go_wp2_with fail
  refine (HD.out _).mono ?_
  rintro e w4 ⟨rfl, hb4⟩
  go_wp2_with fail
  refine (bits_Text (sc ++ sd) 4096 _ hbig (Or.inl (by omega))).mono ?_
  rw [R1.out]
  rintro e w5 ⟨rfl, hb5⟩
  go_wp2_with fail
  rw [HT.out]
  refine (bits_Text sd 4096 _ (by omega) (Or.inl (by omega))).mono ?_
  rw [R2.out]
  rintro e w6 ⟨rfl, hb6⟩
  go_wp2_with fail
  refine (awake _).mono ?_
  rintro e w7 ⟨rfl, hb7⟩
  go_wp2
  go_ret
  exact ⟨rfl, ((below_drewN ((Below.refl _ w).alloc (Nat.le_refl _) _) _).trans ((hb1.trans ((hb2.trans ((hb3.trans ((hb4.trans ((hb5.trans ((hb6.trans (hb7.mono hb6.size)).mono hb5.size)).mono hb4.size)).mono hb3.size)).mono hb2.size)).mono hb1.size)).mono (by simp)))⟩

end Go.Proofs.Ytncnfhpjdpkciab.bitsApart
