/-
  What bytes begin with: takeHead, takeRecord. What bytes begin with: takeRecord, of a record.
-/
import Derived.Test.YtpfnkjfbhcffiaaWlRec
import Derived.Test.YtpfnkjfbhcffiaaWlPut
import Derived.Test.YtpfnkjfbhcffiaaFrTake
import Derived.Test.YtpfnkjfbhcffiaaVar
import Derived.Laws.ResultCell
import Derived.BigRegion
namespace Go.Proofs.Ytpfnkjfbhcffiaa
open Go.RowKit

theorem take_no_all {s : ByteArray} (h : (F.take s).2.2 ≠ 0) : F.take s = (⟨#[]⟩, 0, (F.take s).2.2) := by
  obtain ⟨h1, h2⟩ := F.take_no h
  rw [← h1, ← h2]

theorem takeHead_no (s : ByteArray) (w : World) (hs : s.size ≤ 1000000000) (h : (F.take s).2.2 ≠ 0) :
    Calls Try.prog 80 #[.string s] w fun e w' => e = .returned (.tuple #[.int .i64 0, .int .i64 0, .bool false]) ∧ Below w.heap.size w w' := by
  have HT : Hid _ := frame_Take s w hs
  rw [take_no_all h] at HT
  unfold tookEnd at HT
  dsimp only at HT
  obtain ⟨c, hc⟩ : ∃ c, c = (F.take s).2.2 := ⟨_, rfl⟩
  rw [← hc] at HT h
  have t0 : ((c : Int) != 0) = true := by simp; omega
  clear h hc hs
  go_enter Try.func80, Try.ntmps80
  go_wp2_with fail
  refine Calls.mono HT.out ?_
  rintro e w1 ⟨rfl, hb⟩
  go_wp2
  go_ret3
  exact ⟨rfl, hb⟩

theorem putVar_one {t : Nat} (h : t ≤ 1) : (M.putVar t).length = 1 := by rw [M.putVar_lt (by omega)]; rfl

theorem head_take (t : Nat) (ht : t ≤ 1) (rest : ByteArray) : F.take (W.head t ++ rest) = (⟨(M.putVar t).toArray⟩, 10, 0) := by
  have h1 : (⟨(M.putVar t).toArray⟩ : ByteArray).size = 1 := by show (M.putVar t).toArray.size = 1; rw [List.size_toArray, putVar_one ht]
  unfold W.head
  rw [F.take_record _ _ (by omega), h1]

theorem head_size10 (t : Nat) (ht : t ≤ 1) : (W.head t).size = 10 := by
  unfold W.head
  rw [F.record_size]
  show 9 + (M.putVar t).toArray.size = 10
  rw [List.size_toArray, putVar_one ht]

theorem takeHead_yes (t : Nat) (ht : t ≤ 1) (rest : ByteArray) (w : World) (hs : (W.head t ++ rest).size ≤ 1000000000) :
    Calls Try.prog 80 #[.string (W.head t ++ rest)] w fun e w' => e = .returned (.tuple #[.int .i64 (t : Int), .int .i64 10, .bool true]) ∧ Below w.heap.size w w' := by
  have HT : Hid _ := frame_Take (W.head t ++ rest) w hs
  rw [head_take t ht] at HT
  unfold tookEnd at HT
  dsimp only at HT
  obtain ⟨P, hP⟩ : ∃ P, P = (⟨(M.putVar t).toArray⟩ : ByteArray) := ⟨_, rfl⟩
  have hPs : P.size = 1 := by rw [hP]; show (M.putVar t).toArray.size = 1; rw [List.size_toArray, putVar_one ht]
  have HV : Hid _ := fun u => bits_Var P u (by unfold maxLen; omega)
  have e : M.rdVar P.data.toList = (t, 1, 0) := by
    rw [hP]
    show M.rdVar (M.putVar t).toArray.toList = _
    have := M.rdVar_put t [] (by omega)
    rw [List.append_nil, putVar_one ht] at this
    simpa using this
  rw [e] at HV
  dsimp only at HV
  obtain ⟨X, hX⟩ : ∃ X, X = W.head t ++ rest := ⟨_, rfl⟩
  rw [← hX, ← hP] at HT
  rw [← hX]
  have t1 : decide (1 < t) = false := decide_eq_false (by omega)
  have t2 : ((1 : Int) != (P.size : Int)) = false := by rw [hPs]; rfl
  clear hX hP hs e hPs
  go_enter Try.func80, Try.ntmps80
  go_wp2_with fail
  refine Calls.mono HT.out ?_
  rintro e w1 ⟨rfl, hb⟩
  have HB : Hid _ := hb
  clear hb
  go_wp2_with fail
  refine Calls.mono (HV.out _) ?_
  rintro e w2 ⟨rfl, hw⟩
  subst hw
  go_wp2
  go_ret3
  exact ⟨rfl, HB.out⟩

theorem takeRecord_no (s : ByteArray) (w : World) (hs : s.size ≤ 1000000000) (h : (F.take s).2.2 ≠ 0) :
    Calls Try.prog 81 #[.string s] w fun e w' => e = .returned (.tuple #[.agg #[.int .i64 0, .int .i64 0, .int .i64 0, .int .i64 0, .int .i64 0, .string ⟨#[]⟩], .int .i64 0, .bool false]) ∧ Below w.heap.size w w' := by
  have HT : Hid _ := fun u => frame_Take s u hs
  rw [take_no_all h] at HT
  unfold tookEnd at HT
  dsimp only at HT
  obtain ⟨c, hc⟩ : ∃ c, c = (F.take s).2.2 := ⟨_, rfl⟩
  rw [← hc] at HT h
  have t0 : ((c : Int) != 0) = true := by simp; omega
  clear h hc hs
  go_enter Try.func81, Try.ntmps81
  go_wp2_with fail
  obtain ⟨u, hu⟩ : ∃ u, u = w.alloc (.cells #[.int .i64 0, .int .i64 0, .int .i64 0, .int .i64 0, .int .i64 0, .string ⟨#[]⟩] 37) := ⟨_, rfl⟩
  obtain ⟨a, ha⟩ : ∃ a, a = w.heap.size := ⟨_, rfl⟩
  have HBu : Hid (Below w.heap.size w u) := by rw [hu]; exact below_alloc _ _
  have la : a < u.heap.size := by rw [hu, ha]; simp
  have ua : ∀ j, u.cell? ⟨a, j, none⟩ = (#[.int .i64 0, .int .i64 0, .int .i64 0, .int .i64 0, .int .i64 0, .string ⟨#[]⟩] : Array Value)[j]? := by intro j; rw [hu, ha]; exact World.cell?_alloc_mark w _ _ _ j
  have fa : ∀ j, u.frozen? ⟨a, j, none⟩ = false := by intro j; rw [hu, ha, World.frozen?_alloc_mark]; simp
  have Ha : Hid (a = w.heap.size) := ha
  rw [← hu, ← ha]
  clear hu ha
  refine Calls.mono (HT.out _) ?_
  rintro e w1 ⟨rfl, hb⟩
  have c0 : w1.cell? ⟨a, 0, none⟩ = some (.int .i64 0) := (hb.cell (p := ⟨a, 0, none⟩) la).trans (ua 0)
  have c1 : w1.cell? ⟨a, 1, none⟩ = some (.int .i64 0) := (hb.cell (p := ⟨a, 1, none⟩) la).trans (ua 1)
  have c2 : w1.cell? ⟨a, 2, none⟩ = some (.int .i64 0) := (hb.cell (p := ⟨a, 2, none⟩) la).trans (ua 2)
  have c3 : w1.cell? ⟨a, 3, none⟩ = some (.int .i64 0) := (hb.cell (p := ⟨a, 3, none⟩) la).trans (ua 3)
  have c4 : w1.cell? ⟨a, 4, none⟩ = some (.int .i64 0) := (hb.cell (p := ⟨a, 4, none⟩) la).trans (ua 4)
  have c5 : w1.cell? ⟨a, 5, none⟩ = some (.string ⟨#[]⟩) := (hb.cell (p := ⟨a, 5, none⟩) la).trans (ua 5)
  have g : ∀ j, w1.frozen? ⟨a, j, none⟩ = false := fun j => (hb.frozen (p := ⟨a, j, none⟩) la).trans (fa j)
  have HB : Hid (Below w.heap.size w w1) := HBu.out.trans (hb.mono HBu.out.size)
  clear hb ua fa la
  go_wp2
  refine bodyPost_ret (v := .tuple #[.agg #[.int .i64 0, .int .i64 0, .int .i64 0, .int .i64 0, .int .i64 0, .string ⟨#[]⟩], .int .i64 0, .bool false]) ?qres rfl ?qpost
  case qres => simp [results, Try.results81, go_sem, c0, c1, c2, c3, c4, c5]
  case qpost =>
    have e := Ha.out
    exact ⟨rfl, (((((HB.out.setCell (by show _ ≤ a; omega) _).setCell (by show _ ≤ a; omega) _).setCell (by show _ ≤ a; omega) _).setCell (by show _ ≤ a; omega) _).setCell (by show _ ≤ a; omega) _).setCell (by show _ ≤ a; omega) _⟩

end Go.Proofs.Ytpfnkjfbhcffiaa

namespace Go.Proofs.Ytpfnkjfbhcffiaa
open Go.RowKit

theorem rd_step (n : Nat) (t : List UInt8) (h : n < 9223372036854775808) : M.rdVar (⟨(M.putVar n ++ t).toArray⟩ : ByteArray).data.toList = (n, (M.putVar n).length, 0) ∧
    (⟨(M.putVar n ++ t).toArray⟩ : ByteArray).extract (M.putVar n).length (⟨(M.putVar n ++ t).toArray⟩ : ByteArray).size = ⟨t.toArray⟩ := by
  refine ⟨?_, ?_⟩
  · show M.rdVar (M.putVar n ++ t).toArray.toList = _
    rw [List.toList_toArray]
    exact M.rdVar_put n t h
  · apply F.ext
    rw [F.toL_extract]
    show ((M.putVar n ++ t).toArray.toList.drop _).take ((M.putVar n ++ t).toArray.size - _) = t.toArray.toList
    rw [List.toList_toArray, List.toList_toArray, List.size_toArray, List.drop_left, List.length_append, Nat.add_sub_cancel_left, List.take_length]

theorem size_set' (w : World) (a : Addr) (v : Value) : (w.setCell a v).heap.size = w.heap.size := by simp [World.setCell]

set_option maxHeartbeats 1600000 in
set_option maxRecDepth 20000 in
theorem takeRecord_yes (r : W.Rec) (hm : W.may r = true) (rest : ByteArray) (w : World) (hs : (W.recB r ++ rest).size ≤ 1000000000) :
    Calls Try.prog 81 #[.string (W.recB r ++ rest)] w fun e w' => e = .returned (.tuple #[recV r, .int .i64 ((W.recB r).size : Int), .bool true]) ∧ Below w.heap.size w w' := by
  have hps := payload_size hm
  have hsz : (W.recB r).size = 9 + (W.payload r).length := by
    unfold W.recB
    rw [F.record_size]
    show 9 + (W.payload r).toArray.size = _
    rw [List.size_toArray]
  have HT : Hid _ := fun u => frame_Take (W.recB r ++ rest) u hs
  have htk : F.take (W.recB r ++ rest) = (⟨(W.payload r).toArray⟩, (W.recB r).size, 0) := by
    rw [hsz]
    unfold W.recB
    rw [F.take_record _ _ (by show (W.payload r).toArray.size ≤ _; rw [List.size_toArray]; omega)]
    show (_, 9 + (W.payload r).toArray.size, 0) = _
    rw [List.size_toArray]
  rw [htk] at HT
  unfold tookEnd at HT
  dsimp only at HT
  obtain ⟨g, k, i, t, v, hg, hk, hi, ht, hv, lg, lk, li, lt, lv⟩ := may_nums hm
  obtain ⟨X, hX⟩ : ∃ X, X = W.recB r ++ rest := ⟨_, rfl⟩
  obtain ⟨sz, hsz'⟩ : ∃ sz, sz = (W.recB r).size := ⟨_, rfl⟩
  rw [← hX, ← hsz'] at HT
  rw [← hX, ← hsz']
  obtain ⟨rg, rk, ri, rt, rv, d⟩ := r
  dsimp only at hg hk hi ht hv
  subst hg hk hi ht
  unfold W.payload at HT hps
  dsimp only at HT hps
  rw [hv] at HT hps
  simp only [Int.toNat_natCast] at HT hps
  simp only [List.append_assoc] at HT hps
  have e1 := rd_step g (M.putVar k ++ (M.putVar i ++ (M.putVar t ++ (M.putVar v ++ d.data.toList)))) (by omega)
  have e2 := rd_step k (M.putVar i ++ (M.putVar t ++ (M.putVar v ++ d.data.toList))) (by omega)
  have e3 := rd_step i (M.putVar t ++ (M.putVar v ++ d.data.toList)) (by omega)
  have e4 := rd_step t (M.putVar v ++ d.data.toList) (by omega)
  have e5 := rd_step v d.data.toList (by omega)
  simp only [List.length_append] at hps
  obtain ⟨q1, h1⟩ : ∃ q, q = (⟨(M.putVar g ++ (M.putVar k ++ (M.putVar i ++ (M.putVar t ++ (M.putVar v ++ d.data.toList))))).toArray⟩ : ByteArray) := ⟨_, rfl⟩
  obtain ⟨q2, h2⟩ : ∃ q, q = (⟨(M.putVar k ++ (M.putVar i ++ (M.putVar t ++ (M.putVar v ++ d.data.toList)))).toArray⟩ : ByteArray) := ⟨_, rfl⟩
  obtain ⟨q3, h3⟩ : ∃ q, q = (⟨(M.putVar i ++ (M.putVar t ++ (M.putVar v ++ d.data.toList))).toArray⟩ : ByteArray) := ⟨_, rfl⟩
  obtain ⟨q4, h4⟩ : ∃ q, q = (⟨(M.putVar t ++ (M.putVar v ++ d.data.toList)).toArray⟩ : ByteArray) := ⟨_, rfl⟩
  obtain ⟨q5, h5⟩ : ∃ q, q = (⟨(M.putVar v ++ d.data.toList).toArray⟩ : ByteArray) := ⟨_, rfl⟩
  have z1 : q1.size = (M.putVar g).length + q2.size := by rw [h1, h2]; show (_ : Array UInt8).size = _ + (_ : Array UInt8).size; simp
  have z2 : q2.size = (M.putVar k).length + q3.size := by rw [h2, h3]; show (_ : Array UInt8).size = _ + (_ : Array UInt8).size; simp
  have z3 : q3.size = (M.putVar i).length + q4.size := by rw [h3, h4]; show (_ : Array UInt8).size = _ + (_ : Array UInt8).size; simp
  have z4 : q4.size = (M.putVar t).length + q5.size := by rw [h4, h5]; show (_ : Array UInt8).size = _ + (_ : Array UInt8).size; simp
  have z5 : q5.size = (M.putVar v).length + d.size := by rw [h5]; show (_ : Array UInt8).size = _ + _; simp
  have hds : d.data.toList.length = d.size := by simp
  rw [hds] at hps
  rw [← h1, ← h2] at e1
  rw [← h2, ← h3] at e2
  rw [← h3, ← h4] at e3
  rw [← h4, ← h5] at e4
  rw [← h5, show (⟨d.data.toList.toArray⟩ : ByteArray) = d from rfl] at e5
  rw [← h1] at HT
  have V1 : Hid _ := fun u => bits_Var q1 u (by unfold maxLen; omega)
  have V2 : Hid _ := fun u => bits_Var q2 u (by unfold maxLen; omega)
  have V3 : Hid _ := fun u => bits_Var q3 u (by unfold maxLen; omega)
  have V4 : Hid _ := fun u => bits_Var q4 u (by unfold maxLen; omega)
  have V5 : Hid _ := fun u => bits_Var q5 u (by unfold maxLen; omega)
  rw [e1.1] at V1
  rw [e2.1] at V2
  rw [e3.1] at V3
  rw [e4.1] at V4
  rw [e5.1] at V5
  dsimp only at V1 V2 V3 V4 V5
  obtain ⟨l1, hl1⟩ : ∃ l, l = (M.putVar g).length := ⟨_, rfl⟩
  obtain ⟨l2, hl2⟩ : ∃ l, l = (M.putVar k).length := ⟨_, rfl⟩
  obtain ⟨l3, hl3⟩ : ∃ l, l = (M.putVar i).length := ⟨_, rfl⟩
  obtain ⟨l4, hl4⟩ : ∃ l, l = (M.putVar t).length := ⟨_, rfl⟩
  obtain ⟨l5, hl5⟩ : ∃ l, l = (M.putVar v).length := ⟨_, rfl⟩
  rw [← hl1] at V1 e1 z1
  rw [← hl2] at V2 e2 z2
  rw [← hl3] at V3 e3 z3
  rw [← hl4] at V4 e4 z4
  rw [← hl5] at V5 e5 z5
  have y1 : l1 ≤ q1.size := by omega
  have y2 : l2 ≤ q2.size := by omega
  have y3 : l3 ≤ q3.size := by omega
  have y4 : l4 ≤ q4.size := by omega
  have y5 : l5 ≤ q5.size := by omega
  have E1 := e1.2
  have E2 := e2.2
  have E3 := e3.2
  have E4 := e4.2
  have E5 := e5.2
  have hrv : (v : Int) - 1 = rv := by omega
  unfold recV
  dsimp only
  clear e1 e2 e3 e4 e5 h1 h2 h3 h4 h5 z1 z2 z3 z4 z5 hl1 hl2 hl3 hl4 hl5 hps hds hX hsz hsz' htk hs hm lg lk li lt hv
  go_enter Try.func81, Try.ntmps81
  go_wp2_with fail
  obtain ⟨u, hu⟩ : ∃ u, u = w.alloc (.cells #[.int .i64 0, .int .i64 0, .int .i64 0, .int .i64 0, .int .i64 0, .string ⟨#[]⟩] 37) := ⟨_, rfl⟩
  obtain ⟨a, ha⟩ : ∃ a, a = w.heap.size := ⟨_, rfl⟩
  have HBu : Hid (Below w.heap.size w u) := by rw [hu]; exact below_alloc _ _
  have la : a < u.heap.size := by rw [hu, ha]; simp
  have ua : ∀ j, u.cell? ⟨a, j, none⟩ = (#[.int .i64 0, .int .i64 0, .int .i64 0, .int .i64 0, .int .i64 0, .string ⟨#[]⟩] : Array Value)[j]? := by intro j; rw [hu, ha]; exact World.cell?_alloc_mark w _ _ _ j
  have fa : ∀ j, u.frozen? ⟨a, j, none⟩ = false := by intro j; rw [hu, ha, World.frozen?_alloc_mark]; simp
  have Ha : Hid (a = w.heap.size) := ha
  rw [← hu, ← ha]
  clear hu ha
  refine Calls.mono (HT.out _) ?_
  rintro e w1 ⟨rfl, hb⟩
  have c0 : w1.cell? ⟨a, 0, none⟩ = some (.int .i64 0) := (hb.cell (p := ⟨a, 0, none⟩) la).trans (ua 0)
  have c1 : w1.cell? ⟨a, 1, none⟩ = some (.int .i64 0) := (hb.cell (p := ⟨a, 1, none⟩) la).trans (ua 1)
  have c2 : w1.cell? ⟨a, 2, none⟩ = some (.int .i64 0) := (hb.cell (p := ⟨a, 2, none⟩) la).trans (ua 2)
  have c3 : w1.cell? ⟨a, 3, none⟩ = some (.int .i64 0) := (hb.cell (p := ⟨a, 3, none⟩) la).trans (ua 3)
  have c4 : w1.cell? ⟨a, 4, none⟩ = some (.int .i64 0) := (hb.cell (p := ⟨a, 4, none⟩) la).trans (ua 4)
  have c5 : w1.cell? ⟨a, 5, none⟩ = some (.string ⟨#[]⟩) := (hb.cell (p := ⟨a, 5, none⟩) la).trans (ua 5)
  have g' : ∀ j, w1.frozen? ⟨a, j, none⟩ = false := fun j => (hb.frozen (p := ⟨a, j, none⟩) la).trans (fa j)
  have HB : Hid (Below w.heap.size w w1) := HBu.out.trans (hb.mono HBu.out.size)
  have la1 : a < w1.heap.size := Nat.lt_of_lt_of_le la hb.size
  clear hb ua fa la
  go_wp2
  refine wp_loop_rounds 6 ?_
  rw [rounds_succ]
  go_wp2_with fail
  refine Calls.mono (V1.out _) ?_
  rintro e w2 ⟨rfl, hw⟩
  subst hw
  go_wp2
  go_region
  go_wp2
  rw [rounds_succ]
  go_wp2_with fail
  refine Calls.mono (V2.out _) ?_
  rintro e w2 ⟨rfl, hw⟩
  subst hw
  go_wp2
  go_region
  go_wp2
  rw [rounds_succ]
  go_wp2_with fail
  refine Calls.mono (V3.out _) ?_
  rintro e w2 ⟨rfl, hw⟩
  subst hw
  go_wp2
  go_region
  go_wp2
  rw [rounds_succ]
  go_wp2_with fail
  refine Calls.mono (V4.out _) ?_
  rintro e w2 ⟨rfl, hw⟩
  subst hw
  go_wp2
  go_region
  go_wp2
  rw [rounds_succ]
  go_wp2_with fail
  refine Calls.mono (V5.out _) ?_
  rintro e w2 ⟨rfl, hw⟩
  subst hw
  go_wp2
  go_region
  go_wp2
  rw [rounds_succ]
  go_wp2
  refine bodyPost_ret (v := .tuple #[.agg #[.int .i64 (g : Int), .int .i64 (k : Int), .int .i64 (i : Int), .int .i64 (t : Int), .int .i64 rv, .string d], .int .i64 (sz : Int), .bool true]) ?qres rfl ?qpost
  case qres => simp [results, Try.results81, go_sem, c0, c1, c2, c3, c4, c5, la1]
  case qpost =>
    have e := Ha.out
    have h1 := (((((HB.out.setCell (p := ⟨a, 0, none⟩) (by show _ ≤ a; omega) (.int .i64 (g : Int))).setCell (p := ⟨a, 1, none⟩) (by show _ ≤ a; omega) (.int .i64 (k : Int))).setCell (p := ⟨a, 2, none⟩) (by show _ ≤ a; omega) (.int .i64 (i : Int))).setCell (p := ⟨a, 3, none⟩) (by show _ ≤ a; omega) (.int .i64 (t : Int))).setCell (p := ⟨a, 4, none⟩) (by show _ ≤ a; omega) (.int .i64 rv)).setCell (p := ⟨a, 5, none⟩) (by show _ ≤ a; omega) (.string d)
    exact ⟨rfl, (((((h1.alloc (by simp only [size_set']; omega) _).drew).drew).drew).drew).drew⟩

end Go.Proofs.Ytpfnkjfbhcffiaa
