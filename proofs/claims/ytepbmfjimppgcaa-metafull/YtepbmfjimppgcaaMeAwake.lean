/-
  What must come: awake.
-/
import Derived.Test.YtepbmfjimppgcaaMeApply
import Derived.Test.YtepbmfjimppgcaaMeBegin
import Derived.Test.YtepbmfjimppgcaaMeStart3
import Derived.Test.YtepbmfjimppgcaaMeTodo
namespace Go.Proofs.Ytepbmfjimppgcaa
open Go.RowKit

def offOp (x : ByteArray) : Mo.Op := ⟨7, ⟨#[]⟩, ⟨#[]⟩, x, ⟨#[]⟩, ⟨#[]⟩, ⟨#[]⟩, 0, 0⟩
def begCd (a b : Int) (o : Mo.Op) : Me.Cd := ⟨6, a, b, o, 0, 0, 0, 0, 0, false, 0, ⟨#[]⟩⟩
theorem off_c (x : ByteArray) (w : World) : Calls Try.prog 12 #[.string x] w fun e w' => e = .returned (.agg #[.int .i64 7, .string ⟨#[]⟩, .string ⟨#[]⟩, .string x, .string ⟨#[]⟩, .string ⟨#[]⟩, .string ⟨#[]⟩, .int .i64 0, .int .i64 0]) ∧ Below w.heap.size w w' := by
  have HB : Hid (∀ o, Below w.heap.size w (w.alloc o)) := fun o => below_alloc w o
  go_enter Try.func12, Try.ntmps12
  go_wp2
  refine bodyPost_ret (v := .agg #[.int .i64 7, .string ⟨#[]⟩, .string ⟨#[]⟩, .string x, .string ⟨#[]⟩, .string ⟨#[]⟩, .string ⟨#[]⟩, .int .i64 0, .int .i64 0]) ?qres rfl ?qpost
  case qres => simp [results, Try.results12, go_sem]
  case qpost => exact ⟨rfl, HB.out _⟩
theorem results_cmd1 (fn : Func) (k : Nat) (hfn : fn.results = #[.cell k 39]) (tmps : Array Value) (w : World) (g : Nat) (cs : Array Value) (hp : tmps.getD k undef = .pointer (some ⟨g, 0, none⟩)) (hg : w.heap[g]? = some (.cells cs 39 (0, 0))) (hs : cs.size = 20) :
    (results fn tmps).run Try.prog w = .ok (.agg cs) w := by
  have hp' : tmps[k]?.getD undef = .pointer (some ⟨g, 0, none⟩) := by simpa using hp
  have hi : (Try.prog.info? 39).map (·.size) = some cs.size := by rw [hs]; kernel_rfl
  simp [results, hfn, hp', asAddr, run_loadVar_row w g 39 39 cs (0, 0) _ hg Try.underlying39 rfl hi]
theorem cmd_one (c : Me.Cd) : ∀ x ∈ cmdL c, x.oneCell' = true := by
  intro x hx
  simp only [cmdL, List.mem_cons, List.not_mem_nil, or_false] at hx
  rcases hx with rfl | rfl | rfl | rfl | rfl | rfl | rfl | rfl | rfl | rfl | rfl | rfl | rfl | rfl | rfl | rfl | rfl | rfl | rfl | rfl <;> rfl
set_option maxHeartbeats 1600000 in
set_option maxRecDepth 20000 in
theorem begin_c (a b k0 k7 k8 : Int) (o1 o2 o3 o4 o5 o6 : ByteArray) (w : World) : Calls Try.prog 11 #[.int .i64 a, .int .i64 b, .agg #[.int .i64 k0, .string o1, .string o2, .string o3, .string o4, .string o5, .string o6, .int .i64 k7, .int .i64 k8]] w fun e w' => e = .returned (.agg (cmdL (begCd a b ⟨k0, o1, o2, o3, o4, o5, o6, k7, k8⟩)).toArray) ∧ Below w.heap.size w w' := by
  obtain ⟨u0, hu0⟩ : ∃ u0, u0 = w.alloc (.cells #[.int .i64 k0, .string o1, .string o2, .string o3, .string o4, .string o5, .string o6, .int .i64 k7, .int .i64 k8] 37) := ⟨_, rfl⟩
  have hone : (#[.int .i64 6, .int .i64 a, .int .i64 b, .int .i64 k0, .string o1, .string o2, .string o3, .string o4, .string o5, .string o6, .int .i64 k7, .int .i64 k8, .int .i64 0, .int .i64 0, .int .i64 0, .int .i64 0, .int .i64 0, .bool false, .int .i64 0, .string ⟨#[]⟩] : Array Value).all (·.oneCell') = true := all_oneCell_toArray (cmd_one (begCd a b ⟨k0, o1, o2, o3, o4, o5, o6, k7, k8⟩))
  have hi20 : (Try.prog.info? 39).map (·.size) = some 20 := cmdInfo
  have HB : Hid (∀ o', Below w.heap.size w (u0.alloc o')) := fun o' => by
    have h1 : Below w.heap.size w u0 := by rw [hu0]; exact below_alloc w _
    exact h1.trans ((below_alloc u0 o').mono h1.size)
  have hs0 : u0.heap.size = w.heap.size + 1 := by rw [hu0]; simp
  obtain ⟨bx, hbx⟩ : ∃ bx, bx = w.heap.size := ⟨_, rfl⟩
  have hy : ∀ o j, (u0.alloc o).cell? ⟨bx, j, none⟩ = (#[.int .i64 k0, .string o1, .string o2, .string o3, .string o4, .string o5, .string o6, .int .i64 k7, .int .i64 k8] : Array Value)[j]? := fun o j => by
    rw [(below_alloc u0 o).cell (p := ⟨bx, j, none⟩) (by show bx < _; omega), hu0, hbx]
    exact World.cell?_alloc_mark w _ _ _ j
  have y0 := fun o => hy o 0
  have y1 := fun o => hy o 1
  have y2 := fun o => hy o 2
  have y3 := fun o => hy o 3
  have y4 := fun o => hy o 4
  have y5 := fun o => hy o 5
  have y6 := fun o => hy o 6
  have y7 := fun o => hy o 7
  have y8 := fun o => hy o 8
  simp at y0 y1 y2 y3 y4 y5 y6 y7 y8
  go_enter Try.func11, Try.ntmps11
  go_upto_region 1 with fail
  rw [← hu0]
  try rw [← hs0]
  try rw [← hbx]
  clear hu0 hs0 hbx hy
  go_wp2_with (first | (refine wpList_store_row rfl 39 (.tmp 6) (.tmp 11) rfl u0.heap.size _ rfl rfl 39 _ (heap_alloc_new u0 _) hi20 rfl hone ?_; rw [setRowN]))
  refine bodyPost_ret (v := .agg (cmdL (begCd a b ⟨k0, o1, o2, o3, o4, o5, o6, k7, k8⟩)).toArray) (results_cmd1 _ 6 Try.results11 _ _ u0.heap.size (cmdL (begCd a b ⟨k0, o1, o2, o3, o4, o5, o6, k7, k8⟩)).toArray ?q1 ?q2 ?q3) ?q4 ?q5
  case q2 => exact heap_alloc_new u0 _
  case q1 => rfl
  case q3 => rfl
  case q4 => rfl
  case q5 => exact ⟨rfl, HB.out _⟩

def annB : ByteArray := ⟨#[97, 110, 110]⟩
def q1 : Me.St := Me.begin (Me.new 2) 5 1 (offOp annB)
theorem q1_begins : Me.begins (Me.new 2) 5 1 (offOp annB) := ⟨by kernel_rfl, by kernel_rfl, by kernel_rfl, by kernel_rfl⟩
theorem ann_ok : OpOk (offOp annB) := by
  refine ⟨?_, ?_, ?_, ?_, ?_, ?_⟩ <;> (show _ ≤ maxLen; unfold maxLen; decide)
theorem ann_size : ∀ x : ByteArray, x = (offOp annB).space ∨ x = (offOp annB).channel ∨ x = (offOp annB).user ∨ x = (offOp annB).toSpace ∨ x = (offOp annB).to → x.size ≤ 140737488351232 := by
  intro x hx
  rcases hx with rfl | rfl | rfl | rfl | rfl <;> decide
def planCd (s g : Int) : Me.Cd := ⟨9, 0, 0, ⟨0, ⟨#[]⟩, ⟨#[]⟩, ⟨#[]⟩, ⟨#[]⟩, ⟨#[]⟩, ⟨#[]⟩, 0, 0⟩, 0, 0, s, 0, g, false, 0, ⟨#[]⟩⟩
theorem q1_opn : (Me.opn (Me.fresh 5 1 (offOp annB))).length = 16 := by kernel_rfl
theorem q1_dec : Me.dec (Me.fresh 5 1 (offOp annB)) = false := by kernel_rfl
theorem q1_own : ((q1.own.O 0 : Nat) : Int) ≠ 2 := by show ((1 : Nat) : Int) ≠ 2; decide
theorem q1_plan : Me.planned q1 0 2 = ⟨1, 0, 1, 2, 1, false, Me.e0⟩ := by kernel_rfl
theorem q1_taken : Me.takenTo q1.own.E 16 + 1 = 1 := by kernel_rfl

set_option maxHeartbeats 6400000 in
set_option maxRecDepth 100000 in
theorem awakeQ_c (w : World) : Calls Try.prog 10 #[] w fun e w' => e = .returned (.bool true) ∧ Below w.heap.size w w' := by
  have HN : Hid (Calls Try.prog 6 #[.int .i64 2] w fun e w' => ∃ B who, e = .returned (.tuple #[.pointer (some ⟨B, 0, none⟩), .int .i64 0]) ∧ Mt w' B (Me.new 2) who 0 ∧ (∀ i, who i ≠ 0 → w.heap.size ≤ i) ∧ Below w.heap.size w w') := NewQ_c w 2 (by decide)
  have HOf : Hid (∀ X, Calls Try.prog 12 #[.string ⟨#[97, 110, 110]⟩] X fun e w' => e = .returned (.agg #[.int .i64 7, .string ⟨#[]⟩, .string ⟨#[]⟩, .string ⟨#[97, 110, 110]⟩, .string ⟨#[]⟩, .string ⟨#[]⟩, .string ⟨#[]⟩, .int .i64 0, .int .i64 0]) ∧ Below X.heap.size X w') := fun X => off_c _ X
  have HBg : Hid (∀ X, Calls Try.prog 11 #[.int .i64 5, .int .i64 1, .agg #[.int .i64 7, .string ⟨#[]⟩, .string ⟨#[]⟩, .string ⟨#[97, 110, 110]⟩, .string ⟨#[]⟩, .string ⟨#[]⟩, .string ⟨#[]⟩, .int .i64 0, .int .i64 0]] X fun e w' => e = .returned (.agg (cmdL (begCd 5 1 (offOp annB))).toArray) ∧ Below X.heap.size X w') := fun X => begin_c 5 1 7 0 0 _ _ _ _ _ _ X
  have HA1 : Hid (∀ X B who, Mt X B (Me.new 2) who 0 → Calls Try.prog 8 #[.pointer (some ⟨B, 0, none⟩), .agg (cmdL (begCd 5 1 (offOp annB))).toArray] X (AnsT who X B q1 1 120 1)) := fun X B who h => Apply_begin h (begCd 5 1 (offOp annB)) rfl fun Y hY => beginQ_yes hY (by decide) _ ann_ok ann_size q1_begins
  have HTd : Hid (∀ X B who, Mt X B q1 who 1 → Calls Try.prog 15 #[.pointer (some ⟨B, 0, none⟩)] X fun e w' => ∃ p c, e = .returned (.tuple #[.agg #[.int .i64 1, .int .i64 5, .int .i64 1, .int .i64 7, .string ⟨#[]⟩, .string ⟨#[]⟩, .string ⟨#[97, 110, 110]⟩, .string ⟨#[]⟩, .string ⟨#[]⟩, .string ⟨#[]⟩, .int .i64 0, .int .i64 0, .bool false, .bool false, .slice p 16 c, .string ⟨#[]⟩], .bool true]) ∧ Below X.heap.size X w') := fun X B who h => by
    refine (Todo_open h (by decide) (Me.fresh 5 1 (offOp annB)) [] rfl q1_dec).mono ?_
    rintro e w' ⟨sl, rfl, hr, hb⟩
    obtain ⟨p, c, hs, _, _⟩ := hr.form
    rw [q1_opn] at hs
    exact ⟨p, c, by rw [hs]; rfl, hb⟩
  have HA2 : Hid (∀ X B who, Mt X B q1 who 1 → Calls Try.prog 8 #[.pointer (some ⟨B, 0, none⟩), .agg #[.int .i64 9, .int .i64 0, .int .i64 0, .int .i64 0, .string ⟨#[]⟩, .string ⟨#[]⟩, .string ⟨#[]⟩, .string ⟨#[]⟩, .string ⟨#[]⟩, .string ⟨#[]⟩, .int .i64 0, .int .i64 0, .int .i64 0, .int .i64 0, .int .i64 0, .int .i64 0, .int .i64 2, .bool false, .int .i64 0, .string ⟨#[]⟩]] X (AnsT who X B { q1 with pl := ⟨1, 0, 1, 2, 1, false, Me.e0⟩ } 2 0 1)) := fun X B who h => by
    have := Apply_plan h (planCd 0 2) rfl fun Y hY => start_yes hY (planCd 0 2) 0 (by decide) rfl (by decide) (by decide) rfl q1_own
    rw [show (planCd 0 2).slot = 0 from rfl, show (planCd 0 2).group = 2 from rfl, q1_plan, q1_taken] at this
    exact this
  have HPl : Hid (∀ X B who, Mt X B { q1 with pl := ⟨1, 0, 1, 2, 1, false, Me.e0⟩ } who 2 → Calls Try.prog 9 #[.pointer (some ⟨B, 0, none⟩)] X fun e w' => e = .returned (.tuple #[.agg #[.int .i64 1, .int .i64 0, .int .i64 1, .int .i64 2, .int .i64 1, .bool false, .string ⟨#[]⟩], .bool true]) ∧ Below X.heap.size X w') := fun X B who h => PlanQ_c h
  have HWt : Hid (∀ X B who, Mt X B { q1 with pl := ⟨1, 0, 1, 2, 1, false, Me.e0⟩ } who 2 → Calls Try.prog 13 #[.pointer (some ⟨B, 0, none⟩)] X fun e w' => e = .returned (.int .i64 1) ∧ w' = X) := fun X B who h => WaitingQ_c h
  have heq : ∀ W : World, (binOp .eql 41 (.agg #[.int .i64 1, .int .i64 0, .int .i64 1, .int .i64 2, .int .i64 1, .bool false, .string ⟨#[]⟩]) (.agg #[.int .i64 1, .int .i64 0, .int .i64 1, .int .i64 2, .int .i64 1, .bool false, .string ⟨#[]⟩])).run Try.prog W = .ok (.bool true) W := fun W => by kernel_rfl
  obtain ⟨cs, hcs⟩ : ∃ cs, cs = (cmdL (begCd 5 1 (offOp annB))).toArray := ⟨_, rfl⟩
  rw [← hcs] at HBg HA1
  clear hcs
  obtain ⟨Q1, hQ1⟩ : ∃ Q1, Q1 = q1 := ⟨_, rfl⟩
  obtain ⟨Q2, hQ2⟩ : ∃ Q2 : Me.St, Q2 = { q1 with pl := ⟨1, 0, 1, 2, 1, false, Me.e0⟩ } := ⟨_, rfl⟩
  rw [← hQ2] at HA2 HPl HWt
  rw [← hQ1] at HA1 HTd HA2
  clear hQ1 hQ2
  go_enter Try.func10, Try.ntmps10
  go_wp2_with fail
  refine Calls.mono HN.out ?_
  rintro e w1 ⟨B, who, rfl, hm, hlo, hb⟩
  have HMt : Hid (Mt w1 B (Me.new 2) who 0) := hm
  have HLo : Hid (∀ i, i < w.heap.size → who i = 0) := fun i hi => Classical.byContradiction fun h => by have := hlo i h; omega
  have HB1 : Hid (Below w.heap.size w w1) := hb
  clear hm hlo hb HN
  go_wp2_with fail
  refine Calls.mono (HOf.out w1) ?_
  rintro e w2 ⟨rfl, hb2⟩
  have HB2 : Hid (Below w1.heap.size w1 w2) := hb2
  clear hb2
  go_wp2_with fail
  refine Calls.mono (HBg.out w2) ?_
  rintro e w3 ⟨rfl, hb3⟩
  have HB3 : Hid (Below w1.heap.size w1 w3) := HB2.out.trans (hb3.mono HB2.out.size)
  have HM3 : Hid (Mt w3 B (Me.new 2) who 0) := Mt.below HMt.out HB3.out
  clear hb3
  go_wp2_with fail
  refine Calls.mono (HA1.out w3 B who HM3.out) ?_
  rintro e w4 ⟨who4, rfl, ha⟩
  have HB4 : Hid (Below w.heap.size w w4) := ha.2.2.below (HB1.out.trans (HB3.out.mono HB1.out.size)) HLo.out
  have HL4 : Hid (∀ i, i < w.heap.size → who4 i = 0) := fun i hi => ha.2.1 i (by have := HB1.out.size; have := HB3.out.size; omega) (HLo.out i hi)
  have HM4 : Hid (Mt w4 B Q1 who4 1) := ha.1
  clear ha HA1 HBg HOf
  obtain ⟨w5, hw5⟩ : ∃ w5, w5 = w4.alloc (.cells #[.int .i64 120, .int .i64 1, .slice none 0 0] 32) := ⟨_, rfl⟩
  obtain ⟨b3, hb3⟩ : ∃ b3, b3 = w4.heap.size := ⟨_, rfl⟩
  have hx5 : Below w4.heap.size w4 w5 := by rw [hw5]; exact below_alloc _ _
  have HM5 : Hid (Mt w5 B Q1 who4 1) := Mt.below HM4.out hx5
  have HX5 : Hid (Below w4.heap.size w4 w5) := hx5
  have HC3 : Hid (b3 < w5.heap.size ∧ who4 b3 = 0 ∧ w.heap.size ≤ b3 ∧ ∀ j, w5.cell? ⟨b3, j, none⟩ = (#[.int .i64 120, .int .i64 1, .slice none 0 0] : Array Value)[j]?) := by
    refine ⟨by rw [hw5, hb3]; simp, Classical.byContradiction fun h => by have := Mt.here HM4.out b3 h; omega, by rw [hb3]; exact HB4.out.size, fun j => ?_⟩
    rw [hw5, hb3]
    exact World.cell?_alloc_mark w4 _ _ _ j
  go_wp2_with fail
  rw [← hw5]
  try rw [← hb3]
  clear hw5 hb3 hx5
  refine Calls.mono (HTd.out w5 B who4 HM5.out) ?_
  rintro e w6 ⟨p, c, rfl, hb6⟩
  have HX6 : Hid (Below w5.heap.size w5 w6) := hb6
  clear hb6 HTd
  have hone16 : (#[.int .i64 1, .int .i64 5, .int .i64 1, .int .i64 7, .string ⟨#[]⟩, .string ⟨#[]⟩, .string ⟨#[97, 110, 110]⟩, .string ⟨#[]⟩, .string ⟨#[]⟩, .string ⟨#[]⟩, .int .i64 0, .int .i64 0, .bool false, .bool false, .slice p 16 c, .string ⟨#[]⟩] : Array Value).all (·.oneCell') = true := by
    refine all_oneCell_toArray (fun x hx => ?_)
    simp only [List.mem_cons, List.not_mem_nil, or_false] at hx
    rcases hx with rfl | rfl | rfl | rfl | rfl | rfl | rfl | rfl | rfl | rfl | rfl | rfl | rfl | rfl | rfl | rfl <;> rfl
  obtain ⟨w7, hw7⟩ : ∃ w7, w7 = w6.alloc (.cells #[.int .i64 1, .int .i64 5, .int .i64 1, .int .i64 7, .string ⟨#[]⟩, .string ⟨#[]⟩, .string ⟨#[97, 110, 110]⟩, .string ⟨#[]⟩, .string ⟨#[]⟩, .string ⟨#[]⟩, .int .i64 0, .int .i64 0, .bool false, .bool false, .slice p 16 c, .string ⟨#[]⟩] 54) := ⟨_, rfl⟩
  obtain ⟨b4, hb4⟩ : ∃ b4, b4 = w6.heap.size := ⟨_, rfl⟩
  have hx7 : Below w6.heap.size w6 w7 := by rw [hw7]; exact below_alloc _ _
  have HX7 : Hid (Below w5.heap.size w5 w7) := HX6.out.trans (hx7.mono HX6.out.size)
  have HM7 : Hid (Mt w7 B Q1 who4 1) := Mt.below HM5.out HX7.out
  have HC4 : Hid (b4 < w7.heap.size ∧ who4 b4 = 0 ∧ ∀ j, w7.cell? ⟨b4, j, none⟩ = (#[.int .i64 1, .int .i64 5, .int .i64 1, .int .i64 7, .string ⟨#[]⟩, .string ⟨#[]⟩, .string ⟨#[97, 110, 110]⟩, .string ⟨#[]⟩, .string ⟨#[]⟩, .string ⟨#[]⟩, .int .i64 0, .int .i64 0, .bool false, .bool false, .slice p 16 c, .string ⟨#[]⟩] : Array Value)[j]?) := by
    refine ⟨by rw [hw7, hb4]; simp, Classical.byContradiction fun h => by have := Mt.here HM5.out b4 h; have := HX6.out.size; omega, fun j => ?_⟩
    rw [hw7, hb4]
    exact World.cell?_alloc_mark w6 _ _ _ j
  go_wp2_with (first | (refine wpList_store_row rfl 54 (.tmp 4) (.tmp 26) rfl w6.heap.size _ rfl rfl 54 _ (heap_alloc_new w6 _) todInfo rfl hone16 ?_; rw [setRowN, ← hw7, ← hb4]; clear hw7 hb4))
  refine Calls.mono (HA2.out w7 B who4 HM7.out) ?_
  rintro e w8 ⟨who8, rfl, ha⟩
  have HK8 : Hid (KeptQ who4 w7 w8) := ha.2.2
  have HM8 : Hid (Mt w8 B Q2 who8 2) := ha.1
  have HZ8 : Hid (∀ k, k < w7.heap.size → who4 k = 0 → who8 k = 0) := ha.2.1
  clear ha HA2 hx7 hone16
  obtain ⟨w9, hw9⟩ : ∃ w9, w9 = w8.alloc (.cells #[.int .i64 0, .int .i64 1, .slice none 0 0] 32) := ⟨_, rfl⟩
  obtain ⟨b6, hb6⟩ : ∃ b6, b6 = w8.heap.size := ⟨_, rfl⟩
  have hx9 : Below w8.heap.size w8 w9 := by rw [hw9]; exact below_alloc _ _
  have HX9 : Hid (Below w8.heap.size w8 w9) := hx9
  have HM9 : Hid (Mt w9 B Q2 who8 2) := Mt.below HM8.out hx9
  have HC6 : Hid (b6 < w9.heap.size ∧ ∀ j, w9.cell? ⟨b6, j, none⟩ = (#[.int .i64 0, .int .i64 1, .slice none 0 0] : Array Value)[j]?) := by
    refine ⟨by rw [hw9, hb6]; simp, fun j => ?_⟩
    rw [hw9, hb6]
    exact World.cell?_alloc_mark w8 _ _ _ j
  go_wp2_with fail
  rw [← hw9]
  try rw [← hb6]
  clear hw9 hb6 hx9
  refine Calls.mono (HPl.out w9 B who8 HM9.out) ?_
  rintro e w10 ⟨rfl, hb10⟩
  have HX10 : Hid (Below w9.heap.size w9 w10) := hb10
  clear hb10 HPl
  have hone7 : (#[.int .i64 1, .int .i64 0, .int .i64 1, .int .i64 2, .int .i64 1, .bool false, .string ⟨#[]⟩] : Array Value).all (·.oneCell') = true := by
    refine all_oneCell_toArray (fun x hx => ?_)
    simp only [List.mem_cons, List.not_mem_nil, or_false] at hx
    rcases hx with rfl | rfl | rfl | rfl | rfl | rfl | rfl <;> rfl
  have hi7 : (Try.prog.info? 41).map (·.size) = some 7 := by kernel_rfl
  obtain ⟨w11, hw11⟩ : ∃ w11, w11 = w10.alloc (.cells #[.int .i64 1, .int .i64 0, .int .i64 1, .int .i64 2, .int .i64 1, .bool false, .string ⟨#[]⟩] 41) := ⟨_, rfl⟩
  obtain ⟨b7, hb7⟩ : ∃ b7, b7 = w10.heap.size := ⟨_, rfl⟩
  have hx11 : Below w10.heap.size w10 w11 := by rw [hw11]; exact below_alloc _ _
  have HX11 : Hid (Below w9.heap.size w9 w11) := HX10.out.trans (hx11.mono HX10.out.size)
  have HM11 : Hid (Mt w11 B Q2 who8 2) := Mt.below HM9.out HX11.out
  have hc7 : ∀ j, w11.cell? ⟨b7, j, none⟩ = (#[.int .i64 1, .int .i64 0, .int .i64 1, .int .i64 2, .int .i64 1, .bool false, .string ⟨#[]⟩] : Array Value)[j]? := fun j => by rw [hw11, hb7]; exact World.cell?_alloc_mark w10 _ _ _ j
  have hX8 : ∀ k, k < w8.heap.size → w11.heap[k]? = w8.heap[k]? := fun k hk => (HX11.out.block k (Nat.lt_of_lt_of_le hk HX9.out.size)).trans (HX9.out.block k hk)
  have hX7 : ∀ k, k < w7.heap.size → who4 k = 0 → w11.heap[k]? = w7.heap[k]? := fun k hk hz => (hX8 k (Nat.lt_of_lt_of_le hk HK8.out.size)).trans (HK8.out.block k hk hz)
  have hc3 : ∀ j, w11.cell? ⟨b3, j, none⟩ = (#[.int .i64 120, .int .i64 1, .slice none 0 0] : Array Value)[j]? := fun j => by
    obtain ⟨h1, h2, h3, h4⟩ := HC3.out
    rw [World.cell?_of_block (a := ⟨b3, j, none⟩) ((hX7 b3 (Nat.lt_of_lt_of_le h1 HX7.out.size) h2).trans (HX7.out.block b3 h1))]
    exact h4 j
  have hc4 : ∀ j, w11.cell? ⟨b4, j, none⟩ = (#[.int .i64 1, .int .i64 5, .int .i64 1, .int .i64 7, .string ⟨#[]⟩, .string ⟨#[]⟩, .string ⟨#[97, 110, 110]⟩, .string ⟨#[]⟩, .string ⟨#[]⟩, .string ⟨#[]⟩, .int .i64 0, .int .i64 0, .bool false, .bool false, .slice p 16 c, .string ⟨#[]⟩] : Array Value)[j]? := fun j => by
    obtain ⟨h1, h2, h4⟩ := HC4.out
    rw [World.cell?_of_block (a := ⟨b4, j, none⟩) (hX7 b4 h1 h2)]
    exact h4 j
  have hc6 : ∀ j, w11.cell? ⟨b6, j, none⟩ = (#[.int .i64 0, .int .i64 1, .slice none 0 0] : Array Value)[j]? := fun j => by
    rw [World.cell?_of_block (a := ⟨b6, j, none⟩) (HX11.out.block b6 HC6.out.1)]
    exact HC6.out.2 j
  have HEnd : Hid (Below w.heap.size w w11) := by
    have h7 : Below w.heap.size w w7 := HB4.out.trans ((HX5.out.trans (HX7.out.mono HX5.out.size)).mono HB4.out.size)
    have h8 : Below w.heap.size w w8 := HK8.out.below h7 HL4.out
    exact h8.trans ((HX9.out.trans (HX11.out.mono HX9.out.size)).mono h8.size)
  have u30 := hc3 0
  have u31 := hc3 1
  have v0 := hc4 0
  have v12 := hc4 12
  have v14 := hc4 14
  have x0 := hc6 0
  have x1 := hc6 1
  have z0 := hc7 0
  have z1 := hc7 1
  have z2 := hc7 2
  have z3 := hc7 3
  have z4 := hc7 4
  have z5 := hc7 5
  have z6 := hc7 6
  simp at u30 u31 v0 v12 v14 x0 x1 z0 z1 z2 z3 z4 z5 z6
  clear hx11 hc3 hc4 hc6 hc7 hX7 hX8
  go_wp2_with (first
    | (refine wpList_store_row rfl 41 (.tmp 7) (.tmp 34) rfl w10.heap.size _ rfl rfl 41 _ (heap_alloc_new w10 _) hi7 rfl hone7 ?_; rw [setRowN, ← hw11, ← hb7]; clear hw11 hb7)
    | (go_at_call 13; refine Calls.mono (HWt.out w11 B who8 HM11.out) ?_; rintro e wz ⟨rfl, hz⟩; have hz := hz.symm; subst hz))
  go_ret
  exact ⟨rfl, HEnd.out⟩
end Go.Proofs.Ytepbmfjimppgcaa
