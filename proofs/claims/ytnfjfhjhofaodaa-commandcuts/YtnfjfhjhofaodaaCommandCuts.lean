/-
  For every command, every cut, every byte: CommandCuts answers true: bytes of a command, cut ahead of their end or with a byte behind them, are none; the arguments read afterwards as before. No condition.
-/
import Derived.Test.YtnfjfhjhofaodaaCmCutM
import Derived.Test.YtnfjfhjhofaodaaDkMask
import Derived.ProofKit
import Derived.OpenShut
import Derived.ShutString
import Derived.SizedLaws
namespace Go.Proofs.Ytnfjfhjhofaodaa.commandCuts
open Go.ChangeShapes Go.WideShapes Go.ChangeAt Go.RowKit
open Go.ChangeMaps (open_string shut_string)

theorem bigBelow {u X Y : World} (h : Below u.heap.size u X) (h2 : Below X.heap.size X Y) : Below u.heap.size u Y := h.trans ⟨h2.os, h2.tape, h2.output, h2.size, fun k hk => h2.block k (Nat.lt_of_lt_of_le hk h.size)⟩

/-- A text of one byte. -/
theorem conv1 (b : Int) (h0 : 0 ≤ b) (h1 : b < 256) (X : World) : (convert 63 9 (.slice (some ⟨X.heap.size, 0, none⟩) 1 1)).run Try.prog (X.alloc (.cells #[.int .u8 b] 5)) = .ok (.string ⟨#[b.toNat.toUInt8]⟩) (X.alloc (.cells #[.int .u8 b] 5)) := by
  refine run_convert_bytes_back (P := Try.prog) _ 63 9 5 ⟨X.heap.size, 0, none⟩ 1 [b.toNat.toUInt8] Try.underlying63 Try.underlying5 Try.underlying9 ?_
  intro j hj
  have hj0 : j = 0 := by simp at hj; omega
  subst hj0
  rw [addr_add0, World.cell?_alloc_mark]
  simp
  omega

/-- What was stored ahead of the second call is there behind it. -/
theorem lookA {w6 w8 : World} {xs zs : Array Value} {y : Value} {t t2 : TypeId} (h : Below ((w6.alloc (.cells xs t)).alloc (.cells #[y] t2)).heap.size ((w6.alloc (.cells xs t)).alloc (.cells #[y] t2)) w8) : (w8.alloc (.cells zs t)).heap[w6.heap.size]? = some (.cells xs t) := by
  have h1 := h.size
  simp at h1
  rw [(alloc_below w8 _).block _ (by omega), h.block _ (by simp; omega), (alloc_below _ _).block _ (by simp)]
  exact heap_alloc_new _ _

set_option maxHeartbeats 1600000 in
set_option maxRecDepth 100000 in
theorem walk (c : CmdD) (cut by_ : Int) (w : World) (bc : c.Ok) (_b1 : -9223372036854775808 ≤ cut ∧ cut ≤ 9223372036854775807) (_b2 : -9223372036854775808 ≤ by_ ∧ by_ ≤ 9223372036854775807) :
    Calls Try.prog 8 #[.agg c.cells.toArray, .int .i64 cut, .int .i64 by_] w fun e w' => e = .returned (.bool true) ∧ Below w.heap.size w w' := by
  obtain ⟨u, hu⟩ : ∃ u, u = w.alloc (.cells c.cells.toArray 55) := ⟨_, rfl⟩
  have hus : u.heap.size = w.heap.size + 1 := by rw [hu]; simp
  have hbw : Below w.heap.size w u := by rw [hu]; exact alloc_below w _
  have hc0 : u.heap[w.heap.size]? = some (.cells c.cells.toArray 55 (0, 0)) := by rw [hu]; exact heap_alloc_new _ _
  have HC : Hid (∀ X, Below u.heap.size u X → X.heap[w.heap.size]? = some (.cells c.cells.toArray 55 (0, 0))) := fun X h => by rw [h.block _ (by omega)]; exact hc0
  have HOC : Hid (∀ X, Below u.heap.size u X → X.rangeAt w.heap.size 3 c.op.cells ∧ X.cell? ⟨w.heap.size, 19, none⟩ = some (.string c.data)) := fun X h => by
    have ha := At.of_block (HC.out X h)
    refine ⟨fun j v hj => ?_, ?_⟩
    · have := (ha.cmdOp j v hj).1
      simpa using this
    · have := (ha 19 (.string c.data) rfl).1
      simpa using this
  have HSc : Hid (∀ X, Below u.heap.size u X → Calls Try.prog 19 #[.agg c.op.cells.toArray] X fun e w' => e = .returned (.bool (shortB c.op)) ∧ Below u.heap.size u w') := fun X h => (short_c c.op X).mono fun e w' ⟨a, b⟩ => ⟨a, bigBelow h b⟩
  have HAw : Hid (∀ X, Below u.heap.size u X → Calls Try.prog 21 #[] X fun e w' => e = .returned (.bool true) ∧ Below u.heap.size u w') := fun X h => (awake_c X).mono fun e w' ⟨a, b⟩ => ⟨a, bigBelow h b⟩
  have HPc : Hid (∀ X, Below u.heap.size u X → Calls Try.prog 22 #[.agg c.cells.toArray] X fun e w' => e = .returned (.tuple #[.string (putS ⟨#[67]⟩ (Cm.enc c.pss.flatten)), .int .i64 (putE (Cm.enc c.pss.flatten))]) ∧ Below u.heap.size u w') := fun X h => (Put_c c bc X).mono fun e w' ⟨a, b⟩ => ⟨by rw [a, putO_eq], bigBelow h b⟩
  have HEnd : Hid (∀ X, Below u.heap.size u X → Below w.heap.size w X) := fun X h => hbw.trans ⟨h.os, h.tape, h.output, h.size, fun k hk => h.block k (by omega)⟩
  have hi : (Try.prog.info? 55).map (·.size) = some c.cells.toArray.size := by
    have h0 : (Try.prog.info? 55).map (·.size) = some 20 := by kernel_rfl
    exact h0
  have hi3 : (Try.prog.info? 53).map (·.size) = some c.op.cells.length := by
    have h0 : (Try.prog.info? 53).map (·.size) = some 9 := by kernel_rfl
    exact h0
  have hb0 : Below u.heap.size u u := Below.refl _ _
  rw [hu] at HC HOC HSc HAw HPc HEnd hb0
  clear hus hbw hc0 hu bc _b1 _b2
  cases g0 : shortB c.op with
  | false =>
    go_enter Try.func8, Try.ntmps8
    go_wp2_with (first
    | (go_at_call 19; refine (HSc.out _ (by assumption)).mono ?_; rintro e w1 ⟨rfl, hb1⟩; have q1 := (HOC.out _ hb1).2)
    | (go_at_call 20; refine (light_c _ _).mono ?_; rintro e w3 ⟨rfl, h3⟩; subst h3)
    | (go_at_call 21; refine (HAw.out _ (by assumption)).mono ?_; rintro e w4 ⟨rfl, hb4⟩; have HB4 := hidden (HEnd.out _ hb4))
    | (go_at_call 22; refine (HPc.out _ (by assumption)).mono ?_; rintro e w5 ⟨rfl, hb5⟩)
    | (refine wpList_load_mid rfl 53 (.tmp 14) rfl w.heap.size 3 rfl c.op.cells _ (HOC.out _ (by assumption)).1 Try.underlying53 rfl hi3 ?_)
    | (refine wpList_load_row rfl 55 (.tmp 3) rfl w.heap.size rfl 55 c.cells.toArray (0, 0) _ (HC.out _ (by assumption)) Try.underlying55 rfl hi ?_))
    go_ret
    exact ⟨rfl, HB4.out⟩
  | true =>
    cases g1 : lightB c.data with
    | false =>
      go_enter Try.func8, Try.ntmps8
      go_wp2_with (first
    | (go_at_call 19; refine (HSc.out _ (by assumption)).mono ?_; rintro e w1 ⟨rfl, hb1⟩; have q1 := (HOC.out _ hb1).2)
    | (go_at_call 20; refine (light_c _ _).mono ?_; rintro e w3 ⟨rfl, h3⟩; subst h3)
    | (go_at_call 21; refine (HAw.out _ (by assumption)).mono ?_; rintro e w4 ⟨rfl, hb4⟩; have HB4 := hidden (HEnd.out _ hb4))
    | (go_at_call 22; refine (HPc.out _ (by assumption)).mono ?_; rintro e w5 ⟨rfl, hb5⟩)
    | (refine wpList_load_mid rfl 53 (.tmp 14) rfl w.heap.size 3 rfl c.op.cells _ (HOC.out _ (by assumption)).1 Try.underlying53 rfl hi3 ?_)
    | (refine wpList_load_row rfl 55 (.tmp 3) rfl w.heap.size rfl 55 c.cells.toArray (0, 0) _ (HC.out _ (by assumption)) Try.underlying55 rfl hi ?_))
      go_ret
      exact ⟨rfl, HB4.out⟩
    | true =>
      cases hx : Cm.enc c.pss.flatten with
      | none =>
        rw [hx] at HPc
        have e1 : putE none = 1 := rfl
        rw [e1] at HPc
        generalize putS ⟨#[67]⟩ none = S2 at *
        clear hx e1
        go_enter Try.func8, Try.ntmps8
        go_wp2_with (first
    | (go_at_call 19; refine (HSc.out _ (by assumption)).mono ?_; rintro e w1 ⟨rfl, hb1⟩; have q1 := (HOC.out _ hb1).2)
    | (go_at_call 20; refine (light_c _ _).mono ?_; rintro e w3 ⟨rfl, h3⟩; subst h3)
    | (go_at_call 21; refine (HAw.out _ (by assumption)).mono ?_; rintro e w4 ⟨rfl, hb4⟩; have HB4 := hidden (HEnd.out _ hb4))
    | (go_at_call 22; refine (HPc.out _ (by assumption)).mono ?_; rintro e w5 ⟨rfl, hb5⟩)
    | (refine wpList_load_mid rfl 53 (.tmp 14) rfl w.heap.size 3 rfl c.op.cells _ (HOC.out _ (by assumption)).1 Try.underlying53 rfl hi3 ?_)
    | (refine wpList_load_row rfl 55 (.tmp 3) rfl w.heap.size rfl 55 c.cells.toArray (0, 0) _ (HC.out _ (by assumption)) Try.underlying55 rfl hi ?_))
        go_ret
        exact ⟨rfl, HB4.out⟩
      | some bs =>
        rw [hx] at HPc
        have e1 : putE (some bs) = 0 := rfl
        rw [e1] at HPc
        have hl := cmd_len c hx
        have hSd : (putS ⟨#[67]⟩ (some bs)).data.toList = 67 :: bs := by unfold putS; simp
        have hcut := fun (k : Nat) (hk : k < bs.length + 1) => takeX_cut c hx hk
        have hmore := fun (b : UInt8) => takeX_more c hx b
        generalize putS ⟨#[67]⟩ (some bs) = S at *
        have hSn : S.size = bs.length + 1 := by rw [← Cm.toL_len, hSd]; rfl
        obtain ⟨r, hr⟩ : ∃ r, r = Int.tmod cut (S.size : Int) := ⟨_, rfl⟩
        have hrn : r.natAbs < S.size := by
          rw [hr, Int.natAbs_tmod]
          have : (S.size : Int).natAbs = S.size := Int.natAbs_natCast _
          rw [this]
          exact Nat.mod_lt _ (by omega)
        obtain ⟨k, hk⟩ : ∃ k : Nat, k = r.natAbs := ⟨_, rfl⟩
        have hkn : k < S.size := by omega
        obtain ⟨Ta, hTa⟩ : ∃ T, T = S.extract 0 k := ⟨_, rfl⟩
        have hsl := run_to S k (by omega)
        rw [← hTa] at hsl
        have HFa : Hid (∀ X, Below (w.alloc (.cells c.cells.toArray 55)).heap.size (w.alloc (.cells c.cells.toArray 55)) X → Calls Try.prog 23 #[.string Ta] X fun e w' => e = .returned (.tuple #[.agg zCmd.cells.toArray, .int .i64 140]) ∧ Below (w.alloc (.cells c.cells.toArray 55)).heap.size (w.alloc (.cells c.cells.toArray 55)) w') := fun X h => (From_no Ta (by rw [hTa, ByteArray.size_extract]; omega) (by rw [hTa, Cm.toL_take, hSd]; exact hcut k (by omega)) X).mono fun e w' ⟨a, b⟩ => ⟨a, bigBelow h b⟩
        have hand := and_255 by_
        obtain ⟨y, hy⟩ : ∃ y, y = by_ % 256 := ⟨_, rfl⟩
        have hy0 : 0 ≤ y ∧ y < 256 := by rw [hy]; omega
        rw [← hy] at hand
        obtain ⟨Tb, hTb⟩ : ∃ T, T = S ++ (⟨#[y.toNat.toUInt8]⟩ : ByteArray) := ⟨_, rfl⟩
        have hcv : ∀ w6 : World, (convert 63 9 (.slice (some ⟨w6.heap.size + 1, 0, none⟩) 1 1)).run Try.prog ((w6.alloc (.cells zCmd.cells.toArray 55)).alloc (.cells #[.int .u8 y] 5)) = .ok (.string ⟨#[y.toNat.toUInt8]⟩) ((w6.alloc (.cells zCmd.cells.toArray 55)).alloc (.cells #[.int .u8 y] 5)) := fun w6 => by
          have := conv1 y hy0.1 hy0.2 (w6.alloc (.cells zCmd.cells.toArray 55))
          rwa [show (w6.alloc (.cells zCmd.cells.toArray 55)).heap.size = w6.heap.size + 1 from by simp] at this
        have hadd : ∀ W, (Op.stringOp .add S ⟨#[y.toNat.toUInt8]⟩).run Try.prog W = .ok (.string Tb) W := fun W => by rw [hTb]; exact run_string_add_sum (P := Try.prog) (w := W) S ⟨#[y.toNat.toUInt8]⟩ (by rw [hSn]; show _ + 1 ≤ _; omega)
        have HFb : Hid (∀ X, Below (w.alloc (.cells c.cells.toArray 55)).heap.size (w.alloc (.cells c.cells.toArray 55)) X → Calls Try.prog 23 #[.string Tb] X fun e w' => e = .returned (.tuple #[.agg zCmd.cells.toArray, .int .i64 140]) ∧ Below X.heap.size X w') := fun X h => From_no Tb (by
          rw [hTb, ByteArray.size_append, hSn]
          show _ + 1 ≤ _
          omega) (by
          have : (S ++ (⟨#[y.toNat.toUInt8]⟩ : ByteArray)).data.toList = (67 :: bs) ++ [y.toNat.toUInt8] := by rw [← hSd]; simp
          rw [hTb, this]
          exact hmore _) X
        have hne : ((S.size : Int) == 0) = false := by rw [beq_eq_false_iff_ne]; omega
        have hnz : ¬ (S.size : Int) = 0 := by omega
        have hone := zCmd.one
        have hiz : (Try.prog.info? 55).map (·.size) = some zCmd.cells.toArray.size := hi
        have heq : ∀ W : World, (binOp .eql 55 (.agg zCmd.cells.toArray) (.agg #[.int .i64 0, .int .i64 0, .int .i64 0, .int .i64 0, .string ⟨#[]⟩, .string ⟨#[]⟩, .string ⟨#[]⟩, .string ⟨#[]⟩, .string ⟨#[]⟩, .string ⟨#[]⟩, .int .i64 0, .int .i64 0, .int .i64 0, .int .i64 0, .int .i64 0, .int .i64 0, .int .i64 0, .bool false, .int .i64 0, .string ⟨#[]⟩])).run Try.prog W = .ok (.bool true) W := fun W => by
          have h1 := same_cmd zCmd zCmd W
          have h2 : cmdEq zCmd zCmd = true := (cmdEq_iff _ _).2 rfl
          rw [h2] at h1
          exact h1
        have hw8 : IntKind.u8.wrap y = y := by simp [IntKind.wrap, IntKind.bits, IntKind.signed]; omega
        have hkk : (k : Int) = r ∨ (k : Int) = -r := by rw [hk]; omega
        have hrr : r < 0 → wrap64 (-(Int.tmod cut (S.size : Int))) = (k : Int) := fun h => by
          rw [← hr]
          have e2 : -r = (k : Int) := by omega
          rw [e2]
          exact IntWalk.wrap64_in _ ⟨by omega, by omega⟩
        have hrp : ¬ r < 0 → Int.tmod cut (S.size : Int) = (k : Int) := fun h => by rw [← hr]; omega
        by_cases hneg : r < 0
        · have hkr := hrr hneg
          rw [hr] at hneg
          clear hx e1 hl hSd hcut hmore hSn hTa hTb hy0 hy hrn hkn hr hk hkk hrr hrp
          go_enter Try.func8, Try.ntmps8
          go_wp2_with (first
    | (go_at_call 19; refine (HSc.out _ (by assumption)).mono ?_; rintro e w1 ⟨rfl, hb1⟩; have q1 := (HOC.out _ hb1).2)
    | (go_at_call 20; refine (light_c _ _).mono ?_; rintro e w3 ⟨rfl, h3⟩; subst h3)
    | (go_at_call 21; refine (HAw.out _ (by assumption)).mono ?_; rintro e w4 ⟨rfl, hb4⟩; have HB4 := hidden (HEnd.out _ hb4))
    | (go_at_call 22; refine (HPc.out _ (by assumption)).mono ?_; rintro e w5 ⟨rfl, hb5⟩)
    | (refine wpList_load_mid rfl 53 (.tmp 14) rfl w.heap.size 3 rfl c.op.cells _ (HOC.out _ (by assumption)).1 Try.underlying53 rfl hi3 ?_)
    | (refine wpList_load_row rfl 55 (.tmp 3) rfl w.heap.size rfl 55 c.cells.toArray (0, 0) _ (HC.out _ (by assumption)) Try.underlying55 rfl hi ?_)
    | (go_at_call_of 23 Ta; refine (HFa.out _ (by assumption)).mono ?_; rintro e w6 ⟨rfl, hb6⟩)
    | (go_at_call_of 23 Tb; refine (HFb.out _ (by assumption)).mono ?_; rintro e w8 ⟨rfl, hb8⟩)
    | (refine wpList_store_row rfl 55 (.tmp 10) (.tmp 55) rfl w6.heap.size _ rfl rfl 55 _ (heap_alloc_new w6 _) hiz rfl hone ?_; rw [setRow_new]; have hb7 := bigBelow hb6 (alloc_below w6 (.cells zCmd.cells.toArray 55)); have hb7b := bigBelow hb7 (alloc_below (w6.alloc (.cells zCmd.cells.toArray 55)) (.cells #[.int .u8 y] 5)))
    | (refine wpList_store_row rfl 55 (.tmp 12) (.tmp 66) rfl w8.heap.size _ rfl rfl 55 _ (heap_alloc_new w8 _) hiz rfl hone ?_; rw [setRow_new]; have hb9 := bigBelow (bigBelow hb7b hb8) (alloc_below w8 (.cells zCmd.cells.toArray 55)); have hA2 := lookA (zs := zCmd.cells.toArray) hb8)
    | (refine wpList_load_row rfl 55 (.tmp 10) rfl w6.heap.size rfl 55 zCmd.cells.toArray (0, 0) _ hA2 Try.underlying55 rfl hiz ?_)
    | (refine wpList_wants (by rfl) fun K hK => wp_load_row 55 (.tmp 12) rfl w8.heap.size rfl 55 zCmd.cells.toArray (0, 0) _ (heap_alloc_new w8 _) Try.underlying55 rfl hiz (hK _ _ ?_)))
          go_ret
          exact ⟨rfl, HB4.out⟩
        · have hkr := hrp hneg
          have hk0 : ¬ (k : Int) < 0 := by omega
          clear hx e1 hl hSd hcut hmore hSn hTa hTb hy0 hy hrn hkn hr hk hkk hrr hrp hneg
          go_enter Try.func8, Try.ntmps8
          go_wp2_with (first
    | (go_at_call 19; refine (HSc.out _ (by assumption)).mono ?_; rintro e w1 ⟨rfl, hb1⟩; have q1 := (HOC.out _ hb1).2)
    | (go_at_call 20; refine (light_c _ _).mono ?_; rintro e w3 ⟨rfl, h3⟩; subst h3)
    | (go_at_call 21; refine (HAw.out _ (by assumption)).mono ?_; rintro e w4 ⟨rfl, hb4⟩; have HB4 := hidden (HEnd.out _ hb4))
    | (go_at_call 22; refine (HPc.out _ (by assumption)).mono ?_; rintro e w5 ⟨rfl, hb5⟩)
    | (refine wpList_load_mid rfl 53 (.tmp 14) rfl w.heap.size 3 rfl c.op.cells _ (HOC.out _ (by assumption)).1 Try.underlying53 rfl hi3 ?_)
    | (refine wpList_load_row rfl 55 (.tmp 3) rfl w.heap.size rfl 55 c.cells.toArray (0, 0) _ (HC.out _ (by assumption)) Try.underlying55 rfl hi ?_)
    | (go_at_call_of 23 Ta; refine (HFa.out _ (by assumption)).mono ?_; rintro e w6 ⟨rfl, hb6⟩)
    | (go_at_call_of 23 Tb; refine (HFb.out _ (by assumption)).mono ?_; rintro e w8 ⟨rfl, hb8⟩)
    | (refine wpList_store_row rfl 55 (.tmp 10) (.tmp 55) rfl w6.heap.size _ rfl rfl 55 _ (heap_alloc_new w6 _) hiz rfl hone ?_; rw [setRow_new]; have hb7 := bigBelow hb6 (alloc_below w6 (.cells zCmd.cells.toArray 55)); have hb7b := bigBelow hb7 (alloc_below (w6.alloc (.cells zCmd.cells.toArray 55)) (.cells #[.int .u8 y] 5)))
    | (refine wpList_store_row rfl 55 (.tmp 12) (.tmp 66) rfl w8.heap.size _ rfl rfl 55 _ (heap_alloc_new w8 _) hiz rfl hone ?_; rw [setRow_new]; have hb9 := bigBelow (bigBelow hb7b hb8) (alloc_below w8 (.cells zCmd.cells.toArray 55)); have hA2 := lookA (zs := zCmd.cells.toArray) hb8)
    | (refine wpList_load_row rfl 55 (.tmp 10) rfl w6.heap.size rfl 55 zCmd.cells.toArray (0, 0) _ hA2 Try.underlying55 rfl hiz ?_)
    | (refine wpList_wants (by rfl) fun K hK => wp_load_row 55 (.tmp 12) rfl w8.heap.size rfl 55 zCmd.cells.toArray (0, 0) _ (heap_alloc_new w8 _) Try.underlying55 rfl hiz (hK _ _ ?_)))
          go_ret
          exact ⟨rfl, HB4.out⟩

theorem laidOut : laidOutB Try.prog = true := by kernel_rfl

theorem own : ownKnob Try.prog.godebug = none := by kernel_rfl

set_option maxRecDepth 100000 in
theorem lifted (os : Os) (started : os.Started) (H : Type) (enc : TypeId × Value → H) :
    ReturnsInHanded {} Try.checked os 8 .any (Rows.commandCutsSpec.pre6 enc Try.prog Try.f8 Rows.commandCutsRow.domain false) (Rows.commandCutsSpec.post enc Try.prog Try.f8 false true false false) := by
  refine returnsInHanded_of_change_sized (C := Try.checked) own started (by kernel_rfl) Try.func8
    (ChangeSpec.witness6 (enc := enc) (C := Try.checked) false ⟨#[], #[.agg #[.int .i64 0, .int .i64 0, .int .i64 0, .int .i64 0, .string ByteArray.empty, .string ByteArray.empty, .string ByteArray.empty, .string ByteArray.empty, .string ByteArray.empty, .string ByteArray.empty, .int .i64 0, .int .i64 0, .int .i64 0, .int .i64 0, .int .i64 0, .int .i64 0, .int .i64 0, .bool false, .int .i64 0, .string ByteArray.empty], .int .i64 0, .int .i64 0], []⟩ 8 (by kernel_rfl) (by kernel_rfl) (by kernel_rfl) (by kernel_rfl)) ?_
  intro W base args ds gs before hval0 hW _ hsz0 _
  have hsz : (DataW.weightsEach Try.prog (Try.f8.params.toList ++ Rows.commandCutsSpec.plain.varTypes Try.prog) (ds ++ gs)).all (· ≤ reachBytes) = true := hsz0
  have hval : ∀ (j : Nat) t v, Try.f8.params[j]? = some t → args[j]? = some v → Value.okWide Try.prog W .any base t v := hval0
  have hW' := hW
  obtain ⟨p, q, hA0, hV, rfl, hfz, hnd⟩ := hW
  have hA : DataW.TrodAll enc Try.prog W 0 (fun _ => true) true Try.f8.params.toList args.toList ds p := hA0
  rw [Try.params8] at hA hval hsz
  obtain ⟨v0, vs0, d0, ds0, p0, q0, hargs, rfl, rfl, h0, r0⟩ := trodAll_cons hA
  obtain ⟨v1, vs1, d1, ds1, p1, q1, rfl, rfl, rfl, h1, r1⟩ := trodAll_cons r0
  obtain ⟨v2, vs2, d2, ds2, p2, q2, rfl, rfl, rfl, h2, r2⟩ := trodAll_cons r1
  obtain ⟨rfl, rfl, rfl⟩ := trodAll_nil r2
  obtain rfl : args = #[v0, v1, v2] := by cases args; simp_all
  obtain ⟨rfl, rfl⟩ := trodVars_none hV
  have k0 := h0
  have lt0 : ∀ x ∈ p0, x.block < W.heap.size := by obtain ⟨m, hm⟩ := k0; exact DataW.trod_lt m _ _ _ hm
  obtain ⟨a0, rfl, b0⟩ := open_cmd12 (hval 0 55 v0 rfl rfl) h0
  obtain ⟨a1, rfl, rfl, rfl, w1⟩ := open_int Try.underlying3 (hval 1 3 v1 rfl rfl) h1
  have b1 : -9223372036854775808 ≤ a1 ∧ a1 ≤ 9223372036854775807 := by simpa [Lit.wf, IntKind.min, IntKind.max, IntKind.signed, IntKind.bits] using w1
  obtain ⟨a2, rfl, rfl, rfl, w2⟩ := open_int Try.underlying3 (hval 2 3 v2 rfl rfl) h2
  have b2 : -9223372036854775808 ≤ a2 ∧ a2 ≤ 9223372036854775807 := by simpa [Lit.wf, IntKind.min, IntKind.max, IntKind.signed, IntKind.bits] using w2
  clear hA0 hval0 hsz0
  refine (walk a0 a1 a2 W b0 b1 b2).mono fun e W' ⟨he, bel⟩ => ?_
  subst he
  exact ⟨_, rfl, _, _, _, [], _, [], hW', trodAll_mk1 (shut_bool Try.underlying4 _), (trodAll_cons_mk (Below.trod laidOut (by kernel_rfl) (of_decide_eq_true (by kernel_rfl)) k0 bel lt0) (trodAll_cons_mk (shut_int Try.underlying3 w1) (trodAll_cons_mk (shut_int Try.underlying3 w2) trodAll_mk0))), rfl, bel.frame _, fun h => by cases h⟩

theorem over : Rows.commandCutsRow.holds Try.pinned (OpenSpec.ofChange Rows.commandCutsSpec) :=
  OpenClaim.holds_of_wide 8 Try.f8 rfl rfl rfl rfl rfl rfl rfl ⟨rfl, rfl, rfl, rfl, rfl⟩ rfl rfl rfl rfl rfl (by kernel_rfl) Try.func8 (by kernel_rfl)
    (of_decide_eq_true (by kernel_rfl)) (by unfold Func.isWrapper; first | (rw [if_pos (by decide +kernel)]; kernel_rfl) | (rw [if_neg (by decide +kernel)]; exact ⟨rfl, rfl⟩))
    (fun os started H enc _ => lifted os started H enc)


end Go.Proofs.Ytnfjfhjhofaodaa.commandCuts
namespace Go.Proofs.Ytnfjfhjhofaodaa
/-- The statement. -/
theorem commandCuts_holds : Rows.CommandCutsSaid := commandCuts.over
end Go.Proofs.Ytnfjfhjhofaodaa
