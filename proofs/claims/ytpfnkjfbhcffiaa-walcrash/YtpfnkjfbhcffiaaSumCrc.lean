/-
  What Crc does, the program's and the document's: the sum of the bytes; nothing that was there is changed.
-/
import Derived.Test.YtpfnkjfbhcffiaaRows
import Derived.Test.YtpfnkjfbhcffiaaSumOwn
import Derived.Laws.ResultCell
import Derived.Deep.WholeRow
namespace Go.Proofs.Ytpfnkjfbhcffiaa
open Go.RowKit

theorem half_odd {v : Nat} (h : (v : Int) % 2 = 1) : S.half v = v / 2 ^^^ 2197175160 := by
  unfold S.half
  rw [if_pos (by omega)]
theorem half_even {v : Nat} (h : ¬ (v : Int) % 2 = 1) : S.half v = v / 2 := by
  unfold S.half
  rw [if_neg (by omega)]
theorem odd64 {v : Nat} (hv : v < 4294967296) (h : (v : Int) % 2 = 1) : bits BinOp.xor IntKind.i64 (wrap64 ((v : Int) / 2)) 2197175160 = ((S.half v : Nat) : Int) := by
  rw [IntWalk.wrap64_in _ (by omega), half_odd h, ← xor64 _ _ (by omega) (by omega)]
  rfl
theorem even64 {v : Nat} (hv : v < 4294967296) (h : ¬ (v : Int) % 2 = 1) : wrap64 ((v : Int) / 2) = ((S.half v : Nat) : Int) := by
  rw [IntWalk.wrap64_in _ (by omega), half_even h]
  rfl
theorem it32 {j v n : Nat} {b : UInt8} {l : List UInt8} (hv : v = S.it j (n ^^^ b.toNat)) (hn : n = S.fold 4294967295 l) : v < 4294967296 := by
  have h1 := S.fold_lt l (c := 4294967295) (by decide)
  have h2 := S.byte_xor_lt n b (by rw [hn]; exact h1)
  rw [hv]
  exact S.it_lt j h2
theorem xor_byte64 {n : Nat} {b : UInt8} {l : List UInt8} (hn : n = S.fold 4294967295 l) : bits BinOp.xor IntKind.i64 (n : Int) (wrap64 (b.toNat : Int)) = ((n ^^^ b.toNat : Nat) : Int) := by
  have h1 := S.fold_lt l (c := 4294967295) (by decide)
  have h2 := b.toNat_lt
  rw [IntWalk.wrap64_in _ (by omega), xor64 n _ (by rw [hn]; exact h1) (by omega)]
theorem crc_end64 {n : Nat} {l : List UInt8} (hn : n = S.fold 4294967295 l) : bits BinOp.xor IntKind.i64 (n : Int) 4294967295 = ((S.crc l : Nat) : Int) := by
  have h1 := S.fold_lt l (c := 4294967295) (by decide)
  unfold S.crc
  rw [← hn, ← xor64 n _ (by rw [hn]; exact h1) (by omega)]
  rfl
theorem fold_next {s : ByteArray} {k n v : Nat} (h : k < s.size) (hn : n = S.fold 4294967295 (s.data.toList.take k)) (hv : v = S.it 8 (n ^^^ s[k].toNat)) : v = S.fold 4294967295 (s.data.toList.take (k + 1)) := by
  rw [take_snoc s k h, S.fold_snoc, ← hn, hv]
  rfl


/-- The table of shares, its first k places filled. -/
def shareRow (k : Nat) : Array Value := ((List.range 256).map fun b => Value.int .u32 (if b < k then ((S.it 8 b : Nat) : Int) else 0)).toArray
theorem shareRow_size (k : Nat) : (shareRow k).size = 256 := by simp [shareRow]
theorem shareRow_at (k b : Nat) (h : b < 256) : (shareRow k)[b]? = some (Value.int .u32 (if b < k then ((S.it 8 b : Nat) : Int) else 0)) := by simp [shareRow, h]
theorem shareRow_one (k : Nat) : (shareRow k).all (·.oneCell') = true := by
  rw [Array.all_eq_true_iff_forall_mem]
  intro v hv
  simp only [shareRow, List.mem_toArray, List.mem_map] at hv
  obtain ⟨b, _, rfl⟩ := hv
  rfl
theorem shareRow_set (k : Nat) (h : k < 256) : (shareRow k).setIfInBounds k (.int .u32 ((S.it 8 k : Nat) : Int)) = shareRow (k + 1) := by
  apply Array.ext_getElem?
  intro i
  rw [Array.getElem?_setIfInBounds]
  by_cases hi : i < 256
  · rw [shareRow_at _ _ hi, shareRow_at _ _ hi, shareRow_size]
    by_cases e : k = i
    · subst e; simp [h]
    · rw [if_neg e]
      have : (i < k) ↔ (i < k + 1) := by omega
      simp [this]
  · rw [if_neg (by omega), Array.getElem?_eq_none (by rw [shareRow_size]; omega), Array.getElem?_eq_none (by rw [shareRow_size]; omega)]
theorem shareRow_zero : Array.replicate 256 (Value.int .u32 0) = shareRow 0 := by
  apply Array.ext_getElem?
  intro i
  by_cases hi : i < 256
  · rw [shareRow_at _ _ hi]; simp [hi]
  · rw [Array.getElem?_eq_none (by simp; omega), Array.getElem?_eq_none (by rw [shareRow_size]; omega)]

/-- A whole row read, a whole row written. -/
theorem wp_load_row {P : Program} {op : Oper} {a : Act} {w : World} {K : Act → World → Prop} {Q : Exit → Act → World → Prop} (ty : TypeId) (x : Operand) (ho : op.op = .load ty x)
    (b : Nat) (hx : a.eval x = .pointer (some ⟨b, 0, none⟩)) (cs : Array Value) (t : TypeId) (fr : Nat × Nat) (d : TypeDesc) (hg : w.heap[b]? = some (.cells cs t fr))
    (hu : P.underlying ty = some d) (hd : (match d with | .struct _ | .array _ _ => true | _ => false) = true) (hi : (P.info? ty).map (·.size) = some cs.size)
    (h : K (a.put op.dst (.agg cs)) w) : op.wp P a w K Q := by
  unfold Oper.wp execOp
  simp only [ho, hx, Instr.loadAt, Instr.sureAddr, Sem.run_bind, Sem.run_pure, Result.andThen_ok, run_loadVar_row w b t ty cs fr d hg hu hd hi]
  exact h
theorem run_storeCells_row {P : Program} (w : World) (b : Nat) (t ty : TypeId) (old cs : Array Value) (hg : w.heap[b]? = some (.cells old t (0, 0)))
    (hi : (P.info? ty).map (·.size) = some cs.size) (hs : old.size = cs.size) (h1 : cs.all (·.oneCell') = true) :
    (storeCells ⟨b, 0, none⟩ cs.toList 0).run P w = .ok () (w.setRow b cs) := by
  have := run_storeVar_row (P := P) w b t ty old cs hg hi hs h1
  cases hq : P.info? ty with
  | none => simp [hq] at hi
  | some i =>
    have hs : cs.size = i.size := by simp [hq] at hi; omega
    simpa [storeVar, sizeOf, typeInfo, hq, Value.cells, hs] using this
theorem heap_alloc_lt (w : World) (o : Obj) {b : Nat} (h : b < w.heap.size) : (w.alloc o).heap[b]? = w.heap[b]? := by
  show (w.heap.push o)[b]? = _
  rw [Array.getElem?_push, if_neg (by omega)]

theorem shareInfo : (Try.prog.info? 134).map (fun i => (i.zero, i.size)) = some (some (.agg (Array.replicate 256 (Value.int .u32 0))), 256) := by kernel_rfl

theorem conv32 {k : Nat} (h : k < 256) : (k : Int) % 4294967296 = (k : Int) := by omega
theorem odd32 {v : Nat} (hv : v < 4294967296) (h : (v : Int) % 2 = 1) : bits BinOp.xor IntKind.u32 ((v : Int) / 2) 2197175160 = ((S.half v : Nat) : Int) := by
  rw [half_odd h, ← xor32 _ _ (by omega) (by omega)]
  rfl
theorem even32 {v : Nat} (h : ¬ (v : Int) % 2 = 1) : (v : Int) / 2 = ((S.half v : Nat) : Int) := by
  rw [half_even h]
  rfl

set_option maxHeartbeats 1000000 in
set_option maxRecDepth 20000 in
theorem sums_shares (w : World) :
    Calls Try.prog 92 #[] w fun e w' => e = .returned (.agg (shareRow 256)) ∧ Below w.heap.size w w' := by
  obtain ⟨hz, hi⟩ := zero_of_info (P := Try.prog) shareInfo
  go_enter Try.func92, Try.ntmps92
  go_wp2
  rw [shareRow_zero]
  have HI : Hid (Option.map (fun x => x.size) (Try.prog.info? 134) = some 256) := hi
  clear hi hz
  obtain ⟨W0, hW0⟩ : ∃ W0, W0 = w.alloc (Obj.cells (shareRow 0) 134) := ⟨_, rfl⟩
  rw [← hW0]
  have hs0 : W0.heap.size = w.heap.size + 1 := by rw [hW0]; simp
  have HW : Hid (W0 = w.alloc (Obj.cells (shareRow 0) 134)) := hW0
  rw [← hs0]
  have HS : Hid (W0.heap.size = w.heap.size + 1) := hs0
  clear hW0 hs0
  go_loopw [5] (fun i wr => ∃ k : Nat, k ≤ 256 ∧ i = .int .i64 (k : Int) ∧ wr = W0.alloc (Obj.cells (shareRow k) 134)) (fun i _ => 256 - (intOf i).toNat)
  case atStart => exact ⟨0, by omega, rfl, rfl⟩
  case round =>
    obtain ⟨k, hk, rfl, rfl⟩ := hrel
    by_cases hlt : k < 256
    · go_wp2
      go_loop [3, 10] (fun c i => ∃ (j v : Nat), j ≤ 8 ∧ i = .int .i64 (j : Int) ∧ c = .int .u32 (v : Int) ∧ Hid (v = S.it j k)) (fun _ i => 8 - (intOf i).toNat)
      case atStart => exact ⟨0, k, by omega, rfl, congrArg (Value.int .u32) (by first | exact conv32 hlt | rfl), rfl⟩
      case round =>
        obtain ⟨j, v, hj, rfl, rfl, hv⟩ := hrel
        by_cases hj8 : j < 8
        · have hvl : Hid (v < 4294967296) := by unfold Hid; rw [hv.out]; exact S.it_lt j (by omega)
          have hv' : Hid (S.half v = S.it (j + 1) k) := by unfold Hid; rw [hv.out]; rfl
          have hand := and32_1 v hvl.out
          by_cases ho : (v : Int) % 2 = 1
          · have hand : bits BinOp.and IntKind.u32 (v : Int) 1 = 1 := by rw [hand]; omega
            go_wp2
            go_round
            case rel => exact ⟨j + 1, S.half v, by omega, by go_num, congrArg (Value.int .u32) (odd32 hvl.out ho), hv'⟩
            case measure => simp [intOf]; omega
          · have hand : bits BinOp.and IntKind.u32 (v : Int) 1 = 0 := by rw [hand]; omega
            go_wp2
            go_round
            case rel => exact ⟨j + 1, S.half v, by omega, by go_num, congrArg (Value.int .u32) (even32 ho), hv'⟩
            case measure => simp [intOf]; omega
        · obtain rfl : j = 8 := by omega
          have hc : (W0.alloc (Obj.cells (shareRow k) 134)).cell? ⟨W0.heap.size, k, none⟩ = some (.int .u32 (if k < k then ((S.it 8 k : Nat) : Int) else 0)) := by
            rw [cell_of_row _ _ k (shareRow k) _ (0, 0) (heap_alloc_last W0 _), shareRow_at k k hlt]
          have hset : Hid ((shareRow k).setIfInBounds k (Value.int IntKind.u32 (v : Int)) = shareRow (k + 1)) := by
            unfold Hid; rw [hv.out]; exact shareRow_set k hlt
          go_wp2
          exact ⟨⟨k + 1, by omega, by go_num, by rw [hset.out]⟩, by simp [intOf]; omega⟩
    · obtain rfl : k = 256 := by omega
      have hld := run_loadVar_new (P := Try.prog) W0 134 (shareRow 256) 256 133 Try.underlying134 (by rw [shareRow_size]; exact HI.out)
      have hsz := shareRow_size 256
      have hh0 : (W0.alloc (Obj.cells (shareRow 256) 134)).heap[w.heap.size]? = some (.cells (shareRow 0) 134 (0, 0)) := by
        have h1 := HS.out
        rw [heap_alloc_lt _ _ (by omega), HW.out]
        exact heap_alloc_last w _
      have HSZ : Hid ((shareRow 256).size = 256) := hsz
      have hsc := run_storeCells_row (P := Try.prog) _ w.heap.size 134 134 (shareRow 0) (shareRow 256) hh0 (by rw [hsz]; exact HI.out) (by rw [shareRow_size, shareRow_size]) (shareRow_one _)
      have hg2 := setRow_heap _ w.heap.size _ (shareRow 256) _ _ hh0
      have HG : Hid _ := hg2
      clear hsz hh0 hg2 hld
      go_wp2
      refine wp_load_row _ _ rfl W0.heap.size rfl (shareRow 256) 134 (0, 0) _ (heap_alloc_last W0 _) Try.underlying134 rfl (by rw [HSZ.out]; exact HI.out) ?_
      go_wp2
      refine bodyPost_ret (v := .agg (shareRow 256)) ?_ rfl ⟨rfl, ?_⟩
      · exact results_cell_row rfl _ _ w.heap.size 134 (shareRow 256) (0, 0) _ rfl HG.out Try.underlying134 rfl (by rw [HSZ.out]; exact HI.out)
      · have hb1 : Below w.heap.size w W0 := by rw [HW.out]; exact (Below.refl _ w).alloc (Nat.le_refl _) _
        have hb2 : Below w.heap.size w (W0.alloc (Obj.cells (shareRow 256) 134)) := hb1.alloc (by rw [HS.out]; omega) _
        exact hb2.trans ⟨rfl, rfl, rfl, by simp, fun k hk => setRow_other _ _ _ _ (by omega)⟩

theorem crc_round {n : Nat} {b : UInt8} {s : ByteArray} {k x : Nat} (h : k < s.size) (hn : n = S.fold 4294967295 (s.data.toList.take k)) (hb : b = s[k]) (hx : x = n % 256 ^^^ b.toNat) :
    bits BinOp.xor IntKind.u32 ((n : Int) / 256) ((S.it 8 x : Nat) : Int) = ((S.fold 4294967295 (s.data.toList.take (k + 1)) : Nat) : Int) := by
  have h1 := S.fold_lt (s.data.toList.take k) (c := 4294967295) (by decide)
  rw [← hn] at h1
  have h2 := b.toNat_lt
  have h3 : x < 2 ^ 32 := by rw [hx]; exact Nat.xor_lt_two_pow (by omega) (by omega)
  have h4 := S.it_lt 8 h3
  rw [show (n : Int) / 256 = ((n / 256 : Nat) : Int) by omega, xor32 _ _ (by omega) (by omega), hx, S.step_table, take_snoc s k h, S.fold_snoc, ← hn, hb]

theorem crc_end32 {n : Nat} {l : List UInt8} (hn : n = S.fold 4294967295 l) : bits BinOp.xor IntKind.u32 (n : Int) 4294967295 = ((S.crc l : Nat) : Int) := by
  have h1 := S.fold_lt l (c := 4294967295) (by decide)
  unfold S.crc
  rw [← hn, ← xor32 n _ (by rw [hn]; exact h1) (by omega)]
  rfl

set_option maxHeartbeats 1000000 in
set_option maxRecDepth 20000 in
theorem sums_Crc (s : ByteArray) (w : World) (hs : s.size ≤ maxLen) :
    Calls Try.prog 89 #[.string s] w fun e w' => e = .returned (.int .i64 (S.crc s.data.toList : Int)) ∧ Below w.heap.size w w' := by
  unfold maxLen at hs
  obtain ⟨hz, hi⟩ := zero_of_info (P := Try.prog) shareInfo
  have HI : Hid (Option.map (fun x => x.size) (Try.prog.info? 134) = some 256) := hi
  clear hi
  obtain ⟨r, hr⟩ : ∃ r, r = S.crc s.data.toList := ⟨_, rfl⟩
  have HR : Hid (r = S.crc s.data.toList) := hr
  rw [← hr]
  clear hr
  go_enter Try.func89, Try.ntmps89
  go_wp2_with fail
  refine (sums_shares _).mono ?_
  rintro e w1 ⟨rfl, hb1⟩
  have HB : Hid (Below w.heap.size w w1) := hb1
  have hsc := run_storeCells_row (P := Try.prog) (w1.alloc (Obj.cells (Array.replicate 256 (Value.int .u32 0)) 134)) w1.heap.size 134 134 _ (shareRow 256) (heap_alloc_last w1 _) (by rw [shareRow_size]; exact HI.out) (by rw [shareRow_size]; simp) (shareRow_one _)
  rw [World.setRow_alloc_new] at hsc
  clear hb1
  go_wp2
  go_loop [4, 9] (fun h i => ∃ (k n : Nat), k ≤ s.size ∧ i = .int .i64 (k : Int) ∧ h = .int .u32 (n : Int) ∧ Hid (n = S.fold 4294967295 (s.data.toList.take k))) (fun _ i => s.size - (intOf i).toNat)
  case atStart => exact ⟨0, 4294967295, Nat.zero_le _, rfl, rfl, rfl⟩
  case round =>
    obtain ⟨k, n, hk, rfl, rfl, hn⟩ := hrel
    clear hsc hz
    by_cases hlt : k < s.size
    · obtain ⟨b, hb⟩ : ∃ b, b = s[k] := ⟨_, rfl⟩
      obtain ⟨x, hx⟩ : ∃ x, x = n % 256 ^^^ b.toNat := ⟨_, rfl⟩
      have hx8 : x < 256 := by
        have := b.toNat_lt
        rw [hx]
        exact Nat.xor_lt_two_pow (n := 8) (by omega) (by omega)
      have hxe : bits BinOp.xor IntKind.u8 ((n : Int) % 256) (s[k].toNat : Int) = (x : Int) := by
        have := b.toNat_lt
        rw [← hb, show (n : Int) % 256 = ((n % 256 : Nat) : Int) by omega, xor8 _ _ (by omega) (by omega), hx]
      have hc : (w1.alloc (Obj.cells (shareRow 256) 134)).cell? ⟨w1.heap.size, x, none⟩ = some (.int .u32 ((S.it 8 x : Nat) : Int)) := by
        rw [cell_of_row _ _ x (shareRow 256) _ (0, 0) (heap_alloc_last w1 _), shareRow_at 256 x hx8, if_pos hx8]
      have HX : Hid (x = n % 256 ^^^ b.toNat) := hx
      have HBB : Hid (b = s[k]) := hb
      clear hx hb
      go_wp2
      go_round
      case rel => exact ⟨k + 1, S.fold 4294967295 (s.data.toList.take (k + 1)), by omega, by go_num, congrArg (Value.int .u32) (crc_round hlt hn.out HBB.out HX.out), rfl⟩
      case measure => simp [intOf]; omega
    · obtain rfl : k = s.size := by omega
      have hb2 : Below w.heap.size w (w1.alloc (Obj.cells (shareRow 256) 134)) := HB.out.alloc HB.out.size _
      have HB2 : Hid _ := hb2
      clear hb2
      go_wp2
      go_ret
      exact ⟨ret_int (by rw [crc_end32 hn.out, take_all, ← HR.out]; have h1 := S.crc_lt s.data.toList; rw [← HR.out] at h1; exact IntWalk.wrap64_in _ (by omega)), HB2.out⟩
end Go.Proofs.Ytpfnkjfbhcffiaa
