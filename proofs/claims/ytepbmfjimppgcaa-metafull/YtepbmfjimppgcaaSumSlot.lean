/-
  What Slot does, the program's and the document's: the slot of the bytes; nothing is changed.
-/
import Derived.Test.YtepbmfjimppgcaaRows
import Derived.Test.YtepbmfjimppgcaaSumOwn
namespace Go.Proofs.Ytepbmfjimppgcaa
open Go.RowKit

theorem hash_round (s : ByteArray) (k n : Nat) (h : k < s.size) (hn : n = S.hash (s.data.toList.take k)) :
    bits BinOp.xor IntKind.u32 (n : Int) ((s[k].toNat : Int) % 4294967296) * 16777619 % 4294967296 = ((S.hash (s.data.toList.take (k + 1)) : Nat) : Int) := by
  have hl := S.hash_lt (s.data.toList.take k)
  have hb := s[k].toNat_lt
  rw [take_snoc s k h, S.hash_snoc, ← hn, show (s[k].toNat : Int) % 4294967296 = (s[k].toNat : Int) by omega, xor32 n _ (by omega) (by omega)]
  unfold S.hstep
  omega

theorem hash_round64 (s : ByteArray) (k n : Nat) (h : k < s.size) (hn : n = S.hash (s.data.toList.take k)) :
    bits BinOp.and IntKind.i64 (wrap64 (bits BinOp.xor IntKind.i64 (n : Int) (wrap64 (s[k].toNat : Int)) * 16777619)) 4294967295 = ((S.hash (s.data.toList.take (k + 1)) : Nat) : Int) := by
  have hl := S.hash_lt (s.data.toList.take k)
  have hb := s[k].toNat_lt
  have hx : n ^^^ s[k].toNat < 4294967296 := Nat.xor_lt_two_pow (n := 32) (by omega) (by omega)
  rw [IntWalk.wrap64_in (s[k].toNat : Int) (by omega), xor64 n _ (by omega) (by omega), take_snoc s k h, S.hash_snoc, ← hn]
  unfold S.hstep
  generalize n ^^^ s[k].toNat = x at hx ⊢
  rw [IntWalk.wrap64_in _ (by omega), ← and64_32 _ (by omega)]
  rfl

theorem nib_round (n j q : Nat) (hq : q < 4294967296) (e : q = n / 16 ^ j) (x : Nat) (hx : x = S.nibs j n) :
    bits BinOp.xor IntKind.u32 (x : Int) (bits BinOp.and IntKind.u32 (q : Int) 15) = ((S.nibs (j + 1) n : Nat) : Int) := by
  have h1 := S.nibs_lt j n
  rw [and32_15 q hq, xor32 x _ (by omega) (by omega), hx, e]
  rfl

set_option maxHeartbeats 400000 in
set_option maxRecDepth 20000 in
theorem sums_Slot (s : ByteArray) (w : World) (hs : s.size ≤ maxLen) :
    Calls Try.prog 72 #[.string s] w fun e w' => e = .returned (.int .i64 (S.slot s.data.toList : Int)) ∧ w' = w := by
  unfold maxLen at hs
  obtain ⟨r, hr⟩ : ∃ r, r = S.slot s.data.toList := ⟨_, rfl⟩
  have HR : Hid (r = S.slot s.data.toList) := hr
  rw [← hr]
  clear hr
  go_enter Try.func72, Try.ntmps72
  go_wp2
  go_loop [3, 8] (fun h i => ∃ (k n : Nat), k ≤ s.size ∧ i = .int .i64 (k : Int) ∧ h = .int .u32 (n : Int) ∧ Hid (n = S.hash (s.data.toList.take k))) (fun _ i => s.size - (intOf i).toNat)
  case atStart => exact ⟨0, 2166136261, Nat.zero_le _, rfl, rfl, rfl⟩
  case round =>
    obtain ⟨k, n, hk, rfl, rfl, hn⟩ := hrel
    by_cases hlt : k < s.size
    · go_wp2
      go_roundw
      case rel => exact ⟨k + 1, S.hash (s.data.toList.take (k + 1)), by omega, by go_num, congrArg (Value.int .u32) (hash_round s k n hlt hn.out), rfl⟩
      case measure => simp [intOf]; omega
    · have hkm : k = s.size := by omega
      subst hkm
      have hn' : Hid (n = S.hash s.data.toList) := by
        have := hn.out
        rw [take_all] at this
        exact this
      clear hn
      go_wp2
      go_loop [3, 5] (fun h x => ∃ (j q v : Nat), j ≤ 8 ∧ h = .int .u32 (q : Int) ∧ x = .int .u32 (v : Int) ∧ Hid (q = n / 16 ^ j) ∧ Hid (v = S.nibs j n)) (fun h _ => (intOf h).toNat)
      case atStart => exact ⟨0, n, 0, by omega, rfl, rfl, by unfold Hid; omega, rfl⟩
      case round =>
        obtain ⟨j, q, v, hj, rfl, rfl, hq, hv⟩ := hrel
        by_cases h0 : 0 < q
        · have hn8 : Hid (n < 16 ^ 8) := by unfold Hid; rw [hn'.out]; exact S.hash_lt _
          have hj8 : j < 8 := by
            rcases Nat.lt_or_ge j 8 with h | h
            · exact h
            · obtain rfl : j = 8 := by omega
              have h1 := hq.out
              rw [Nat.div_eq_of_lt hn8.out] at h1
              omega
          have hql : Hid (q < 4294967296) := by
            unfold Hid
            have h1 : q ≤ n := by rw [hq.out]; exact Nat.div_le_self _ _
            have h2 := hn8.out
            omega
          go_wp2
          go_round
          case rel => exact ⟨j + 1, q / 16, S.nibs (j + 1) n, by omega, by go_num, congrArg (Value.int .u32) (nib_round n j q hql.out hq.out v hv.out), by unfold Hid; rw [hq.out, S.div16], rfl⟩
          case measure => simp [intOf]; omega
        · obtain rfl : q = 0 := by omega
          have hvr : Hid (v = r) := by
            unfold Hid
            rw [HR.out, hv.out, S.slot, ← hn'.out]
            have := S.nibs_past (8 - j) j n hq.out.symm
            rw [show j + (8 - j) = 8 by omega] at this
            exact this.symm
          go_wp2
          go_ret
          exact ⟨ret_int (by rw [hvr.out]; have := S.slot_lt s.data.toList; have h := HR.out; exact IntWalk.wrap64_in _ (by omega)), rfl⟩

end Go.Proofs.Ytepbmfjimppgcaa
