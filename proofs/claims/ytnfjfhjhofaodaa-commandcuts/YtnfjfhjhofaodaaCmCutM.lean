/-
  Bytes of a command, cut, or with a byte behind them: nothing.
-/
import Derived.Test.YtnfjfhjhofaodaaCmEq
import Derived.Test.YtnfjfhjhofaodaaCmArgs
import Derived.Test.YtnfjfhjhofaodaaCmShort
namespace Go.Proofs.Ytnfjfhjhofaodaa
open Go.RowKit

theorem From_no (s : ByteArray) (hs : s.size ≤ 140737488351232) (h : takeX 67 (Cm.dec ksCmd) s.data.toList = none) (w : World) : Calls Try.prog 23 #[.string s] w fun e w' => e = .returned (.tuple #[.agg zCmd.cells.toArray, .int .i64 140]) ∧ Below w.heap.size w w' := by
  refine (From_c s hs w).mono fun e w' ⟨a, b⟩ => ⟨?_, b⟩
  unfold FromO at a
  rw [h] at a
  exact a

theorem takeX_cut (x : CmdD) {bs : List UInt8} (h : Cm.enc x.pss.flatten = some bs) {k : Nat} (hk : k < bs.length + 1) : takeX 67 (Cm.dec ksCmd) ((67 :: bs).take k) = none := by
  cases k with
  | zero => rfl
  | succ k =>
    rw [List.take_succ_cons]
    simp only [takeX, if_true]
    have hc := Cm.dec_cut x.small h (k := k) (by omega)
    rw [x.kinds] at hc
    split
    · rename_i vs hd
      exact absurd hd (hc vs)
    · rfl

theorem takeX_more (x : CmdD) {bs : List UInt8} (h : Cm.enc x.pss.flatten = some bs) (b : UInt8) : takeX 67 (Cm.dec ksCmd) ((67 :: bs) ++ [b]) = none := by
  have hd := Cm.dec_enc x.pss.flatten bs x.small h [b]
  rw [x.kinds] at hd
  simp only [List.cons_append, takeX, if_true, hd]

theorem cmd_len (x : CmdD) {bs : List UInt8} (h : Cm.enc x.pss.flatten = some bs) : bs.length ≤ 6000000 := by
  have := Cm.enc_len _ _ x.small h
  have e : x.pss.flatten.length = 20 := rfl
  rw [e] at this
  omega

end Go.Proofs.Ytnfjfhjhofaodaa
