/-
  What PutVar does, the program's and the document's: of a number from 0 on its bytes, seven bits each; of any other the error 1; nothing that was there is changed.
-/
import Derived.Test.YtepbmfjimppgcaaRows
import Derived.Test.YtepbmfjimppgcaaOwn
import Derived.Test.YtepbmfjimppgcaaMath
namespace Go.Proofs.Ytepbmfjimppgcaa
open Go.RowKit

theorem info8 : (Try.prog.info? 5).map (fun i => (i.zero, i.size, i.bytes)) = some (some (.int .u8 0), 1, 1) := by kernel_rfl

theorem ret2s {a b : List UInt8} (h : a = b) : Ending.returned (.tuple #[.string ⟨a.toArray⟩, .int .i64 0]) = .returned (.tuple #[.string ⟨b.toArray⟩, .int .i64 0]) := by rw [h]

theorem put_step {l : List UInt8} {m n : Nat} (h : ¬ m < 128) (e : l ++ M.putVar m = M.putVar n) : (l ++ [(m % 128 + 128).toUInt8]) ++ M.putVar (m / 128) = M.putVar n := by
  rw [M.putVar_ge h] at e
  rw [← e]; simp

theorem put_last {l : List UInt8} {m n : Nat} (h : m < 128) (e : l ++ M.putVar m = M.putVar n) : l ++ [m.toUInt8] = M.putVar n := by
  rw [M.putVar_lt h] at e
  exact e

theorem put_len {l : List UInt8} {m n : Nat} (hn : n < 9223372036854775808) (e : l ++ M.putVar m = M.putVar n) : l.length ≤ 9 := by
  have h := M.putVar_length 8 n (by simpa using hn)
  rw [← e] at h
  simp at h; omega

end Go.Proofs.Ytepbmfjimppgcaa
