/-
  A row of bytes that a call itself builds: what one append of a byte does to it, and what text it is turned into; over any program.
-/
import Derived.WalkKit
import Derived.WalkSpells
import Derived.WalkLawsBesides
import Derived.Lib.UnsafeStr
namespace Go.Proofs.Ytepbmfjimppgcaa
open Go.RowKit

/-- The slice value v, a row of the call's own (blocks from 'base' on), holds the bytes l. -/
def OwnB (w : World) (base : Nat) (u8 : TypeId) (v : Value) (l : List UInt8) : Prop := w.ownsRow base u8 1 v l.length (Lib.byteCells l)

theorem OwnB.nil (w : World) (base : Nat) (u8 : TypeId) : OwnB w base u8 (.slice none 0 0) [] := World.ownsRow_nil _ _ _ _

theorem addr_add0 (b j : Nat) : (⟨b, 0, none⟩ : Addr).add j = ⟨b, j, none⟩ := by
  unfold Addr.add
  split
  · rename_i h; subst h; rfl
  · simp

theorem byte_toNat {a : Nat} (h : a < 256) : (a.toUInt8).toNat = a := by
  simp [Nat.toUInt8, UInt8.toNat_ofNat']
  omega

theorem byteCells_snoc (pre : List UInt8) {a : Nat} (h : a < 256) : Lib.byteCells (pre ++ [a.toUInt8]) = Lib.byteCells pre ++ [Value.int .u8 (a : Int)] := by
  simp only [Lib.byteCells, List.map_append, List.map_cons, List.map_nil, byte_toNat h]

/-- The text of a row of one byte or more. -/
theorem OwnB.conv {P : Program} {w : World} {base : Nat} {u8 : TypeId} {v : Value} {l : List UInt8} (h : OwnB w base u8 v l) (hne : l ≠ []) (src dst : TypeId)
    (hs : P.underlying src = some (.slice u8)) (he : P.underlying u8 = some (.int .u8)) (hd : P.underlying dst = some .string) :
    (convert src dst v).run P w = .ok (.string ⟨l.toArray⟩) w := by
  obtain ⟨h1, h2 | ⟨g, cap, cur, hv, hg, hh, hn, hcap, hcs, htk⟩⟩ := h
  · exfalso
    apply hne
    exact List.eq_nil_of_length_eq_zero h2.2
  · subst hv
    refine run_convert_bytes_back w src dst u8 ⟨g, 0, none⟩ cap l hs he hd ?_
    intro j hj
    have hc := World.ownsRow.cellAt (w := w) (base := base) (e := u8) (size := 1) (g := g) (n := l.length) (cap := cap) (xs := Lib.byteCells l)
      ⟨h1, .inr ⟨g, cap, cur, rfl, hg, hh, hn, hcap, hcs, htk⟩⟩ j (by omega)
    rw [addr_add0, hc]
    simp [Lib.byteCells, hj]

/-- 'out = append(out, b)', b one byte, out nil or the call's own. -/
theorem wpList_push {P : Program} {wr : World} {ops : Array Oper} {rest : List Oper} {o : Oper} {a : Act} {Q : Exit → Act → World → Prop} (hgd : o.guard = none) (s x : Operand) (t u8 str : TypeId)
    (ho : o.op = .call { callee := .builtin .append, args := #[s, x], argTypes := #[t, t] })
    (hs : P.underlying t = some (.slice u8)) (he : P.underlying u8 = some (.int .u8)) (hd : P.underlying str = some .string)
    (hinfo : (P.info? u8).map (fun i => (i.zero, i.size, i.bytes)) = some (some (.int .u8 0), 1, 1))
    (base : Nat) (v : Value) (l : List UInt8) (hv : a.eval s = v) (hown : OwnB wr base u8 v l) (b : Int) (hb : 0 ≤ b ∧ b ≤ 255)
    (hx : a.eval x = .slice (some ⟨wr.heap.size, 0, none⟩) 1 1) (hlen : l.length ≤ 140737488351232) (hbase : base ≤ wr.heap.size)
    (h : ∀ v' w', OwnB w' base u8 v' (l ++ [b.toNat.toUInt8]) → Below base wr w' → (convert t str v').run P w' = .ok (.string ⟨(l ++ [b.toNat.toUInt8]).toArray⟩) w' → wpList P ops Q rest (a.put o.dst v') w') :
    wpList P ops Q (o :: rest) a (wr.alloc (.cells #[.int .u8 b] u8)) := by
  obtain ⟨i0, hi, hz0, hz1, hz2⟩ := info_parts hinfo
  have ha := hown.alloc (.cells #[.int .u8 b] u8)
  obtain ⟨bn, rfl⟩ := Int.eq_ofNat_of_zero_le hb.1
  have hbn : bn < 256 := by omega
  refine wpList_append_own _ hgd s x t ho base u8 i0 (.int .u8 0) 1 1 hs hi hz0 hz1 hz2 rfl (by decide) v l.length (Lib.byteCells l) hv ha ⟨wr.heap.size, 0, none⟩ 1 1 [.int .u8 (bn : Int)] hx rfl
    (cell_one_new _ _ _) (by intro u hu; simp at hu; subst hu; rfl) (by unfold maxLen; omega) (by omega) (by simp; omega) ?_
  intro v' w' h1 h2 _
  have hr : ∀ k, v.ownBlock = some k → base ≤ k := by
    intro k hk
    obtain ⟨_, hq | ⟨g, cap, cur, hv', hg, _⟩⟩ := hown
    · rw [hq.1] at hk; simp [Value.ownBlock] at hk
    · rw [hv'] at hk; simp [Value.ownBlock] at hk; omega
  have hB : Below base wr w' := ((Below.refl base wr).alloc hbase _).grown h2 (by simp; omega) hr
  have hO : OwnB w' base u8 v' (l ++ [(bn : Int).toNat.toUInt8]) := by
    unfold OwnB
    rw [Int.toNat_natCast, byteCells_snoc l hbn]
    simpa using h1
  exact h v' w' hO hB (hO.conv (by simp) t str hs he hd)

theorem wraps_i64 (n : Int) (h₀ : 0 ≤ n) (h₁ : n < 2 ^ 63) : IntKind.i64.wrap n = n := by
  rw [IntKind.wrap_i64]
  have : (2 : Int) ^ 63 = 9223372036854775808 := by decide
  omega

/-- 'x | y' where x ends in i noughts and y has i bits at most. -/
theorem or64 (i : Nat) (x y : Int) (hx₀ : 0 ≤ x) (hx : x % 2 ^ i = 0) (hx₁ : x < 2 ^ 63) (hy₀ : 0 ≤ y) (hy : y < 2 ^ i) (hy₁ : y < 2 ^ 63) : bits .or .i64 x y = x + y :=
  bits_join .i64 63 (by decide) wraps_i64 i x y hx₀ hx hx₁ hy₀ hy hy₁

theorem or64' (i : Nat) (x y : Int) (hx₀ : 0 ≤ x) (hx : x % 2 ^ i = 0) (hx₁ : x < 2 ^ 63) (hy₀ : 0 ≤ y) (hy : y < 2 ^ i) (hy₁ : y < 2 ^ 63) : bits .or .i64 y x = y + x := by
  have h := or64 i x y hx₀ hx hx₁ hy₀ hy hy₁
  obtain ⟨a, rfl⟩ := Int.eq_ofNat_of_zero_le hx₀
  obtain ⟨b, rfl⟩ := Int.eq_ofNat_of_zero_le hy₀
  have ha : a < 2 ^ 63 := by exact_mod_cast hx₁
  have hb : b < 2 ^ 63 := by exact_mod_cast hy₁
  rw [(bits_nat .i64 63 (by decide) wraps_i64 a b ha hb).2] at h
  rw [(bits_nat .i64 63 (by decide) wraps_i64 b a hb ha).2, Nat.or_comm, h, Int.add_comm]

theorem bcell {W w1 : World} (hb : Below W.heap.size W w1) : (∀ b o, b < W.heap.size → w1.cell? ⟨b, o, none⟩ = W.cell? ⟨b, o, none⟩) ∧ (∀ b o, b < W.heap.size → w1.frozen? ⟨b, o, none⟩ = W.frozen? ⟨b, o, none⟩) :=
  ⟨fun b o h => hb.cell (p := ⟨b, o, none⟩) h, fun b o h => hb.frozen (p := ⟨b, o, none⟩) h⟩

theorem ret_int {k : IntKind} {a b : Int} (h : a = b) : Ending.returned (.int k a) = .returned (.int k b) := by rw [h]
theorem ret_bool {a b : Bool} (h : a = b) : Ending.returned (.bool a) = .returned (.bool b) := by rw [h]

end Go.Proofs.Ytepbmfjimppgcaa
