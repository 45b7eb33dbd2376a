/-
  A map beside a row of counters, both of the call's own.
-/
import Derived.Test.YtepbmfjimppgcaaSlAwake
import Derived.Test.YtepbmfjimppgcaaDkMask
namespace Go.Proofs.Ytepbmfjimppgcaa
open Go.RowKit

theorem infoInt10 : (Try.prog.info? 3).map (fun i => (i.zero, i.size, i.bytes)) = some (some (.int .i64 0), 1, 8) := by kernel_rfl
def noN (n : Nat) : Array Value := madeCells (Value.int .i64 0).cells (n * 1)
theorem noN_at (n i : Nat) (h : i < n) : (noN n)[i]? = some (.int .i64 0) := by
  have e : (noN n).toList = List.replicate n (Value.int .i64 0) := by
    unfold noN
    rw [Nat.mul_one, show (Value.int .i64 0).cells = #[Value.int .i64 0] from rfl]
    have := toList_madeCells_one (Value.int .i64 0) n
    simpa using this
  rw [← Array.getElem?_toList, e, List.getElem?_replicate, if_pos h]
theorem run_makeN (n : Nat) (hn : n ≤ 16) (W : World) : (Instr.makeSlice 50 (.int .i64 (n : Int)) (.int .i64 (n : Int))).run Try.prog W = .ok (.slice (some ⟨W.heap.size, 0, none⟩) n n) (W.alloc (.cells (noN n) 3)) := by
  obtain ⟨i0, hi, hz0, hz1, hz2⟩ := info_parts infoInt10
  have h := run_make (P := Try.prog) W 50 3 i0 (.int .i64 0) Try.underlying50 hi hz0 .i64 .i64 n n (by omega) (by omega) (by rw [hz2]; omega) (by omega)
  rw [hz1] at h
  exact h

structure Ct (w : World) (B bh m : Nat) (s : Sl.St) (G : Nat → Nat) (X : World) : Prop where
  sn : Sn w X B s
  new : w.heap.size ≤ bh
  ne : bh ≠ B
  lt : bh < X.heap.size
  c : ∀ g, g < m → X.cell? ⟨bh, g, none⟩ = some (.int .i64 (G g : Int))
  fz : ∀ j, X.frozen? ⟨bh, j, none⟩ = false

theorem Ct.start {w w1 : World} {B m : Nat} {s : Sl.St} (h : Sn w w1 B s) : Ct w B w1.heap.size m s (fun _ => 0) (w1.alloc (.cells (noN m) 3)) := by
  refine ⟨h.below (sl_below_alloc w1 _), h.old.size, fun e => by have := h.sm.lt; omega, by simp, fun g hg => ?_, fun j => ?_⟩
  · rw [World.cell?_alloc_mark, noN_at _ _ hg]
    rfl
  · rw [World.frozen?_alloc_mark]
    simp
theorem Ct.carry {w X Y : World} {B bh m : Nat} {s s' : Sl.St} {G : Nat → Nat} (h : Ct w B bh m s G X) (hn : Sn w Y B s') (hb : Y.heap[bh]? = X.heap[bh]?) (hs : X.heap.size ≤ Y.heap.size) : Ct w B bh m s' G Y :=
  ⟨hn, h.new, h.ne, Nat.lt_of_lt_of_le h.lt hs, fun g hg => (World.cell?_of_block (a := ⟨bh, g, none⟩) hb).trans (h.c g hg), fun j => (World.frozen?_of_block (a := ⟨bh, j, none⟩) hb).trans (h.fz j)⟩
theorem Ct.below {w X Y : World} {B bh m : Nat} {s : Sl.St} {G : Nat → Nat} (h : Ct w B bh m s G X) (hb : Below X.heap.size X Y) : Ct w B bh m s G Y := h.carry (h.sn.below hb) (hb.block bh h.lt) hb.size
theorem Ct.aft {w X Y : World} {B bh m : Nat} {s s' : Sl.St} {G : Nat → Nat} (h : Ct w B bh m s G X) (ha : AftS X Y B s') : Ct w B bh m s' G Y := h.carry (h.sn.aft ha) (ha.2.block bh h.lt h.ne (fun e => e)) ha.2.size
def inc (G : Nat → Nat) (g : Nat) : Nat → Nat := fun j => if j = g then G g + 1 else G j
theorem Ct.inc {w X : World} {B bh m : Nat} {s : Sl.St} {G : Nat → Nat} (h : Ct w B bh m s G X) {g : Nat} (hg : g < m) : Ct w B bh m s (inc G g) (X.setCell ⟨bh, g, none⟩ (.int .i64 ((G g : Int) + 1))) := by
  refine ⟨h.sn.set bh g h.ne h.new _, h.new, h.ne, by rw [sl_size_set6]; exact h.lt, fun j hj => ?_, fun j => by rw [World.frozen?_setCell]; exact h.fz j⟩
  rw [sl_cell_set6 _ (h.c g hg)]
  show _ = some (Value.int .i64 (((if j = g then G g + 1 else G j : Nat)) : Int))
  by_cases e : j = g
  · rw [if_pos e, if_pos e]
    rfl
  · rw [if_neg e, if_neg e]
    exact h.c j hj

/-- How many of the first n slots each group has. -/
def cntTo (O : Nat → Nat) : Nat → Nat → Nat
  | 0 => fun _ => 0
  | n + 1 => Go.Proofs.Ytepbmfjimppgcaa.inc (cntTo O n) (O n)
theorem cntTo_le (O : Nat → Nat) : ∀ n g, cntTo O n g ≤ n
  | 0, _ => Nat.le_refl _
  | n + 1, g => by
    show Go.Proofs.Ytepbmfjimppgcaa.inc (cntTo O n) (O n) g ≤ n + 1
    unfold Go.Proofs.Ytepbmfjimppgcaa.inc
    have h1 := cntTo_le O n (O n)
    have h2 := cntTo_le O n g
    split <;> omega

end Go.Proofs.Ytepbmfjimppgcaa
