/-
  walkTruth, where it is read.
-/
import Derived.Test.YtnfjfhjhofaodaaCmRWalk
namespace Go.Proofs.Ytnfjfhjhofaodaa
open Go.RowKit

theorem m_rnum (a : Addr) (w : World) : (method 273 105 (.pointer (some a)) "rookery/command.number").run Try.prog w = .ok (94, .pointer (some a)) w := by kernel_rfl
theorem m_rtext (a : Addr) (w : World) : (method 273 105 (.pointer (some a)) "rookery/command.text").run Try.prog w = .ok (95, .pointer (some a)) w := by kernel_rfl

/-- A number that is read into a variable of the call's own, and then stored. -/
theorem rd_own {w : World} {R : Nat} {s : ByteArray} (h : Rd w R s) (x : Int) {b o : Nat} {y : Value} (hp : w.cell? ⟨b, o, none⟩ = some y) (hz : w.frozen? ⟨b, o, none⟩ = false) (hR : b ≠ R) (m : Nat) :
    Calls Try.prog 94 #[.pointer (some ⟨R, 0, none⟩), .pointer (some ⟨w.heap.size, 0, none⟩), .int .i64 (m : Int)] (w.alloc (.cells #[.int .i64 x] 3))
      fun e w1 => match Cm.dec [.n m] s.data.toList with
        | none => (∃ t v, e = .panicked [{ v := .iface t v, recovered := false }]) ∧ KeptC (fun c p => c = R ∨ (c = b ∧ p = o)) w w1
        | some (vs, r) => e = .returned (.tuple #[]) ∧ ∃ v : Int, vs = [(.n m, .n v)] ∧ w1.cell? ⟨w.heap.size, 0, none⟩ = some (.int .i64 v) ∧ w1.cell? ⟨b, o, none⟩ = some y ∧ w1.frozen? ⟨b, o, none⟩ = false ∧
            ∀ u : Value, KeptC (fun c p => c = R ∨ (c = b ∧ p = o)) w (w1.setCell ⟨b, o, none⟩ u) ∧ (w1.setCell ⟨b, o, none⟩ u).cell? ⟨b, o, none⟩ = some u ∧ ∃ t, Rd (w1.setCell ⟨b, o, none⟩ u) R t ∧ t.data.toList = r := by
  have hbl : b < w.heap.size := World.block_lt_of_cell? _ _ hp
  have hRl := h.lt
  have hb := alloc_below w (.cells #[.int .i64 x] 3)
  have hr1 : Rd (w.alloc (.cells #[.int .i64 x] 3)) R s := ⟨by rw [hb.block R hRl]; exact h.1, h.2⟩
  have cN : (w.alloc (.cells #[.int .i64 x] 3)).cell? ⟨w.heap.size, 0, none⟩ = some (.int .i64 x) := by simp [go_sem]
  have zN : (w.alloc (.cells #[.int .i64 x] 3)).frozen? ⟨w.heap.size, 0, none⟩ = false := by simp [go_sem]
  have hsz : (w.alloc (.cells #[.int .i64 x] 3)).heap.size = w.heap.size + 1 := by simp
  refine (rd_number hr1 w.heap.size 0 cN zN (by omega) m).mono ?_
  rintro e w1 ⟨hk, hx⟩
  have hk0 : KeptC (fun c p => c = R ∨ (c = b ∧ p = o)) w w1 := (KeptC.of_below hb).trans hk (fun c p hc hx => by
    rcases hx with x | ⟨x, -⟩
    · exact .inl x
    · omega)
  cases hq : Cm.dec [.n m] s.data.toList with
  | none =>
    rw [hq] at hx
    exact ⟨hx, hk0⟩
  | some q =>
    obtain ⟨vs, r⟩ := q
    rw [hq] at hx
    obtain ⟨he, ⟨t, ht, hr⟩, v, hv, c1⟩ := hx
    have c2 : w1.cell? ⟨b, o, none⟩ = some y := by
      rw [hk.cell b o (by omega) (by rintro (x | ⟨x, -⟩); exact hR x; omega), hb.cell (p := ⟨b, o, none⟩) hbl]
      exact hp
    have z2 : w1.frozen? ⟨b, o, none⟩ = false := by
      rw [hk.frozen b o (by omega), hb.frozen (p := ⟨b, o, none⟩) hbl]
      exact hz
    refine ⟨he, v, hv, c1, c2, z2, fun u => ⟨hk0.setCell (fun _ => .inr ⟨rfl, rfl⟩) u, World.cell?_setCell_same _ _ _ c2, t, ?_, hr⟩⟩
    exact ht.kept ((KeptC.refl (fun c p => c = b ∧ p = o) w1).setCell (fun _ => ⟨rfl, rfl⟩) u) (fun _ x => hR x.1.symm)

set_option maxHeartbeats 1000000 in
set_option maxRecDepth 100000 in
theorem walkTruth_r {w : World} {R : Nat} {s : ByteArray} (h : Rd w R s) (b o : Nat) (hp : w.cell? ⟨b, o, none⟩ = some (.bool false)) (hz : w.frozen? ⟨b, o, none⟩ = false) (hR : b ≠ R) (N : Nat) :
    Calls Try.prog 52 #[rdV R, .pointer (some ⟨b, o, none⟩)] w (ROut w R (qBool b o).S ((qBool b o).D s.data.toList) ((qBool b o).H N)) := by
  have hm := m_rnum
  unfold rdV
  have hbl : b < w.heap.size := World.block_lt_of_cell? _ _ hp
  have hp0 : (w.alloc (.cells #[.int .i64 0] 3)).cell? ⟨b, o, none⟩ = some (.bool false) := by rw [(alloc_below w _).cell (p := ⟨b, o, none⟩) hbl]; exact hp
  have hn := rd_own h 0 hp hz hR 1
  show Calls _ _ _ _ (ROut w R (fun c p => c = b ∧ p = o) (Cm.dec [.n 1] s.data.toList) _)
  cases hq : Cm.dec [.n 1] s.data.toList with
  | none =>
    rw [hq] at hn
    have HN := hidden hn
    clear hn hq hp hz hbl
    go_enter Try.func52, Try.ntmps52
    go_wp2_with (go_at_call 94; refine (HN.out).mono ?_; rintro e w1 ⟨⟨t, v, rfl⟩, hk⟩)
    exact ⟨rfl, hk, _, _, rfl⟩
  | some q =>
    obtain ⟨vs, r⟩ := q
    rw [hq] at hn
    have HN := hidden hn
    clear hn hq hp hz hbl
    go_enter Try.func52, Try.ntmps52
    go_wp2_with (go_at_call 94; refine (HN.out).mono ?_; rintro e w1 ⟨rfl, v, hv, c1, c2, z2, hf⟩; have HV := hidden hv; have HF := hidden hf; clear hv hf)
    go_end0
    obtain ⟨k1, k2, t, k3, k4⟩ := HF.out (.bool (v == 1))
    exact ⟨k1, rfl, ⟨t, k3, k4⟩, v, HV.out, k2⟩

end Go.Proofs.Ytnfjfhjhofaodaa
