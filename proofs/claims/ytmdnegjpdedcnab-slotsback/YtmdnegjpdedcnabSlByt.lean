/-
  A map as bytes: the program's Bytes, and the document's.
-/
import Derived.Test.YtmdnegjpdedcnabSlRef2
import Derived.Test.YtmdnegjpdedcnabSlBld
import Derived.Test.YtmdnegjpdedcnabPutVar
import Derived.Test.YtmdnegjpdedcnabSumRows
namespace Go.Proofs.Ytmdnegjpdedcnab
open Go.RowKit

theorem bytesTo_len {s : Sl.St} (h : Sl.Ok s) : ∀ n, n ≤ 16 → (Sl.bytesTo s n).length ≤ 1 + n * 10
  | 0, _ => by simp [Sl.bytesTo]
  | n + 1, hn => by
    have ih := bytesTo_len h n (by omega)
    have := M.putVar_length9 (n := s.E n) (by have := (h n (by omega)).2.2.2; omega)
    rw [Sl.bytesTo]
    simp
    omega

set_option maxHeartbeats 1600000 in
set_option maxRecDepth 20000 in
theorem BytesS_c {w : World} {B : Nat} {s : Sl.St} (h : Sm w B s) : Calls Try.prog 12 #[.pointer (some ⟨B, 0, none⟩)] w fun e w' => e = .returned (.tuple #[.string ⟨(Sl.bytesTo s 16).toArray⟩, .int .i64 0]) ∧ Below w.heap.size w w' := by
  have hm := isMadeS_c h
  have HOk : Hid (Sl.Ok s) := h.ok
  have HS : Hid (∀ X, Below w.heap.size w X → Sm X B s) := fun X hX => h.below hX
  have HLen : Hid (∀ n, n ≤ 16 → (Sl.bytesTo s n).length ≤ 1 + n * 10) := bytesTo_len h.ok
  obtain ⟨b, hb⟩ : ∃ b, b = w.heap.size := ⟨_, rfl⟩
  obtain ⟨u0, hu0⟩ : ∃ u0, u0 = w.alloc (.cells #[.pointer none, .slice none 0 0] 77) := ⟨_, rfl⟩
  have HB0 : Hid (Below w.heap.size w u0 ∧ w.heap.size ≤ u0.heap.size) := ⟨by rw [hu0]; exact below_alloc w _, by rw [hu0]; simp⟩
  have HW0 : Hid (Calls Try.prog 29 #[.pointer (some ⟨b, 0, none⟩), .string ⟨#[83]⟩] u0 fun e w' => e = .returned (.tuple #[.int .i64 1, .nilIface]) ∧ Bld w' w.heap.size b (Sl.bytesTo s 0) ∧ Below w.heap.size w w') := by
    have h1 := bld_new w
    rw [← hu0] at h1
    have := bld_write h1 ⟨#[83]⟩ (by decide) HB0.out.2
    rw [← hb] at this ⊢
    refine this.mono ?_
    rintro e w' ⟨rfl, h2, h3, -⟩
    exact ⟨rfl, h2, by rw [hb] at h3 ⊢; exact HB0.out.1.trans h3⟩
  clear h
  go_enter Try.func12, Try.ntmps12
  go_wp2_with fail
  refine hm.mono ?_
  rintro e w' ⟨rfl, hw⟩
  have hw := hw.symm
  subst hw
  go_wp2_with fail
  try rw [← hu0]
  try rw [← hb]
  clear hm hu0 hb
  refine Calls.mono HW0.out ?_
  rintro e w1 ⟨rfl, h1, h2⟩
  have HBl : Hid (Bld w1 w.heap.size b (Sl.bytesTo s 0)) := h1
  have HBe : Hid (Below w.heap.size w w1) := h2
  have HSm : Hid (Sm w1 B s) := HS.out w1 h2
  clear h1 h2 HW0
  go_wp2_with (refine wpList_load10 rfl (.tmp 15) rfl HSm.out rfl ?_)
  obtain ⟨arr, harr⟩ : ∃ arr, arr = (smCells s).toArray := ⟨_, rfl⟩
  rw [← harr]
  have HArr : Hid (arr = (smCells s).toArray) := harr
  clear harr HSm HS
  go_loopw [17] (fun x wr => ∃ (k : Nat), x = .int .i64 (k : Int) ∧ k ≤ 16 ∧ Hid (Bld wr w.heap.size b (Sl.bytesTo s k)) ∧ Hid (Below w.heap.size w wr)) (fun x _ => 16 - (intOf x).toNat)
  case atStart => exact ⟨0, rfl, by omega, HBl, HBe⟩
  case round =>
    clear HBl HBe
    obtain ⟨k, rfl, hk, HBl, HBe⟩ := hrel
    by_cases hlt : k < 16
    · have HIx : Hid (∀ (ops : Array Oper) (rest : List Oper) (o : Oper) (a : Act) (Q : Exit → Act → World → Prop), o.guard = none → o.op = .index 71 (.tmp 16) (.tmp 17) → a.eval (.tmp 16) = .agg arr → a.eval (.tmp 17) = .int .i64 (k : Int) → wpList Try.prog ops Q rest (a.put o.dst (.agg #[.int .i64 (s.O k : Int), .int .i64 (s.E k : Int)])) wr → wpList Try.prog ops Q (o :: rest) a wr) :=
        fun ops rest o a Q h1 h2 h3 h4 h5 => wpList_index10 (s := s) h1 _ _ h2 hlt (by rw [h3, HArr.out]) h4 h5
      obtain ⟨hok1, hok2, hok3, hok4⟩ := HOk.out k hlt
      have HStep : Hid (Sl.bytesTo s k ++ [(s.O k).toUInt8] ++ M.putVar (s.E k) = Sl.bytesTo s (k + 1)) := by show _ = _; rw [Sl.bytesTo]; simp
      have hl0 := HLen.out k (by omega)
      have hl9 := M.putVar_length9 (n := s.E k) (by omega)
      obtain ⟨ok, hok⟩ : ∃ ok, ok = s.O k := ⟨_, rfl⟩
      obtain ⟨ek, hek⟩ : ∃ ek, ek = s.E k := ⟨_, rfl⟩
      rw [← hok, ← hek] at HIx HStep
      rw [← hok] at hok1 hok2
      rw [← hek] at hok3 hok4 hl9
      obtain ⟨u, hu⟩ : ∃ u, u = wr.alloc (.cells #[.int .i64 (ok : Int), .int .i64 (ek : Int)] 70) := ⟨_, rfl⟩
      obtain ⟨bo, hbo⟩ : ∃ bo, bo = wr.heap.size := ⟨_, rfl⟩
      have c0 : u.cell? ⟨bo, 0, none⟩ = some (.int .i64 (ok : Int)) := by rw [hu, hbo]; exact World.cell?_alloc_mark wr _ _ _ 0
      have c1 : u.cell? ⟨bo, 1, none⟩ = some (.int .i64 (ek : Int)) := by rw [hu, hbo]; exact World.cell?_alloc_mark wr _ _ _ 1
      have HLt : Hid (bo < u.heap.size) := by rw [hu, hbo]; show _ < _; simp
      have HBl2 : Hid (Bld u w.heap.size b (Sl.bytesTo s k)) := HBl.out.below (by rw [hu]; exact below_alloc wr _)
      have HBe2 : Hid (Below w.heap.size w u) := HBe.out.trans (by rw [hu]; exact (below_alloc wr _).mono HBe.out.size)
      have HPut : Hid _ := bits_PutVar_yes ek u (by omega)
      have hw8 : IntKind.u8.wrap (ok : Int) = (ok : Int) := by show (ok : Int) % 256 = _; omega
      have HNum : Hid ((Sl.bytesTo s k).length ≤ 161 ∧ (M.putVar ek).length ≤ 9 ∧ ok < 256) := ⟨by omega, hl9, by omega⟩
      obtain ⟨pv, hpv⟩ : ∃ pv : ByteArray, pv = ⟨(M.putVar ek).toArray⟩ := ⟨_, rfl⟩
      rw [← hpv] at HPut
      have HPv : Hid (pv = ⟨(M.putVar ek).toArray⟩) := hpv
      clear hok hek hpv hl0 hl9 HBl HBe
      go_wp2_with (first | (refine HIx.out _ _ _ _ _ rfl rfl rfl rfl ?_) | fail)
      rw [← hu]
      try rw [← hbo]
      clear hu hbo HIx
      refine Calls.mono HPut.out ?_
      rintro e w2 ⟨rfl, h2⟩
      have d0 := (h2.cell (p := ⟨bo, 0, none⟩) HLt.out).trans c0
      have HBl3 : Hid (Bld w2 w.heap.size b (Sl.bytesTo s k)) := HBl2.out.below h2
      have HBe3 : Hid (Below w.heap.size w w2) := HBe2.out.trans (h2.mono HBe2.out.size)
      have HWb : Hid _ := bld_byte HBl3.out ok HNum.out.2.2 (by have := HNum.out; omega) HBe3.out.size
      clear h2 c0 c1 HBl2 HBe2
      go_wp2_with fail
      refine Calls.mono HWb.out ?_
      rintro e w3 ⟨rfl, h3, h4, -⟩
      have HBl4 : Hid _ := h3
      have HBe4 : Hid (Below w.heap.size w w3) := HBe3.out.trans h4
      have HWs : Hid _ := bld_write HBl4.out pv (by rw [HPv.out]; have := HNum.out; simp [ByteArray.size]; omega) HBe4.out.size
      clear h3 h4
      go_wp2_with fail
      refine Calls.mono HWs.out ?_
      rintro e w4 ⟨rfl, h5, h6, -⟩
      have HBl5 : Hid (Bld w4 w.heap.size b (Sl.bytesTo s (k + 1))) := by
        rw [HPv.out] at h5
        rw [← HStep.out]
        exact h5
      have HBe5 : Hid (Below w.heap.size w w4) := HBe4.out.trans h6
      clear h5 h6
      go_wp2
      go_roundw
      case rel => exact ⟨k + 1, by go_num, by omega, HBl5, HBe5⟩
      case measure => simp [intOf]; omega
    · obtain rfl : k = 16 := by omega
      have HSt : Hid _ := bld_string HBl.out HBe.out.size
      go_wp2_with fail
      refine Calls.mono HSt.out ?_
      rintro e w2 ⟨rfl, h2⟩
      have H2 : Hid _ := HBe.out.trans h2
      clear h2
      go_wp2
      go_ret2
      exact ⟨rfl, H2.out⟩

end Go.Proofs.Ytmdnegjpdedcnab
