/-
  The document's map of slots: Ranges and Bytes.
-/
import Derived.Test.YtmdnegjpdedcnabSlByt
namespace Go.Proofs.Ytmdnegjpdedcnab
open Go.RowKit

theorem infoRr : (Try.prog.info? 97).map (fun i => (i.zero, i.size, i.bytes)) = some (some (.agg #[.int .i64 0, .int .i64 0, .int .i64 0]), 3, 24) := by kernel_rfl

/-- The box of the argument. -/
theorem rm_box {w : World} {vo ve : Value} {s : Sl.St} (h : Rm w vo ve s) : ∃ g1 o1 c1 g2 o2 c2, vo = .slice (some ⟨g1, o1, none⟩) 16 c1 ∧ ve = .slice (some ⟨g2, o2, none⟩) 16 c2 ∧
    ∀ X, Below (w.alloc (.cells #[vo, ve] 29)).heap.size (w.alloc (.cells #[vo, ve] 29)) X → X.cell? ⟨w.heap.size, 0, none⟩ = some vo ∧ X.cell? ⟨w.heap.size, 1, none⟩ = some ve ∧ ∀ j, j < 16 → X.cell? ⟨g1, o1 + j, none⟩ = some (.int .i64 (s.O j : Int)) ∧ X.cell? ⟨g2, o2 + j, none⟩ = some (.int .i64 (s.E j : Int)) := by
  obtain ⟨g1, o1, c1, hv1, hg1, hc1⟩ := h.o
  obtain ⟨g2, o2, c2, hv2, hg2, hc2⟩ := h.e
  refine ⟨g1, o1, c1, g2, o2, c2, hv1, hv2, fun X hX => ?_⟩
  have hb := below_alloc w (.cells #[vo, ve] 29)
  have hs : (w.alloc (.cells #[vo, ve] 29)).heap.size = w.heap.size + 1 := by simp
  refine ⟨?_, ?_, fun j hj => ⟨?_, ?_⟩⟩
  · rw [hX.cell (p := ⟨w.heap.size, 0, none⟩) (by show w.heap.size < _; omega)]
    exact World.cell?_alloc_mark w _ _ _ 0
  · rw [hX.cell (p := ⟨w.heap.size, 1, none⟩) (by show w.heap.size < _; omega)]
    exact World.cell?_alloc_mark w _ _ _ 1
  · rw [hX.cell (p := ⟨g1, o1 + j, none⟩) (by show g1 < _; omega), hb.cell (p := ⟨g1, o1 + j, none⟩) hg1]
    exact hc1 j hj
  · rw [hX.cell (p := ⟨g2, o2 + j, none⟩) (by show g2 < _; omega), hb.cell (p := ⟨g2, o2 + j, none⟩) hg2]
    exact hc2 j hj

set_option maxHeartbeats 1600000 in
set_option maxRecDepth 20000 in
theorem rRangesS_c {w : World} {vo ve : Value} {s : Sl.St} (h : Rm w vo ve s) : Calls Try.prog 37 #[.agg #[vo, ve]] w fun e w' => ∃ v, e = .returned v ∧ Rg w w' v (Sl.rng s.O 16) := by
  obtain ⟨g1, o1, c1, g2, o2, c2, hv1, hv2, hM⟩ := rm_box h
  obtain ⟨u, hu⟩ : ∃ u, u = w.alloc (.cells #[vo, ve] 29) := ⟨_, rfl⟩
  obtain ⟨ba, hba⟩ : ∃ ba, ba = w.heap.size := ⟨_, rfl⟩
  have HBu : Hid (Below w.heap.size w u) := by rw [hu]; exact below_alloc w _
  have HM : Hid (∀ X, Below u.heap.size u X → X.cell? ⟨ba, 0, none⟩ = some vo ∧ ∀ j, j < 16 → X.cell? ⟨g1, o1 + j, none⟩ = some (.int .i64 (s.O j : Int))) := fun X hX => by
    rw [hu] at hX
    obtain ⟨q0, q1, q2⟩ := hM X hX
    rw [hba]
    exact ⟨q0, fun j hj => (q2 j hj).1⟩
  have HEnd : Hid (∀ X v, Rg u X v (Sl.rng s.O 16) → Rg w X v (Sl.rng s.O 16)) := fun X v hX => ⟨hX.row, HBu.out.trans (hX.old.mono HBu.out.size), fun k hk => Nat.le_trans HBu.out.size (hX.new k hk)⟩
  subst hv1 hv2
  clear h hM
  go_enter Try.func37, Try.ntmps37
  go_wp2
  rw [← hu, ← hba]
  clear hu hba
  go_loopw [3, 4] (fun v x wr => ∃ (k n c : Nat) (p : Option Addr), x = .int .i64 (k : Int) ∧ k ≤ 16 ∧ v = .slice p n c ∧ n ≤ k ∧ Hid (n = (Sl.rng s.O k).length) ∧ Hid (Rg u wr (.slice p n c) (Sl.rng s.O k))) (fun _ x _ => 16 - (intOf x).toNat)
  case atStart => exact ⟨0, 0, 0, none, rfl, by omega, rfl, by omega, rfl, Rg.nil u⟩
  case round =>
    obtain ⟨k, n, c, p, rfl, hk, rfl, hnk, HNL, HR⟩ := hrel
    by_cases hlt : k < 16
    · obtain ⟨m0, mj⟩ := HM.out wr HR.out.old
      have mo := mj k hlt
      obtain ⟨ok, hok⟩ : ∃ ok, ok = s.O k := ⟨_, rfl⟩
      rw [← hok] at mo
      have HOK : Hid (ok = s.O k) := hok
      have HRu : Hid (Rg u wr.drew (.slice p n c) (Sl.rng s.O k)) := HR.out.below (below_drew wr)
      have hL : Hid ((n + 1) * 24 ≤ 140737488355328 ∧ n + 1 ≤ maxLen) := by unfold maxLen; exact ⟨by omega, by omega⟩
      obtain ⟨Z, hZ⟩ : ∃ Z, Z = (wr.alloc (.cells #[.int .i64 (k : Int), .int .i64 (k : Int), .int .i64 (ok : Int)] 97)).drew := ⟨_, rfl⟩
      have HRZ : Hid (Rg u Z (.slice p n c) (Sl.rng s.O k)) := HR.out.below (by rw [hZ]; exact (below_alloc _ _).drew)
      have HSrc : Hid (Src Try.prog 3 93 (.slice (some ⟨wr.heap.size, 0, none⟩) 1 1) 1 [.int .i64 (k : Int), .int .i64 (k : Int), .int .i64 (ok : Int)] Z) := by
        refine Src.ofSlice Z Try.underlying93 _ _ _ _ rfl (fun j u hu => ?_) (fun u hu => by simp at hu; rcases hu with rfl | rfl | rfl <;> rfl)
        rw [Addr.add_lit, Nat.zero_add, hZ]
        show (wr.alloc _).cell? _ = _
        rw [World.cell?_alloc_mark]
        simpa using hu
      have HRow : Hid (RowC Z 3 (.slice p n c) n (rgCells (Sl.rng s.O k))) := by have := HRZ.out.row; rw [← HNL.out] at this; exact this
      have HSn : Hid (∀ v' Y, RowC Y 3 v' (n + 1) (rgCells (Sl.rng s.O k) ++ [.int .i64 (k : Int), .int .i64 (k : Int), .int .i64 (ok : Int)]) → Z.grownBy Y (cBlk (.slice p n c)) → (∀ j, cBlk v' = some j → cBlk (.slice p n c) = some j ∨ Z.heap.size ≤ j) → Rg u Y v' (Sl.rng s.O k ++ [(k, k, ok)])) := fun v' Y a1 a2 a3 => Rg.snoc HRZ.out k k ok (by rw [← HNL.out]; exact a1) a2 a3
      clear hok
      by_cases hk0 : k = 0
      · subst hk0
        obtain rfl : n = 0 := by omega
        have HEnd2 : Hid (Sl.rng s.O (0 + 1) = Sl.rng s.O 0 ++ [(0, 0, ok)]) := by rw [HOK.out]; exact Sl.rng_first s.O
        rw [show ((0 : Nat) : Int) = 0 from rfl] at hZ HSrc HSn
        rw [Nat.add_zero] at mo
        clear hk hnk hlt HR HRu HRZ mj
        go_wp2
        go_region
        go_wp2_with (at_builtin; rw [← hZ]; refine wpList_append_rowC rfl (.tmp 32) (.tmp 41) 93 93 97 rfl Try.underlying93 _ 3 24 infoRr rfl (.slice p 0 c) 0 (rgCells (Sl.rng s.O 0)) rfl HRow.out _ 1 _ rfl HSrc.out hL.out.1 hL.out.2 ?qnext)
        case qnext =>
          intro v' Y a1 a2 a3
          rw [← hZ] at a2
          have hN := HSn.out v' Y a1 a2 (fun j hj => Or.elim (a3 j hj) (fun q => .inl q) (fun q => .inr (Nat.le_trans (Nat.le_of_eq (by rw [hZ]; simp)) q)))
          obtain ⟨p', c2, hv', _⟩ := a1.form
          subst hv'
          rw [← HEnd2.out] at hN
          have HN : Hid _ := hN
          clear a1 a2 a3 hN
          go_wp2
          go_roundw
          case rel => exact ⟨1, 1, c2, p', by go_num, by omega, by go_num, by omega, by show 1 = _; rw [Sl.rng_first]; rfl, HN⟩
          case measure => simp [intOf]
      · obtain ⟨kk, rfl⟩ : ∃ kk, k = kk + 1 := ⟨k - 1, by omega⟩
        obtain ⟨pre, l0, hpre, hl0⟩ := Sl.rng_last s.O (kk + 1) (by omega)
        rw [Nat.add_sub_cancel] at hpre
        have hRu := HRu.out
        rw [hpre] at hRu
        obtain ⟨g, off, cc, hv, cg, ch, cf, hg1, hg2, hset⟩ := hRu.last
        obtain ⟨m, hm⟩ : ∃ m, m = pre.length := ⟨_, rfl⟩
        rw [← hm] at hv cg ch cf hset
        injection hv with e1 e2 e3
        subst e1 e2 e3
        have mo2 := mj kk (by omega)
        obtain ⟨og, hog⟩ : ∃ og, og = s.O kk := ⟨_, rfl⟩
        rw [← hog] at hpre cg hset hRu mo2
        have hmk : m + 1 ≤ 16 := by omega
        have hmw : ((m : Int) + 1 - 1) = (m : Int) := by omega
        have hkw : ((kk : Int) + 1 - 1) = (kk : Int) := by omega
        have hk15 : kk < 15 := by omega
        have HPre : Hid (Sl.rng s.O (kk + 1) = pre ++ [(l0, kk, og)]) := hpre
        have HMm : Hid (m = pre.length) := hm
        have ch' : wr.cell? ⟨g, off + m * 3 + 1, none⟩ = some (.int .i64 (kk : Int)) := ch
        have cf' : wr.frozen? ⟨g, off + m * 3 + 1, none⟩ = false := cf
        rw [show ((kk + 1 : Nat) : Int) = (kk : Int) + 1 from rfl] at hZ HSrc HSn
        by_cases hq : ok = og
        · subst hq
          have HEnd2 : Hid (Sl.rng s.O (kk + 1 + 1) = pre ++ [(l0, kk + 1, ok)]) := Sl.rng_same HPre.out HOK.out
          have HSet : Hid (Rg u (wr.drew.setCell ⟨g, off + m * 3 + 1, none⟩ (.int .i64 ((kk + 1 : Nat) : Int))) (.slice (some ⟨g, off, none⟩) (m + 1) (cc + 1)) (pre ++ [(l0, kk + 1, ok)])) := hset wr.drew (kk + 1) hRu
          clear hpre hm hRu hset cg ch cf hog HR HRu HRZ HRow HSn HSrc hZ hL hg1 hg2 HNL mj hk0
          go_wp2
          go_region
          go_wp2
          go_roundw
          case rel => exact ⟨kk + 1 + 1, m + 1, cc + 1, _, by go_num, by omega, by go_num, by omega, by show m + 1 = _; rw [HEnd2.out, HMm.out]; simp, by rw [HEnd2.out]; exact HSet⟩
          case measure => simp [intOf]; omega
        · have hq' : ((ok : Int) == (og : Int)) = false := by simpa using fun h : (ok : Int) = (og : Int) => hq (by omega)
          have HEnd2 : Hid (Sl.rng s.O (kk + 1 + 1) = Sl.rng s.O (kk + 1) ++ [(kk + 1, kk + 1, ok)]) := by rw [HOK.out]; exact Sl.rng_other HPre.out (by rw [← HOK.out]; exact fun e => hq e.symm)
          clear hpre hm hRu hset cg ch cf hog HR HRu HRZ hg1 hg2 ch' cf' hq mj hk0
          go_wp2
          go_region
          go_wp2_with (at_builtin; rw [← hZ]; refine wpList_append_rowC rfl (.tmp 32) (.tmp 41) 93 93 97 rfl Try.underlying93 _ 3 24 infoRr rfl (.slice (some ⟨g, off, none⟩) (m + 1) (cc + 1)) (m + 1) (rgCells (Sl.rng s.O (kk + 1))) rfl HRow.out _ 1 _ rfl HSrc.out hL.out.1 hL.out.2 ?qnext)
          case qnext =>
            intro v' Y a1 a2 a3
            rw [← hZ] at a2
            have hN := HSn.out v' Y a1 a2 (fun j hj => Or.elim (a3 j hj) (fun q => .inl q) (fun q => .inr (Nat.le_trans (Nat.le_of_eq (by rw [hZ]; simp)) q)))
            obtain ⟨p', c2, hv', _⟩ := a1.form
            subst hv'
            rw [← HEnd2.out] at hN
            have HN : Hid _ := hN
            clear a1 a2 a3 hN
            go_wp2
            go_roundw
            case rel => exact ⟨kk + 1 + 1, m + 2, c2, p', by go_num, by omega, by go_num, by omega, by show m + 2 = _; rw [HEnd2.out, List.length_append, ← HNL.out]; rfl, HN⟩
            case measure => simp [intOf]; omega
    · obtain rfl : k = 16 := by omega
      go_wp2
      go_ret
      exact ⟨_, rfl, HEnd.out _ _ HR.out⟩

set_option maxHeartbeats 1600000 in
set_option maxRecDepth 20000 in
theorem rBytesS_c {w : World} {vo ve : Value} {s : Sl.St} (h : Rm w vo ve s) (hk : Sl.Ok s) : Calls Try.prog 38 #[.agg #[vo, ve]] w fun e w' => e = .returned (.string ⟨(Sl.bytesTo s 16).toArray⟩) ∧ Below w.heap.size w w' := by
  obtain ⟨g1, o1, c1, g2, o2, c2, hv1, hv2, hM⟩ := rm_box h
  obtain ⟨u, hu⟩ : ∃ u, u = w.alloc (.cells #[vo, ve] 29) := ⟨_, rfl⟩
  obtain ⟨ba, hba⟩ : ∃ ba, ba = w.heap.size := ⟨_, rfl⟩
  have HBu : Hid (Below w.heap.size w u) := by rw [hu]; exact below_alloc w _
  have HM : Hid (∀ X, Below u.heap.size u X → X.cell? ⟨ba, 0, none⟩ = some vo ∧ X.cell? ⟨ba, 1, none⟩ = some ve ∧ ∀ j, j < 16 → X.cell? ⟨g1, o1 + j, none⟩ = some (.int .i64 (s.O j : Int)) ∧ X.cell? ⟨g2, o2 + j, none⟩ = some (.int .i64 (s.E j : Int))) := fun X hX => by
    rw [hu] at hX
    rw [hba]
    exact hM X hX
  have HLen : Hid (∀ n, n ≤ 16 → (Sl.bytesTo s n).length ≤ 1 + n * 10) := bytesTo_len hk
  have HOk : Hid (Sl.Ok s) := hk
  subst hv1 hv2
  clear h hM hk
  go_enter Try.func38, Try.ntmps38
  go_wp2
  rw [← hu, ← hba]
  clear hu hba
  go_loopw [3, 4] (fun v x wr => ∃ (k : Nat) (t : ByteArray), x = .int .i64 (k : Int) ∧ k ≤ 16 ∧ v = .string t ∧ t.size ≤ 200 ∧ Hid (t = ⟨(Sl.bytesTo s k).toArray⟩) ∧ Hid (Below u.heap.size u wr)) (fun _ x _ => 16 - (intOf x).toNat)
  case atStart => exact ⟨0, ⟨#[83]⟩, rfl, by omega, rfl, by decide, rfl, Below.refl _ _⟩
  case round =>
    obtain ⟨k, t, rfl, hk, rfl, htl, HT, HB⟩ := hrel
    by_cases hlt : k < 16
    · obtain ⟨m0, m1, mj⟩ := HM.out wr HB.out
      obtain ⟨mo, me⟩ := mj k hlt
      obtain ⟨hok1, hok2, hok3, hok4⟩ := HOk.out k hlt
      have HStep : Hid (Sl.bytesTo s k ++ [(s.O k).toUInt8] ++ M.putVar (s.E k) = Sl.bytesTo s (k + 1)) := by show _ = _; rw [Sl.bytesTo]; simp
      have hl9 := M.putVar_length9 (n := s.E k) (by omega)
      have hl1 := HLen.out (k + 1) (by omega)
      obtain ⟨ok, hok⟩ : ∃ ok, ok = s.O k := ⟨_, rfl⟩
      obtain ⟨ek, hek⟩ : ∃ ek, ek = s.E k := ⟨_, rfl⟩
      rw [← hok, ← hek] at HStep
      rw [← hok] at mo hok1 hok2
      rw [← hek] at me hok3 hok4 hl9
      have HPut : Hid _ := ref_PutVar_yes ek wr (by omega)
      obtain ⟨pv, hpv⟩ : ∃ pv : ByteArray, pv = ⟨(M.putVar ek).toArray⟩ := ⟨_, rfl⟩
      rw [← hpv] at HPut
      have hpl : pv.size ≤ 9 := by rw [hpv]; simpa [ByteArray.size] using hl9
      have hw8 : IntKind.u8.wrap (ok : Int) = (ok : Int) := by show (ok : Int) % 256 = _; omega
      have HConv : Hid (∀ X : World, (convert 62 9 (.slice (some ⟨X.heap.size, 0, none⟩) 1 1)).run Try.prog (X.alloc (.cells #[.int .u8 (ok : Int)] 5)) = .ok (.string ⟨#[ok.toUInt8]⟩) (X.alloc (.cells #[.int .u8 (ok : Int)] 5))) := fun X => by
        have hl := lies_new X [ok.toUInt8] 5
        have := hl.conv (P := Try.prog) 1 1 rfl 62 9 5 Try.underlying62 Try.underlying5 Try.underlying9
        simpa [byte_toNat (show ok < 256 by omega)] using this
      obtain ⟨ob, hob⟩ : ∃ ob : ByteArray, ob = ⟨#[ok.toUInt8]⟩ := ⟨_, rfl⟩
      rw [← hob] at HConv
      have hobl : ob.size = 1 := by rw [hob]; rfl
      have HN : Hid (t ++ ob ++ pv = ⟨(Sl.bytesTo s (k + 1)).toArray⟩ ∧ (t ++ ob ++ pv).size ≤ 200) := by
        have e : t ++ ob ++ pv = ⟨(Sl.bytesTo s (k + 1)).toArray⟩ := by
          rw [← HStep.out, HT.out, hob, hpv]
          apply ByteArray.ext
          simp
        refine ⟨e, ?_⟩
        rw [e]
        show (Sl.bytesTo s (k + 1)).toArray.size ≤ 200
        simp
        omega
      have HOk2 : Hid (ok = s.O k) := hok
      clear hok hek hl9 hl1 mj hpv hob HLen HStep
      go_wp2_with fail
      refine Calls.mono HPut.out ?_
      rintro e w2 ⟨rfl, h2⟩
      have HB2 : Hid (Below u.heap.size u w2) := HB.out.trans (h2.mono HB.out.size)
      clear h2 m0 m1 mo me
      obtain ⟨m0, m1, mj⟩ := HM.out w2 HB2.out
      have mo := (mj k hlt).1
      have hcv := HConv.out w2
      rw [← HOk2.out] at mo
      have HB3 : Hid (∀ o, Below u.heap.size u (w2.alloc o)) := fun o => HB2.out.trans ((below_alloc w2 o).mono HB2.out.size)
      have hs1 : t.size + 1 ≤ 201 := by omega
      clear mj HConv m1
      go_wp2
      go_roundw
      case rel => exact ⟨k + 1, t ++ ob ++ pv, by go_num, by omega, rfl, HN.out.2, HN.out.1, HB3.out _⟩
      case measure => simp [intOf]; omega
    · obtain rfl : k = 16 := by omega
      go_wp2
      go_ret
      exact ⟨congrArg (fun z => Ending.returned (Value.string z)) HT.out, HBu.out.trans (HB.out.mono HBu.out.size)⟩

end Go.Proofs.Ytmdnegjpdedcnab
