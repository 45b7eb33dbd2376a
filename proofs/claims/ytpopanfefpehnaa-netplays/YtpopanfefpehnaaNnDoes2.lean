/-
  The law's 'does': Take on both sides.
-/
import Derived.Test.YtpopanfefpehnaaNnDoes
namespace Go.Proofs.Ytpopanfefpehnaa
open Go.RowKit

theorem does_post2 {w X W3 w4 w6 w8 : World} {B n be : Nat} {s s' : Q.St} {v v' : Value} {loc : Nat → Prop} (h : Pn w X B s n v loc) (hbe : be = X.heap.size) (hb3 : Below X.heap.size X W3) (hs3 : W3.heap.size = be + 3)
    (hnf : Nf w w4 B s' (n + 1) (fun k => loc k ∨ (X.heap.size ≤ k ∧ k < W3.heap.size))) (hk4 : ∀ k, (loc k ∨ (X.heap.size ≤ k ∧ k < W3.heap.size)) → w4.heap[k]? = W3.heap[k]?) (hs4 : W3.heap.size ≤ w4.heap.size)
    (hb6 : Below w4.heap.size w4 w6) (hro : Ls w6 v' s'.ls) (hv : ∀ k, cBlk v' = some k → cBlk v = some k ∨ w4.heap.size ≤ k) (hb8 : Below w6.heap.size w6 w8) (a b : Value) : PnE w X (fin2 w8 (be + 2) a b) B s' n v' loc v := by
  have hX := h.1.old.size
  have hs6 := hb6.size
  have hs8 := hb8.size
  have hb48 : Below w4.heap.size w4 w8 := hb6.trans (hb8.mono hb6.size)
  have hg := hnf.grow hb48
  have hvl : ∀ k, cBlk v' = some k → ((loc k ∨ (X.heap.size ≤ k ∧ k < W3.heap.size)) ∨ (w4.heap.size ≤ k ∧ k < w8.heap.size)) ∧ k ≠ be + 2 ∧ k < w6.heap.size := fun k hk => by
    have hk6 : k < w6.heap.size := RowC.lt hro (by omega) hk
    rcases hv k hk with q | q
    · have ql := h.2.2 k q
      have := h.1.lloc ql
      exact ⟨.inl (.inl ql), by omega, hk6⟩
    · exact ⟨.inr ⟨q, by omega⟩, by omega, hk6⟩
  refine ⟨_, ⟨(hg.set (be + 2) 0 (.inl (.inr ⟨by omega, by omega⟩)) (by omega) a).set (be + 2) 1 (.inl (.inr ⟨by omega, by omega⟩)) (by omega) b, RowC.carry hro (fun k hk => ?_), fun k hk => (hvl k hk).1⟩, fun k hk => .inl (.inl hk), fun k hk => ?_, fun k hk => by
    rcases hv k hk with q | q
    · exact .inl q
    · exact .inr (by omega)⟩
  · obtain ⟨q1, q2, q3⟩ := hvl k hk
    rw [fin2_other q2]
    exact hb8.block k q3
  · have hlt := h.1.lloc hk
    rw [fin2_other (by omega), hb48.block k (by omega), hk4 k (.inl hk)]
    exact hb3.block k hlt

theorem drew_set8 (w : World) (p : Addr) (v : Value) : (w.setCell p v).drew = w.drew.setCell p v := rfl

section
variable {w X : World} {B n : Nat} {most : Int} {ls : List Q.Lt} {v : Value} {loc : Nat → Prop}

set_option maxHeartbeats 1600000 in
set_option maxRecDepth 20000 in
theorem does_TakeG (h : Pn w X B ⟨most, ls⟩ n v loc) (a b : Int) (tx : ByteArray) (s' : Q.St) (f t : Int) (x : ByteArray) (K : Bool)
    (hD : ∀ Z loc', Nf w Z B ⟨most, ls⟩ n loc' → Calls Try.prog 30 #[.pointer (some ⟨B, 0, none⟩), .int .i64 a] Z fun e Y => e = .returned (.tuple #[.agg #[.int .i64 f, .int .i64 t, .string x], .bool K]) ∧ Nf w Y B s' (n + 1) loc' ∧ (∀ k, loc' k → Y.heap[k]? = Z.heap[k]?) ∧ Z.heap.size ≤ Y.heap.size)
    (hR : ∀ Z, Ls Z v ls → Calls Try.prog 32 #[.agg #[.int .i64 most, v], .int .i64 a] Z fun e w' => ∃ v', e = .returned (.tuple #[.agg #[.int .i64 most, v'], .agg #[.int .i64 f, .int .i64 t, .string x], .bool K]) ∧ ROut Z v w' v' s'.ls) :
    Calls Try.prog 12 #[.pointer (some ⟨B, 0, none⟩), .agg #[.int .i64 most, v], .agg #[.int .i64 2, .int .i64 a, .int .i64 b, .string tx]] X fun e Y => ∃ v', e = .returned (.tuple #[.agg #[.int .i64 most, v'], .bool true]) ∧ PnE w X Y B s' n v' loc v := by
  obtain ⟨be, hbe⟩ : ∃ be, be = X.heap.size := ⟨_, rfl⟩
  obtain ⟨p, c, hv0, hc1, hc2⟩ := RowC.form h.2.1
  obtain ⟨m, hm⟩ : ∃ m, m = ls.length := ⟨_, rfl⟩
  have hv : v = .slice p m c := by rw [hm]; exact hv0
  clear hv0
  rw [hv] at h hR ⊢
  have hx := Bx.start X most (.slice p m c) #[.int .i64 2, .int .i64 a, .int .i64 b, .string tx]
  obtain ⟨W3, hW3⟩ : ∃ W3, W3 = ((X.alloc (.cells #[.int .i64 most, .slice p m c] 29)).alloc (.cells #[.int .i64 2, .int .i64 a, .int .i64 b, .string tx] 34)).alloc (.cells #[.int .i64 0, .slice none 0 0] 29) := ⟨_, rfl⟩
  have hb3 : Below X.heap.size X W3 := by rw [hW3]; exact ((below_alloc _ _).trans ((below_alloc _ _).mono (by simp))).trans ((below_alloc _ _).mono (by simp; omega))
  have hs3 : W3.heap.size = be + 3 := by rw [hW3, hbe]; simp
  rw [← hbe, ← hW3] at hx
  have hLs3 : Ls W3 (.slice p m c) ls := h.2.1.below hb3
  have HP : Hid (Pn w X B ⟨most, ls⟩ n (.slice p m c) loc) := h
  have HW : Hid (be = X.heap.size ∧ Below X.heap.size X W3 ∧ W3.heap.size = be + 3) := ⟨hbe, hb3, hs3⟩
  have HX : Hid (Bx be most (.slice p m c) #[.int .i64 2, .int .i64 a, .int .i64 b, .string tx] W3) := hx
  have HD : Hid (Calls Try.prog 30 #[.pointer (some ⟨B, 0, none⟩), .int .i64 a] W3 fun e Y => e = .returned (.tuple #[.agg #[.int .i64 f, .int .i64 t, .string x], .bool K]) ∧ Hid (Nf w Y B s' (n + 1) (fun k => loc k ∨ (X.heap.size ≤ k ∧ k < W3.heap.size)) ∧ (∀ k, (loc k ∨ (X.heap.size ≤ k ∧ k < W3.heap.size)) → Y.heap[k]? = W3.heap[k]?) ∧ W3.heap.size ≤ Y.heap.size) ∧ Bx be most (.slice p m c) #[.int .i64 2, .int .i64 a, .int .i64 b, .string tx] Y ∧ Hid (Ls Y (.slice p m c) ls)) := by
    refine (hD _ _ (h.1.grow hb3)).mono ?_
    rintro e Y ⟨rfl, q1, q2, q3⟩
    refine ⟨rfl, ⟨q1, q2, q3⟩, hx.keep (q2 be (.inr ⟨by omega, by omega⟩)) (q2 (be + 1) (.inr ⟨by omega, by omega⟩)) (q2 (be + 2) (.inr ⟨by omega, by omega⟩)), RowC.carry hLs3 (fun k hk => q2 k (.inl (h.2.2 k hk)))⟩
  have HR : Hid (∀ Z, Ls Z (.slice p m c) ls → Calls Try.prog 32 #[.agg #[.int .i64 most, .slice p m c], .int .i64 a] Z fun e w' => ∃ v', e = .returned (.tuple #[.agg #[.int .i64 most, v'], .agg #[.int .i64 f, .int .i64 t, .string x], .bool K]) ∧ ROut Z (.slice p m c) w' v' s'.ls) := hR
  obtain ⟨x0, x1, xo, y0, y1, yf⟩ := hx
  have o0 : W3.cell? ⟨be + 1, 0, none⟩ = some (.int .i64 2) := xo 0
  have o1 : W3.cell? ⟨be + 1, 1, none⟩ = some (.int .i64 a) := xo 1
  have HE : Hid (W3 = ((X.alloc (.cells #[.int .i64 most, .slice p m c] 29)).alloc (.cells #[.int .i64 2, .int .i64 a, .int .i64 b, .string tx] 34)).alloc (.cells #[.int .i64 0, .slice none 0 0] 29) ∧ be = X.heap.size) := ⟨hW3, hbe⟩
  clear h hbe hc1 hc2 hm hv hW3 hb3 hs3 xo yf y0 y1 hLs3 hD hR
  go_enter Try.func12, Try.ntmps12
  go_wp2_with fail
  rw [← HE.out.1, ← HE.out.2]
  refine Calls.mono HD.out ?_
  rintro e w4 ⟨rfl, hq4, hx4, hls4⟩
  have HX4 : Hid (Bx be most (.slice p m c) #[.int .i64 2, .int .i64 a, .int .i64 b, .string tx] w4) := hx4
  clear x0 x1 o0 o1
  obtain ⟨x0, x1, xo, y0, y1, yf⟩ := hx4
  have o0 : w4.cell? ⟨be + 1, 0, none⟩ = some (.int .i64 2) := xo 0
  have o1 : w4.cell? ⟨be + 1, 1, none⟩ = some (.int .i64 a) := xo 1
  clear xo y0 y1 yf
  obtain ⟨ea, hea⟩ : ∃ ea, ea = w4.heap.size := ⟨_, rfl⟩
  obtain ⟨w5, hw5⟩ : ∃ w5, w5 = w4.alloc (.cells #[.int .i64 f, .int .i64 t, .string x] 78) := ⟨_, rfl⟩
  have hb5 : Below w4.heap.size w4 w5 := by rw [hw5]; exact below_alloc _ _
  have HRa : Hid _ := HR.out w5 (hls4.out.below hb5)
  have HX5 : Hid (Bx be most (.slice p m c) #[.int .i64 2, .int .i64 a, .int .i64 b, .string tx] w5) := HX4.out.below hb5
  have HA : Hid (∀ j, w5.cell? ⟨ea, j, none⟩ = (#[.int .i64 f, .int .i64 t, .string x] : Array Value)[j]?) := fun j => by rw [hw5]; exact (cell_new w4 _ _ hea.symm j).1
  have HB5 : Hid (Below w4.heap.size w4 w5 ∧ ea < w5.heap.size ∧ ea = w4.heap.size) := ⟨hb5, by rw [hw5, hea]; simp, hea⟩
  have HL4 : Hid (be + 3 ≤ ea) := by have := hq4.out.2.2; have := HW.out.2.2; show _ ≤ _; omega
  have u0 := HX5.out.q0
  have u1 := HX5.out.q1
  have u2 : w5.cell? ⟨be + 1, 1, none⟩ = some (.int .i64 a) := HX5.out.op 1
  have HW5 : Hid (w5 = w4.alloc (.cells #[.int .i64 f, .int .i64 t, .string x] 78)) := hw5
  rw [hw5] at u0 u1 u2
  clear HD HR hls4 hb5 HX4 hw5 hea x0 x1 o0 o1
  go_wp2_with fail
  rw [← HW5.out, ← HB5.out.2.2]
  clear u0 u1 u2
  refine Calls.mono HRa.out ?_
  rintro e w6 ⟨v', rfl, hro⟩
  obtain ⟨p', c', hv0, _⟩ := RowC.form hro.1
  obtain ⟨m', hm'⟩ : ∃ m', m' = s'.ls.length := ⟨_, rfl⟩
  have hv' : v' = .slice p' m' c' := by rw [hm']; exact hv0
  clear hv0
  subst hv'
  have HRo : Hid (ROut w5 (.slice p m c) w6 (.slice p' m' c') s'.ls) := hro
  have HX6 : Hid (Bx be most (.slice p m c) #[.int .i64 2, .int .i64 a, .int .i64 b, .string tx] w6) := HX5.out.below hro.2.1
  obtain ⟨et, het⟩ : ∃ et, et = w6.heap.size := ⟨_, rfl⟩
  obtain ⟨w7, hw7⟩ : ∃ w7, w7 = w6.alloc (.cells #[.int .i64 most, .slice p' m' c'] 29) := ⟨_, rfl⟩
  obtain ⟨w8, hw8⟩ : ∃ w8, w8 = w7.alloc (.cells #[.int .i64 f, .int .i64 t, .string x] 82) := ⟨_, rfl⟩
  have hb7 : Below w6.heap.size w6 w7 := by rw [hw7]; exact below_alloc _ _
  have hs7 : w7.heap.size = et + 1 := by rw [hw7, het]; simp
  have hb8 : Below w7.heap.size w7 w8.drew := by rw [hw8]; exact (below_alloc _ _).drew
  have hs8 : w8.drew.heap.size = et + 2 := by rw [hw8]; show (w7.alloc _).heap.size = _; simp; omega
  have hb68 : Below w6.heap.size w6 w8.drew := hb7.trans (hb8.mono hb7.size)
  have hl56 := HRo.out.2.1.size
  have hl5 := HB5.out.2.1
  have hcT : ∀ j, w8.drew.cell? ⟨et, j, none⟩ = (#[.int .i64 most, .slice p' m' c'] : Array Value)[j]? := fun j => by
    rw [hb8.cell (p := ⟨et, j, none⟩) (by show et < _; omega), hw7]
    exact (cell_new w6 _ _ het.symm j).1
  have hcB : ∀ j, w8.drew.cell? ⟨et + 1, j, none⟩ = (#[.int .i64 f, .int .i64 t, .string x] : Array Value)[j]? := fun j => by
    rw [cell_drew, hw8]
    exact (cell_new w7 _ _ hs7 j).1
  have hcA : ∀ j, w8.drew.cell? ⟨ea, j, none⟩ = (#[.int .i64 f, .int .i64 t, .string x] : Array Value)[j]? := fun j =>
    (hb68.cell (p := ⟨ea, j, none⟩) (by show ea < _; omega)).trans ((HRo.out.2.1.cell (p := ⟨ea, j, none⟩) hl5).trans (HA.out j))
  have hx8 : Bx be most (.slice p m c) #[.int .i64 2, .int .i64 a, .int .i64 b, .string tx] w8.drew := HX6.out.below hb68
  have z0 := hx8.r0
  have z1 := hx8.r1
  have f0 := hx8.fr 0
  have f1 := hx8.fr 1
  have z0' : w8.cell? ⟨be + 2, 0, none⟩ = some (.int .i64 0) := by rw [← cell_drew]; exact z0
  have z1' : w8.cell? ⟨be + 2, 1, none⟩ = some (.slice none 0 0) := by rw [← cell_drew]; exact z1
  have f0' : w8.frozen? ⟨be + 2, 0, none⟩ = false := f0
  have f1' : w8.frozen? ⟨be + 2, 1, none⟩ = false := f1
  have HB : Hid (Below w4.heap.size w4 w6 ∧ Ls w6 (.slice p' m' c') s'.ls ∧ (∀ k, cBlk (.slice p' m' c') = some k → cBlk (.slice p m c) = some k ∨ w4.heap.size ≤ k) ∧ Below w6.heap.size w6 w8.drew) := by
    have q := HB5.out.1
    refine ⟨q.trans (HRo.out.2.1.mono q.size), HRo.out.1, fun k hk => ?_, hb68⟩
    rcases HRo.out.2.2 k hk with e | e
    · exact .inl e
    · exact .inr (Nat.le_trans q.size e)
  have HKb : Hid (∀ Z : World, (Z.heap[et]? = w8.drew.heap[et]? ∧ Z.heap[et + 1]? = w8.drew.heap[et + 1]? ∧ Z.heap[ea]? = w8.drew.heap[ea]?) → Z.cell? ⟨et, 0, none⟩ = some (.int .i64 most) ∧ Z.cell? ⟨et, 1, none⟩ = some (.slice p' m' c') ∧ Z.cell? ⟨et + 1, 0, none⟩ = some (.int .i64 f) ∧ Z.cell? ⟨et + 1, 1, none⟩ = some (.int .i64 t) ∧ Z.cell? ⟨et + 1, 2, none⟩ = some (.string x) ∧ Z.cell? ⟨ea, 0, none⟩ = some (.int .i64 f) ∧ Z.cell? ⟨ea, 1, none⟩ = some (.int .i64 t) ∧ Z.cell? ⟨ea, 2, none⟩ = some (.string x)) := fun Z hZ =>
    ⟨(World.cell?_of_block (a := ⟨et, 0, none⟩) hZ.1).trans (hcT 0), (World.cell?_of_block (a := ⟨et, 1, none⟩) hZ.1).trans (hcT 1), (World.cell?_of_block (a := ⟨et + 1, 0, none⟩) hZ.2.1).trans (hcB 0), (World.cell?_of_block (a := ⟨et + 1, 1, none⟩) hZ.2.1).trans (hcB 1), (World.cell?_of_block (a := ⟨et + 1, 2, none⟩) hZ.2.1).trans (hcB 2), (World.cell?_of_block (a := ⟨ea, 0, none⟩) hZ.2.2).trans (hcA 0), (World.cell?_of_block (a := ⟨ea, 1, none⟩) hZ.2.2).trans (hcA 1), (World.cell?_of_block (a := ⟨ea, 2, none⟩) hZ.2.2).trans (hcA 2)⟩
  have HLt : Hid (be + 2 < et ∧ be + 2 < ea) := by have := HL4.out; exact ⟨by omega, by omega⟩
  have HKc : Hid (∀ (y z : Value), (fin2 w8.drew (be + 2) y z).cell? ⟨et, 0, none⟩ = some (.int .i64 most) ∧ (fin2 w8.drew (be + 2) y z).cell? ⟨et, 1, none⟩ = some (.slice p' m' c') ∧ (fin2 w8.drew (be + 2) y z).cell? ⟨et + 1, 0, none⟩ = some (.int .i64 f) ∧ (fin2 w8.drew (be + 2) y z).cell? ⟨et + 1, 1, none⟩ = some (.int .i64 t) ∧ (fin2 w8.drew (be + 2) y z).cell? ⟨et + 1, 2, none⟩ = some (.string x) ∧ (fin2 w8.drew (be + 2) y z).cell? ⟨ea, 0, none⟩ = some (.int .i64 f) ∧ (fin2 w8.drew (be + 2) y z).cell? ⟨ea, 1, none⟩ = some (.int .i64 t) ∧ (fin2 w8.drew (be + 2) y z).cell? ⟨ea, 2, none⟩ = some (.string x)) := fun y z => by
    have := HLt.out
    exact HKb.out _ ⟨fin2_other (by omega) _ _, fin2_other (by omega) _ _, fin2_other (by omega) _ _⟩
  have HK0 : Hid _ := HKb.out w8.drew ⟨rfl, rfl, rfl⟩
  have HW8 : Hid (w8 = (w6.alloc (.cells #[.int .i64 most, .slice p' m' c'] 29)).alloc (.cells #[.int .i64 f, .int .i64 t, .string x] 82)) := by rw [← hw7]; exact hw8
  clear hro hm' HRa hw7 hw8 hb7 hs7 hb8 hs8 hb68 hl56 hl5 hcT hcB hcA hx8 HKb
  go_wp2
  rw [← HW8.out, ← het]
  clear het
  obtain ⟨t0, t1⟩ := fin2_cells z0 z1 (.int .i64 most) (.slice p' m' c')
  have HPost : Hid (PnE w X (fin2 w8.drew (be + 2) (.int .i64 most) (.slice p' m' c')) B s' n (.slice p' m' c') loc (.slice p m c)) := does_post2 HP.out HW.out.1 HW.out.2.1 HW.out.2.2 hq4.out.1 hq4.out.2.1 hq4.out.2.2 HB.out.1 HB.out.2.1 HB.out.2.2.1 HB.out.2.2.2 _ _
  have HTT : Hid ((fin2 w8.drew (be + 2) (.int .i64 most) (.slice p' m' c')).cell? ⟨be + 2, 0, none⟩ = some (.int .i64 most) ∧ (fin2 w8.drew (be + 2) (.int .i64 most) (.slice p' m' c')).cell? ⟨be + 2, 1, none⟩ = some (.slice p' m' c')) := ⟨t0, t1⟩
  obtain ⟨F, hF⟩ : ∃ F, F = fin2 w8.drew (be + 2) (.int .i64 most) (.slice p' m' c') := ⟨_, rfl⟩
  have HF : Hid (F = (w8.drew.setCell ⟨be + 2, 0, none⟩ (.int .i64 most)).setCell ⟨be + 2, 1, none⟩ (.slice p' m' c')) := hF
  rw [← hF] at HPost HTT
  clear t0 t1 hF
  go_region_held (fun Z => Z.cell? ⟨et, 0, none⟩ = some (.int .i64 most) ∧ Z.cell? ⟨et, 1, none⟩ = some (.slice p' m' c') ∧ Z.cell? ⟨et + 1, 0, none⟩ = some (.int .i64 f) ∧ Z.cell? ⟨et + 1, 1, none⟩ = some (.int .i64 t) ∧ Z.cell? ⟨et + 1, 2, none⟩ = some (.string x) ∧ Z.cell? ⟨ea, 0, none⟩ = some (.int .i64 f) ∧ Z.cell? ⟨ea, 1, none⟩ = some (.int .i64 t) ∧ Z.cell? ⟨ea, 2, none⟩ = some (.string x))
    (first | exact HK0.out | exact HKc.out _ _)
    (fail)
  go_wp2
  rw [show ((w8.setCell ⟨be + 1 + 1, 0, none⟩ (.int .i64 most)).setCell ⟨be + 1 + 1, 1, none⟩ (.slice p' m' c')).drew = F by rw [HF.out, ← drew_set8, ← drew_set8]]
  obtain ⟨t0, t1⟩ := HTT.out
  refine bodyPost_ret (v := .tuple #[.agg #[.int .i64 most, .slice p' m' c'], .bool true]) ?qres rfl ?qpost
  case qres => simp [results, Try.results12, go_sem, t0, t1]
  case qpost => exact ⟨_, rfl, HPost.out⟩

end
end Go.Proofs.Ytpopanfefpehnaa
