/-
  The law's 'does': Take, Between, no call at all.
-/
import Derived.Test.YtpopanfefpehnaaNnDoes2
namespace Go.Proofs.Ytpopanfefpehnaa
open Go.RowKit

section
variable {w X : World} {B n : Nat} {most : Int} {ls : List Q.Lt} {v : Value} {loc : Nat → Prop}

theorem does_Take_some (h : Pn w X B ⟨most, ls⟩ n v loc) (hn : n < 1099511627775) (a b : Int) (tx : ByteArray) {l : Q.Lt} (hl : ls[Q.place a ls.length]? = some l) :
    Calls Try.prog 12 #[.pointer (some ⟨B, 0, none⟩), .agg #[.int .i64 most, v], .agg #[.int .i64 2, .int .i64 a, .int .i64 b, .string tx]] X fun e Y => ∃ v', e = .returned (.tuple #[.agg #[.int .i64 most, v'], .bool true]) ∧ PnE w X Y B ⟨most, ls.eraseIdx (Q.place a ls.length)⟩ n v' loc v := by
  have hlen : ls.length ≤ 1099511627775 := by have q : ls.length ≤ n := h.1.len; omega
  exact does_TakeG h a b tx _ l.fr l.tt l.tx true (fun Z loc' hZ => hZ.take (by omega) a hl) (fun Z hZ => rTake_some hZ hlen most a hl)

theorem does_Take_none (h : Pn w X B ⟨most, ls⟩ n v loc) (a b : Int) (tx : ByteArray) (h0 : ls = []) :
    Calls Try.prog 12 #[.pointer (some ⟨B, 0, none⟩), .agg #[.int .i64 most, v], .agg #[.int .i64 2, .int .i64 a, .int .i64 b, .string tx]] X fun e Y => ∃ v', e = .returned (.tuple #[.agg #[.int .i64 most, v'], .bool true]) ∧ PnE w X Y B ⟨most, ls⟩ n v' loc v := by
  refine does_TakeG h a b tx ⟨most, ls⟩ 0 0 ⟨#[]⟩ false (fun Z loc' hZ => hZ.takeNo a h0) (fun Z hZ => (rTake_none hZ h0 most a).mono ?_)
  rintro e w' ⟨rfl, hr⟩
  exact ⟨_, rfl, hr⟩

theorem does_plain {W : World} (h : Pn w X B ⟨most, ls⟩ n v loc) (hb : Below X.heap.size X W) : PnE w X W B ⟨most, ls⟩ n v loc v :=
  ⟨loc, ⟨(h.1.below hb).more (by omega), h.2.1.below hb, h.2.2⟩, fun _ hk => hk, fun k hk => hb.block k (h.1.lloc hk), fun _ hk => .inl hk⟩

theorem does_same {W : World} {be : Nat} (h : Pn w X B ⟨most, ls⟩ n v loc) (hbe : be = X.heap.size) (hb : Below X.heap.size X W) (hs : be + 2 < W.heap.size) (a b : Value) : PnE w X (fin2 W (be + 2) a b) B ⟨most, ls⟩ n v loc v :=
  does_post h hbe (h.2.1.below hb) hb (fun _ hk => .inl hk) (Below.refl _ _) ((h.1.grow hb).more (by omega)) (fun _ _ => rfl) hs a b

set_option maxHeartbeats 1600000 in
set_option maxRecDepth 20000 in
theorem does_else (h : Pn w X B ⟨most, ls⟩ n v loc) (kd a b : Int) (tx : ByteArray) (h1 : kd ≠ 1) (h2 : kd ≠ 2) (h3 : kd ≠ 3) (h4 : kd ≠ 4) (h5 : kd ≠ 5) :
    Calls Try.prog 12 #[.pointer (some ⟨B, 0, none⟩), .agg #[.int .i64 most, v], .agg #[.int .i64 kd, .int .i64 a, .int .i64 b, .string tx]] X fun e Y => ∃ v', e = .returned (.tuple #[.agg #[.int .i64 most, v'], .bool true]) ∧ PnE w X Y B ⟨most, ls⟩ n v' loc v := by
  obtain ⟨p, c, hv0, hc1, hc2⟩ := RowC.form h.2.1
  obtain ⟨m, hm⟩ : ∃ m, m = ls.length := ⟨_, rfl⟩
  have hv : v = .slice p m c := by rw [hm]; exact hv0
  clear hv0
  rw [hv] at h ⊢
  have HP : Hid (∀ o1 o2 o3, PnE w X (((X.alloc o1).alloc o2).alloc o3) B ⟨most, ls⟩ n (.slice p m c) loc (.slice p m c)) := fun o1 o2 o3 => does_plain h (((below_alloc _ _).trans ((below_alloc _ _).mono (by simp))).trans ((below_alloc _ _).mono (by simp; omega)))
  clear h hc1 hc2 hm hv
  go_enter Try.func12, Try.ntmps12
  go_wp2
  refine bodyPost_ret (v := .tuple #[.agg #[.int .i64 most, .slice p m c], .bool true]) ?qres rfl ?qpost
  case qres => simp [results, Try.results12, go_sem]
  case qpost => exact ⟨_, rfl, HP.out _ _ _⟩

set_option maxHeartbeats 1600000 in
set_option maxRecDepth 20000 in
theorem does_Between (h : Pn w X B ⟨most, ls⟩ n v loc) (hn : n < 1099511627775) (a b : Int) (tx : ByteArray) (ha : In64 a) (hb : In64 b) :
    Calls Try.prog 12 #[.pointer (some ⟨B, 0, none⟩), .agg #[.int .i64 most, v], .agg #[.int .i64 5, .int .i64 a, .int .i64 b, .string tx]] X fun e Y => ∃ v', e = .returned (.tuple #[.agg #[.int .i64 most, v'], .bool true]) ∧ PnE w X Y B ⟨most, ls⟩ n v' loc v := by
  have hlen : ls.length ≤ 1099511627776 := by have q : ls.length ≤ n := h.1.len; omega
  obtain ⟨be, hbe⟩ : ∃ be, be = X.heap.size := ⟨_, rfl⟩
  obtain ⟨p, c, hv0, hc1, hc2⟩ := RowC.form h.2.1
  obtain ⟨m, hm⟩ : ∃ m, m = ls.length := ⟨_, rfl⟩
  have hv : v = .slice p m c := by rw [hm]; exact hv0
  clear hv0
  rw [hv] at h ⊢
  have hx := Bx.start X most (.slice p m c) #[.int .i64 5, .int .i64 a, .int .i64 b, .string tx]
  obtain ⟨W3, hW3⟩ : ∃ W3, W3 = ((X.alloc (.cells #[.int .i64 most, .slice p m c] 29)).alloc (.cells #[.int .i64 5, .int .i64 a, .int .i64 b, .string tx] 34)).alloc (.cells #[.int .i64 0, .slice none 0 0] 29) := ⟨_, rfl⟩
  have hb3 : Below X.heap.size X W3 := by rw [hW3]; exact ((below_alloc _ _).trans ((below_alloc _ _).mono (by simp))).trans ((below_alloc _ _).mono (by simp; omega))
  have hs3 : W3.heap.size = be + 3 := by rw [hW3, hbe]; simp
  rw [← hbe, ← hW3] at hx
  obtain ⟨K, hK⟩ : ∃ K, K = Q.cnt ls a b := ⟨_, rfl⟩
  have HP : Hid (∀ Z, Below W3.heap.size W3 Z → ∀ y z, PnE w X (fin2 Z (be + 2) y z) B ⟨most, ls⟩ n (.slice p m c) loc (.slice p m c)) := fun Z hZ y z => does_same h hbe (hb3.trans (hZ.mono hb3.size)) (by have := hZ.size; omega) y z
  have HD : Hid (∀ Z, Hid (Below W3.heap.size W3 Z) → Calls Try.prog 37 #[.pointer (some ⟨B, 0, none⟩), .int .i64 a, .int .i64 b] Z fun e Y => e = .returned (.int .i64 (K : Int)) ∧ Hid (Below W3.heap.size W3 Y)) := fun Z hZ => by
    refine ((h.1.below (hb3.trans (hZ.out.mono hb3.size))).between a b ha hb).mono ?_
    rintro e Y ⟨rfl, rfl⟩
    exact ⟨by rw [hK], hZ⟩
  have HR : Hid (∀ Z, Hid (Below W3.heap.size W3 Z) → Calls Try.prog 38 #[.agg #[.int .i64 most, .slice p m c], .int .i64 a, .int .i64 b] Z fun e Y => e = .returned (.int .i64 (K : Int)) ∧ Hid (Below W3.heap.size W3 Y)) := fun Z hZ => by
    refine (rBetween_c (h.2.1.below (hb3.trans (hZ.out.mono hb3.size))) hlen most a b).mono ?_
    rintro e Y ⟨rfl, hY⟩
    exact ⟨by rw [hK], hZ.out.trans (hY.mono hZ.out.size)⟩
  have HK : Hid (∀ Z, Hid (Below W3.heap.size W3 Z) → Z.cell? ⟨be, 0, none⟩ = some (.int .i64 most) ∧ Z.cell? ⟨be, 1, none⟩ = some (.slice p m c) ∧ Z.cell? ⟨be + 1, 1, none⟩ = some (.int .i64 a) ∧ Z.cell? ⟨be + 1, 2, none⟩ = some (.int .i64 b)) := fun Z hZ => by
    have q := hx.below hZ.out
    exact ⟨q.q0, q.q1, q.op 1, q.op 2⟩
  have HK3 : Hid (∀ Z y z, Hid (Below W3.heap.size W3 Z) → (fin2 Z (be + 2) y z).cell? ⟨be, 0, none⟩ = some (.int .i64 most) ∧ (fin2 Z (be + 2) y z).cell? ⟨be, 1, none⟩ = some (.slice p m c) ∧ (fin2 Z (be + 2) y z).cell? ⟨be + 1, 1, none⟩ = some (.int .i64 a) ∧ (fin2 Z (be + 2) y z).cell? ⟨be + 1, 2, none⟩ = some (.int .i64 b)) := fun Z y z hZ => by
    have q := HK.out Z hZ
    have e0 : ∀ j, (fin2 Z (be + 2) y z).cell? ⟨be, j, none⟩ = Z.cell? ⟨be, j, none⟩ := fun j => World.cell?_of_block (a := ⟨be, j, none⟩) (fin2_other (by show be ≠ be + 2; omega) _ _)
    have e1 : ∀ j, (fin2 Z (be + 2) y z).cell? ⟨be + 1, j, none⟩ = Z.cell? ⟨be + 1, j, none⟩ := fun j => World.cell?_of_block (a := ⟨be + 1, j, none⟩) (fin2_other (by show be + 1 ≠ be + 2; omega) _ _)
    rw [e0, e0, e1, e1]
    exact q
  have HX : Hid (∀ Z, Hid (Below W3.heap.size W3 Z) → Z.cell? ⟨be + 2, 0, none⟩ = some (.int .i64 0) ∧ Z.cell? ⟨be + 2, 1, none⟩ = some (.slice none 0 0) ∧ Z.frozen? ⟨be + 2, 0, none⟩ = false ∧ Z.frozen? ⟨be + 2, 1, none⟩ = false) := fun Z hZ => by
    have q := hx.below hZ.out
    exact ⟨q.r0, q.r1, q.fr 0, q.fr 1⟩
  have HE : Hid (W3 = ((X.alloc (.cells #[.int .i64 most, .slice p m c] 29)).alloc (.cells #[.int .i64 5, .int .i64 a, .int .i64 b, .string tx] 34)).alloc (.cells #[.int .i64 0, .slice none 0 0] 29) ∧ be = X.heap.size) := ⟨hW3, hbe⟩
  have hgd : Hid (Below W3.heap.size W3 W3.drew) := (Below.refl _ _).drew
  clear h hbe hc1 hc2 hm hv hW3 hb3 hs3 hx hK hlen ha hb hn
  go_enter Try.func12, Try.ntmps12
  go_wp2
  rw [← HE.out.1, ← HE.out.2]
  go_region_held (fun Z => Z.cell? ⟨be, 0, none⟩ = some (.int .i64 most) ∧ Z.cell? ⟨be, 1, none⟩ = some (.slice p m c) ∧ Z.cell? ⟨be + 1, 1, none⟩ = some (.int .i64 a) ∧ Z.cell? ⟨be + 1, 2, none⟩ = some (.int .i64 b))
    (first | exact HK.out _ (by assumption) | exact HK3.out _ _ _ (by assumption))
    (first
      | (go_at_call 37; refine (HD.out _ ?_).mono ?_; assumption; rintro e w1 ⟨rfl, hg1⟩)
      | (go_at_call 38; refine (HR.out _ ?_).mono ?_; assumption; rintro e w2 ⟨rfl, hg2⟩; have hq := HX.out w2 hg2; obtain ⟨r0, r1, rf0, rf1⟩ := hq))
  go_wp2
  obtain ⟨t0, t1⟩ := fin2_cells r0 r1 (.int .i64 most) (.slice p m c)
  unfold fin2 at t0 t1
  refine bodyPost_ret (v := .tuple #[.agg #[.int .i64 most, .slice p m c], .bool true]) ?qres rfl ?qpost
  case qres => simp [results, Try.results12, go_sem, t0, t1]
  case qpost => exact ⟨_, rfl, HP.out w2 hg2.out _ _⟩

end
end Go.Proofs.Ytpopanfefpehnaa
