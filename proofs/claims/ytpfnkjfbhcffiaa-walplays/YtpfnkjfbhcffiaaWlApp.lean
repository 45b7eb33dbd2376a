/-
  Append, Sync, Size.
-/
import Derived.Test.YtpfnkjfbhcffiaaWlSeg
import Derived.Test.YtpfnkjfbhcffiaaClone
namespace Go.Proofs.Ytpfnkjfbhcffiaa
open Go.RowKit

theorem chk_may {gs : Nat → W.Sv} {r : W.Rec} (h : W.chk gs r = 0) : W.may r = true := by
  obtain ⟨h1, h2, _⟩ := W.chk_ok h
  unfold W.may
  rw [h1, h2]
  rfl

theorem recB_size {r : W.Rec} (h : W.may r = true) : (W.recB r).size ≤ 131126 := by
  unfold W.recB
  rw [F.record_size]
  have := payload_size h
  show 9 + (W.payload r).toArray.size ≤ _
  rw [List.size_toArray]
  omega

theorem KeptS.cell {own : Nat → Prop} {w w' : World} (h : KeptS own w w') {B : Nat} (hB : B < w.heap.size) (hn : ¬ own B) (o : Nat) : w'.cell? ⟨B, o, none⟩ = w.cell? ⟨B, o, none⟩ := World.cell?_of_block (a := ⟨B, o, none⟩) (h.block B hB hn)
theorem KeptS.frozen {own : Nat → Prop} {w w' : World} (h : KeptS own w w') {B : Nat} (hB : B < w.heap.size) (hn : ¬ own B) (o : Nat) : w'.frozen? ⟨B, o, none⟩ = w.frozen? ⟨B, o, none⟩ := World.frozen?_of_block (a := ⟨B, o, none⟩) (h.block B hB hn)

/-- Aft from a later world. -/
theorem Aft.from {own : Nat → Prop} {w u w' : World} {p : Pl} {s : St} (hu : Below w.heap.size w u) (h : Aft own u w' p s) : Aft own w w' p s :=
  ⟨h.1.wider (fun k q => by
    rcases q with e | e
    · exact .inl e
    · exact .inr ⟨Nat.le_trans hu.size e.1, e.2⟩) (fun k q => by
    rcases q with e | e
    · exact h.1.here k (.inl e)
    · exact e.2), (KeptS.ofBelow hu).trans h.2 (fun _ _ q => q)⟩

/-- A cell of a block that the log does not own is another one. -/
theorem Aft.set {own : Nat → Prop} {w w' : World} {p : Pl} {s : St} (h : Aft own w w' p s) (a : Addr) (v : Value) (ha : ¬ sinceS own w w' a.block) (hw : w.heap.size ≤ a.block) : Aft own w (w'.setCell a v) p s := by
  refine ⟨(h.1.carry (by rw [size_set]; exact Nat.le_refl _) (fun k hk => Below.heap_setCell _ _ _ _ (fun e => ha (e ▸ hk)))).wider (fun k q => ?_) (fun k q => ?_), ?_⟩
  · rcases q with e | e
    · exact .inl e
    · exact .inr ⟨e.1, by rw [size_set]; exact e.2⟩
  · rw [size_set]
    rcases q with e | e
    · exact h.1.here k (.inl e)
    · rw [size_set] at e; exact e.2
  · exact ⟨h.2.os, h.2.tape, h.2.output, by rw [size_set]; exact h.2.size, fun k hk hn => by rw [Below.heap_setCell _ _ _ _ (by omega)]; exact h.2.block k hk hn⟩

set_option maxHeartbeats 400000 in
theorem Append_no {w : World} {p : Pl} {s : St} {own : Nat → Prop} (h : Lg w p s own) (r : W.Rec) (hc : W.chk s.gs r ≠ 0) :
    Calls Try.prog 13 #[.pointer (some ⟨p.L, 0, none⟩), recV r] w fun e w' => e = .returned (.int .i64 (W.chk s.gs r)) ∧ Below w.heap.size w w' := by
  have HM : Hid (∀ u, Below w.heap.size w u → Calls Try.prog 28 #[.pointer (some ⟨p.L, 0, none⟩)] u fun e w' => e = .returned (.bool true) ∧ w' = u) := fun u hu => made_c (h.below hu)
  have HC : Hid (∀ u, Below w.heap.size w u → Calls Try.prog 29 #[.pointer (some ⟨p.L, 0, none⟩), recV r] u fun e w' => e = .returned (.int .i64 (W.chk s.gs r)) ∧ Below u.heap.size u w') := fun u hu => check_c (h.below hu) r
  obtain ⟨c, hcc⟩ : ∃ c, c = W.chk s.gs r := ⟨_, rfl⟩
  rw [← hcc] at HC hc ⊢
  have t0 : (c != 0) = true := by simpa using hc
  obtain ⟨rg, rk, i, t, vv, d⟩ := r
  unfold recV at HC ⊢
  dsimp only at HC ⊢
  clear h hcc hc
  go_enter Try.func13, Try.ntmps13
  go_wp2_with fail
  refine Calls.mono (HM.out _ (below_alloc _ _)) ?_
  rintro e w1 ⟨rfl, hw⟩
  subst hw
  go_wp2_with fail
  refine Calls.mono (HC.out _ (below_alloc _ _)) ?_
  rintro e w2 ⟨rfl, hb⟩
  have HB : Hid (Below w.heap.size w w2) := (below_alloc _ _).trans (hb.mono (below_alloc _ _).size)
  clear hb
  go_wp2
  go_ret
  exact ⟨rfl, HB.out⟩

set_option maxHeartbeats 400000 in
theorem Append_full {w : World} {p : Pl} {s : St} {own : Nat → Prop} (h : Lg w p s own) (r : W.Rec) (hc : W.chk s.gs r = 0) (hfull : p.room < tot s.A + (wx p.limit s (W.recB r)).size) :
    Calls Try.prog 13 #[.pointer (some ⟨p.L, 0, none⟩), recV r] w fun e w' => e = .returned (.int .i64 30) ∧ Below w.heap.size w w' := by
  have hmay := chk_may hc
  have HM : Hid (∀ u, Below w.heap.size w u → Calls Try.prog 28 #[.pointer (some ⟨p.L, 0, none⟩)] u fun e w' => e = .returned (.bool true) ∧ w' = u) := fun u hu => made_c (h.below hu)
  have HC : Hid (∀ u, Below w.heap.size w u → Calls Try.prog 29 #[.pointer (some ⟨p.L, 0, none⟩), recV r] u fun e w' => e = .returned (.int .i64 0) ∧ Below u.heap.size u w') := fun u hu => by have := check_c (h.below hu) r; rw [hc] at this; exact this
  have HP : Hid _ := fun u => putRecord_c r u hmay
  have HW : Hid (∀ u, Below w.heap.size w u → Calls Try.prog 30 #[.pointer (some ⟨p.L, 0, none⟩), .string (W.recB r)] u fun e w' => e = .returned (.int .i64 30) ∧ Below u.heap.size u w') := fun u hu => write_full (h.below hu) _ (by have := recB_size hmay; omega) hfull
  obtain ⟨x, hx⟩ : ∃ x, x = W.recB r := ⟨_, rfl⟩
  rw [← hx] at HP HW
  obtain ⟨rg, rk, i, t, vv, d⟩ := r
  unfold recV at HC HP ⊢
  dsimp only at HC HP ⊢
  clear h hc hmay hfull hx
  obtain ⟨u, hu⟩ : ∃ u, u = w.alloc (.cells #[.int .i64 rg, .int .i64 rk, .int .i64 i, .int .i64 t, .int .i64 vv, .string d] 37) := ⟨_, rfl⟩
  have HU : Hid (Below w.heap.size w u) := by rw [hu]; exact below_alloc _ _
  obtain ⟨bx, hbx⟩ : ∃ bx, bx = w.heap.size := ⟨_, rfl⟩
  have hbu : bx < u.heap.size := by rw [hu, hbx]; simp
  have ub : ∀ j, u.cell? ⟨bx, j, none⟩ = (#[.int .i64 rg, .int .i64 rk, .int .i64 i, .int .i64 t, .int .i64 vv, .string d] : Array Value)[j]? := by intro j; rw [hu, hbx]; exact World.cell?_alloc_mark w _ _ _ j
  have u0 : u.cell? ⟨bx, 0, none⟩ = some (.int .i64 rg) := ub 0
  have u1 : u.cell? ⟨bx, 1, none⟩ = some (.int .i64 rk) := ub 1
  have u2 : u.cell? ⟨bx, 2, none⟩ = some (.int .i64 i) := ub 2
  have u3 : u.cell? ⟨bx, 3, none⟩ = some (.int .i64 t) := ub 3
  have u4 : u.cell? ⟨bx, 4, none⟩ = some (.int .i64 vv) := ub 4
  have u5 : u.cell? ⟨bx, 5, none⟩ = some (.string d) := ub 5
  clear ub
  go_enter Try.func13, Try.ntmps13
  go_wp2_with fail
  rw [← hu, ← hbx]
  clear hu hbx
  refine Calls.mono (HM.out _ HU.out) ?_
  rintro e w1 ⟨rfl, hw⟩
  subst hw
  go_wp2_with fail
  refine Calls.mono (HC.out _ HU.out) ?_
  rintro e w2 ⟨rfl, hb⟩
  have HB : Hid (Below w.heap.size w w2) := HU.out.trans (hb.mono HU.out.size)
  have y0 := (hb.cell (p := ⟨bx, 0, none⟩) hbu).trans u0
  have y1 := (hb.cell (p := ⟨bx, 1, none⟩) hbu).trans u1
  have y2 := (hb.cell (p := ⟨bx, 2, none⟩) hbu).trans u2
  have y3 := (hb.cell (p := ⟨bx, 3, none⟩) hbu).trans u3
  have y4 := (hb.cell (p := ⟨bx, 4, none⟩) hbu).trans u4
  have y5 := (hb.cell (p := ⟨bx, 5, none⟩) hbu).trans u5
  clear hb
  go_wp2_with fail
  refine Calls.mono (HP.out _) ?_
  rintro e w3 ⟨rfl, hb⟩
  have HB3 : Hid (Below w.heap.size w w3) := HB.out.trans (hb.mono HB.out.size)
  clear hb
  go_wp2_with fail
  refine Calls.mono (HW.out _ HB3.out) ?_
  rintro e w4 ⟨rfl, hb⟩
  have HB4 : Hid (Below w.heap.size w w4) := HB3.out.trans (hb.mono HB3.out.size)
  clear hb
  go_wp2
  go_ret
  exact ⟨rfl, HB4.out⟩

/-- What an append that is not refused makes of a log. -/
def appd (limit : Nat) (s : St) (r : W.Rec) : St := { wr limit s (W.recB r) with gs := W.doR s.gs r }

theorem wr_gs (limit : Nat) (s : St) (x : ByteArray) : (wr limit s x).gs = s.gs := by unfold wr; split <;> rfl

set_option maxHeartbeats 800000 in
theorem Append_yes {w : World} {p : Pl} {s : St} {own : Nat → Prop} (h : Lg w p s own) (r : W.Rec) (hc : W.chk s.gs r = 0) (hfit : tot s.A + (wx p.limit s (W.recB r)).size ≤ p.room) (hf200 : cl p.limit s < 200) :
    Calls Try.prog 13 #[.pointer (some ⟨p.L, 0, none⟩), recV r] w fun e w' => e = .returned (.int .i64 0) ∧ Aft own w w' p (appd p.limit s r) := by
  have hmay := chk_may hc
  have hdat := may_data hmay
  have HM : Hid (∀ u, Below w.heap.size w u → Calls Try.prog 28 #[.pointer (some ⟨p.L, 0, none⟩)] u fun e w' => e = .returned (.bool true) ∧ w' = u) := fun u hu => made_c (h.below hu)
  have HC : Hid (∀ u, Below w.heap.size w u → Calls Try.prog 29 #[.pointer (some ⟨p.L, 0, none⟩), recV r] u fun e w' => e = .returned (.int .i64 0) ∧ Below u.heap.size u w') := fun u hu => by have := check_c (h.below hu) r; rw [hc] at this; exact this
  have HP : Hid _ := fun u => putRecord_c r u hmay
  have HW : Hid (∀ u, Below w.heap.size w u → Calls Try.prog 30 #[.pointer (some ⟨p.L, 0, none⟩), .string (W.recB r)] u fun e w' => e = .returned (.int .i64 0) ∧ Aft own w w' p (wr p.limit s (W.recB r)) ∧ KeptS own u w' ∧ Lg w' p (wr p.limit s (W.recB r)) (sinceS own u w')) := fun u hu => by
    refine (write_yes (h.below hu) _ (by have := recB_size hmay; omega) hfit hf200).mono ?_
    rintro e w' ⟨rfl, ha⟩
    exact ⟨rfl, Aft.from hu ha, ha.2, ha.1⟩
  have HD : Hid (∀ u (own' : Nat → Prop), Lg u p (wr p.limit s (W.recB r)) own' → Calls Try.prog 33 #[.pointer (some ⟨p.L, 0, none⟩), recV r] u fun e w' => e = .returned (.tuple #[]) ∧ Aft own' u w' p (appd p.limit s r)) := by
    intro u own' hu
    refine (do_c hu r (by rw [wr_gs]; exact hc)).mono ?_
    rintro e w' ⟨rfl, h1, h2⟩
    refine ⟨rfl, ?_, h2⟩
    rw [wr_gs] at h1
    exact h1
  have HO : Hid (∀ k, own k → k < w.heap.size) := h.here
  obtain ⟨x, hx⟩ : ∃ x, x = W.recB r := ⟨_, rfl⟩
  obtain ⟨s1, hs1⟩ : ∃ s1, s1 = wr p.limit s (W.recB r) := ⟨_, rfl⟩
  obtain ⟨s2, hs2⟩ : ∃ s2, s2 = appd p.limit s r := ⟨_, rfl⟩
  rw [← hs1, ← hx] at HW
  rw [← hx] at HP
  rw [← hs1, ← hs2] at HD
  rw [← hs2]
  obtain ⟨rg, rk, i, t, vv, d⟩ := r
  unfold recV at HC HP HD ⊢
  dsimp only at HC HP HD hdat ⊢
  have HCl : Hid _ := fun u => Clone_any d u (by omega)
  clear h hc hmay hfit hx hs1 hs2 hdat
  obtain ⟨u, hu⟩ : ∃ u, u = w.alloc (.cells #[.int .i64 rg, .int .i64 rk, .int .i64 i, .int .i64 t, .int .i64 vv, .string d] 37) := ⟨_, rfl⟩
  have HU : Hid (Below w.heap.size w u) := by rw [hu]; exact below_alloc _ _
  obtain ⟨bx, hbx⟩ : ∃ bx, bx = w.heap.size := ⟨_, rfl⟩
  have HBX : Hid (bx = w.heap.size) := hbx
  have hbu : bx < u.heap.size := by rw [hu, hbx]; simp
  have ub : ∀ j, u.cell? ⟨bx, j, none⟩ = (#[.int .i64 rg, .int .i64 rk, .int .i64 i, .int .i64 t, .int .i64 vv, .string d] : Array Value)[j]? := by intro j; rw [hu, hbx]; exact World.cell?_alloc_mark w _ _ _ j
  have uf : ∀ j, u.frozen? ⟨bx, j, none⟩ = false := by intro j; rw [hu, hbx, World.frozen?_alloc_mark]; simp
  have u0 : u.cell? ⟨bx, 0, none⟩ = some (.int .i64 rg) := ub 0
  have u1 : u.cell? ⟨bx, 1, none⟩ = some (.int .i64 rk) := ub 1
  have u2 : u.cell? ⟨bx, 2, none⟩ = some (.int .i64 i) := ub 2
  have u3 : u.cell? ⟨bx, 3, none⟩ = some (.int .i64 t) := ub 3
  have u4 : u.cell? ⟨bx, 4, none⟩ = some (.int .i64 vv) := ub 4
  have u5 : u.cell? ⟨bx, 5, none⟩ = some (.string d) := ub 5
  have HUB : Hid _ := ub
  have HUF : Hid _ := uf
  clear ub uf
  go_enter Try.func13, Try.ntmps13
  go_wp2_with fail
  rw [← hu, ← hbx]
  clear hu hbx
  refine Calls.mono (HM.out _ HU.out) ?_
  rintro e w1 ⟨rfl, hw⟩
  subst hw
  go_wp2_with fail
  refine Calls.mono (HC.out _ HU.out) ?_
  rintro e w2 ⟨rfl, hb⟩
  have HB : Hid (Below w.heap.size w w2) := HU.out.trans (hb.mono HU.out.size)
  have HB12 : Hid _ := hb
  have hbu2 : bx < w2.heap.size := Nat.lt_of_lt_of_le hbu hb.size
  have y0 := (hb.cell (p := ⟨bx, 0, none⟩) hbu).trans u0
  have y1 := (hb.cell (p := ⟨bx, 1, none⟩) hbu).trans u1
  have y2 := (hb.cell (p := ⟨bx, 2, none⟩) hbu).trans u2
  have y3 := (hb.cell (p := ⟨bx, 3, none⟩) hbu).trans u3
  have y4 := (hb.cell (p := ⟨bx, 4, none⟩) hbu).trans u4
  have y5 := (hb.cell (p := ⟨bx, 5, none⟩) hbu).trans u5
  clear hb u0 u1 u2 u3 u4 u5
  go_wp2_with fail
  refine Calls.mono (HP.out _) ?_
  rintro e w3 ⟨rfl, hb⟩
  have HB3 : Hid (Below w.heap.size w w3) := HB.out.trans (hb.mono HB.out.size)
  have HB23 : Hid _ := hb
  clear hb y0 y1 y2 y3 y4 y5
  go_wp2_with fail
  refine Calls.mono (HW.out _ HB3.out) ?_
  rintro e w4 ⟨rfl, ha, hk, hlg⟩
  have HA4 : Hid (Aft own w w4 p s1) := ha
  have hbo : ¬ own bx := fun e => by have := HO.out bx e; rw [HBX.out] at this; omega
  have hb3 : bx < w3.heap.size := Nat.lt_of_lt_of_le hbu2 HB23.out.size
  have z : ∀ j, w4.cell? ⟨bx, j, none⟩ = w1.cell? ⟨bx, j, none⟩ := fun j => ((hk.cell hb3 hbo j).trans (HB23.out.cell (p := ⟨bx, j, none⟩) hbu2)).trans (HB12.out.cell (p := ⟨bx, j, none⟩) hbu)
  have zf : ∀ j, w4.frozen? ⟨bx, j, none⟩ = w1.frozen? ⟨bx, j, none⟩ := fun j => ((hk.frozen hb3 hbo j).trans (HB23.out.frozen (p := ⟨bx, j, none⟩) hbu2)).trans (HB12.out.frozen (p := ⟨bx, j, none⟩) hbu)
  have hb4 : bx < w4.heap.size := Nat.lt_of_lt_of_le hb3 hk.size
  have HNS : Hid (¬ sinceS own w3 w4 bx) := fun e => by
    rcases e with e | e
    · exact hbo e
    · omega
  have z5 : w4.cell? ⟨bx, 5, none⟩ = some (.string d) := (z 5).trans (HUB.out 5)
  have HLG : Hid _ := hlg
  have HZ : Hid _ := z
  have HZF : Hid _ := zf
  have HK34 : Hid _ := hk
  clear ha hk hlg z zf hbo hb3 hbu2 hbu
  go_wp2_with fail
  refine Calls.mono (HCl.out _) ?_
  rintro e w5 ⟨rfl, hb⟩
  have v : ∀ j, w5.cell? ⟨bx, j, none⟩ = (#[.int .i64 rg, .int .i64 rk, .int .i64 i, .int .i64 t, .int .i64 vv, .string d] : Array Value)[j]? := fun j => ((hb.cell (p := ⟨bx, j, none⟩) hb4).trans (HZ.out j)).trans (HUB.out j)
  have v0 : w5.cell? ⟨bx, 0, none⟩ = some (.int .i64 rg) := v 0
  have v1 : w5.cell? ⟨bx, 1, none⟩ = some (.int .i64 rk) := v 1
  have v2 : w5.cell? ⟨bx, 2, none⟩ = some (.int .i64 i) := v 2
  have v3 : w5.cell? ⟨bx, 3, none⟩ = some (.int .i64 t) := v 3
  have v4 : w5.cell? ⟨bx, 4, none⟩ = some (.int .i64 vv) := v 4
  have v5 : w5.cell? ⟨bx, 5, none⟩ = some (.string d) := v 5
  have f5 : w5.frozen? ⟨bx, 5, none⟩ = false := ((hb.frozen (p := ⟨bx, 5, none⟩) hb4).trans (HZF.out 5)).trans (HUF.out 5)
  have HA5 : Hid (Aft own w (w5.setCell ⟨bx, 5, none⟩ (.string d)) p s1) := by
    have h5 : Aft own w w5 p s1 := HA4.out.trans (Aft.same HA4.out.1 hb)
    have h6 : Lg w5 p s1 (sinceS own w3 w4) := Lg.below HLG.out hb
    refine ⟨(h6.carry (by rw [size_set]; exact Nat.le_refl _) (fun k hk => Below.heap_setCell _ _ _ _ (fun e => HNS.out (by have e' : k = bx := e; rw [← e']; exact hk)))).wider (fun k q => ?_) (fun k q => ?_), ?_⟩
    · rcases q with e | e
      · exact .inl e
      · exact .inr ⟨Nat.le_trans HB3.out.size e.1, by rw [size_set]; exact Nat.lt_of_lt_of_le e.2 hb.size⟩
    · rw [size_set]
      rcases q with e | e
      · exact h5.1.here k (.inl e)
      · rw [size_set] at e; exact e.2
    · exact ⟨h5.2.os, h5.2.tape, h5.2.output, by rw [size_set]; exact h5.2.size, fun k hk hn => by rw [Below.heap_setCell _ _ _ _ (by show k ≠ bx; rw [HBX.out]; omega)]; exact h5.2.block k hk hn⟩
  clear hb v z5
  go_wp2_with fail
  refine Calls.mono (HD.out _ _ HA5.out.1) ?_
  rintro e w6 ⟨rfl, h6⟩
  have H6 : Hid _ := HA5.out.trans h6
  clear h6
  go_wp2
  go_ret
  exact ⟨rfl, H6.out⟩

theorem Sync_c {w : World} {p : Pl} {s : St} {own : Nat → Prop} (h : Lg w p s own) :
    Calls Try.prog 15 #[.pointer (some ⟨p.L, 0, none⟩)] w fun e w' => e = .returned (.int .i64 0) ∧ Aft own w w' p { s with S := fun i => if i < 256 then (s.A i).length else s.S i } := by
  have HM : Hid _ := made_c h
  have HS : Hid _ := h.sync
  obtain ⟨c0, _⟩ := h.cells
  clear h
  go_enter Try.func15, Try.ntmps15
  go_wp2_with fail
  refine Calls.mono HM.out ?_
  rintro e w1 ⟨rfl, hw⟩
  subst hw
  go_wp2_with fail
  refine Calls.mono HS.out ?_
  rintro e w2 ⟨rfl, h2⟩
  have H2 : Hid _ := h2
  clear h2
  go_wp2
  go_ret
  exact ⟨rfl, H2.out⟩

theorem Size_c {w : World} {p : Pl} {s : St} {own : Nat → Prop} (h : Lg w p s own) :
    Calls Try.prog 16 #[.pointer (some ⟨p.L, 0, none⟩)] w fun e w' => e = .returned (.int .i64 (tot s.A : Int)) ∧ w' = w := by
  have HM : Hid _ := made_c h
  have HU : Hid (Calls Try.prog 37 #[.pointer (some ⟨p.b, 0, none⟩)] w fun e w' => e = .returned (.int .i64 (tot s.A : Int)) ∧ w' = w) := by
    obtain ⟨dk, E, h⟩ := h
    exact Used_yes h.disk
  obtain ⟨c0, _⟩ := h.cells
  clear h
  go_enter Try.func16, Try.ntmps16
  go_wp2_with fail
  refine Calls.mono HM.out ?_
  rintro e w1 ⟨rfl, hw⟩
  subst hw
  go_wp2_with fail
  refine Calls.mono HU.out ?_
  rintro e w2 ⟨rfl, h2⟩
  subst h2
  go_wp2
  go_ret
  exact ⟨rfl, rfl⟩

end Go.Proofs.Ytpfnkjfbhcffiaa
