/-
  For all many and limit: WalCleans answers true: cleaned, a log of entries that were compacted is small, also behind a crash; the arguments read afterwards as before. No condition.
-/
import Derived.Test.YtagcnhkodmjkgaaWlLo
import Derived.Test.YtagcnhkodmjkgaaWlAwake
import Derived.Test.YtagcnhkodmjkgaaDkMask
import Derived.ProofKit
import Derived.OpenShut
import Derived.ShutString
import Derived.SizedLaws
namespace Go.Proofs.Ytagcnhkodmjkgaa.walCleans
open Go.ChangeShapes Go.WideShapes Go.ChangeAt Go.RowKit
open Go.ChangeMaps (open_string shut_string)

theorem and_4095 (x : Int) : bits .and .i64 x 4095 = x % 4096 := by
  have h1 : (BitVec.ofInt 64 (4095 : Int)).toNat = 2 ^ 12 - 1 := by decide
  have h2 : (BitVec.ofInt 64 x).toNat = (x % 18446744073709551616).toNat := by rw [BitVec.toNat_ofInt]; rfl
  show IntKind.i64.wrap ((BitVec.ofInt 64 x &&& BitVec.ofInt 64 4095).toNat : Int) = _
  rw [BitVec.toNat_and, h1, h2, Nat.and_two_pow_sub_one_eq_mod, wraps_i64 _ (by omega) (by rw [pow63]; omega)]
  omega
theorem and_127 (x : Int) : bits .and .i64 x 127 = x % 128 := by
  have h1 : (BitVec.ofInt 64 (127 : Int)).toNat = 2 ^ 7 - 1 := by decide
  have h2 : (BitVec.ofInt 64 x).toNat = (x % 18446744073709551616).toNat := by rw [BitVec.toNat_ofInt]; rfl
  show IntKind.i64.wrap ((BitVec.ofInt 64 x &&& BitVec.ofInt 64 127).toNat : Int) = _
  rw [BitVec.toNat_and, h1, h2, Nat.and_two_pow_sub_one_eq_mod, wraps_i64 _ (by omega) (by rw [pow63]; omega)]
  omega

/-- A text of 200 zeros. -/
def z200 : ByteArray := ⟨(List.replicate 200 (0 : UInt8)).toArray⟩
/-- Group 1 with j entries. -/
def svE (j : Nat) : W.Sv := { W.new with ents := List.replicate j (1, z200) }
def gsE (j : Nat) : Nat → W.Sv := upd (fun _ => W.new) 1 (svE j)
def all3 : ByteArray := ⟨#[97, 108, 108]⟩
def rb (n : Nat) : W.Rec := ⟨1, 4, (n : Int), 1, 0, all3⟩
def svB (n : Nat) : W.Sv := ⟨0, -1, (n : Int), 1, all3, []⟩
def gsB (n : Nat) : Nat → W.Sv := upd (fun _ => W.new) 1 (svB n)

theorem gsE_zero : gsE 0 = fun _ => W.new := W.upd_self _ _ _ rfl
theorem gsE_one (j : Nat) : gsE j 1 = svE j := upd_same _ _ _
theorem svE_ones (j : Nat) : Ones (svE j) := ⟨rfl, rfl, fun e he => by
  have := List.eq_of_mem_replicate he
  rw [this]⟩
theorem svE_len (j : Nat) : (svE j).ents.length = j := List.length_replicate

theorem chk_entry (j : Nat) (h : j ≤ 1000) : W.chk (gsE j) (rc 1 j 200) = 0 :=
  rc_chk (gi := 1) (by omega) (by rw [gsE_one]; exact svE_ones j) (by rw [gsE_one, svE_len]) h (by omega)

theorem do_entry (j : Nat) : W.doR (gsE j) (rc 1 j 200) = gsE (j + 1) := by
  unfold W.doR
  have hg : (rc 1 j 200).group.toNat = 1 := rfl
  rw [hg, gsE_one]
  unfold gsE
  rw [W.upd_upd]
  congr 1
  unfold W.fold
  have hk : (rc 1 j 200).kind = 2 := rfl
  rw [if_neg (by omega), if_pos hk]
  unfold W.doEntry svE
  rw [List.replicate_succ']
  rfl

theorem chk_base (n : Nat) (h : n ≤ 1000) : W.chk (gsE n) (rb n) = 0 := by
  have hk : (rb n).kind = 4 := rfl
  have hg : (rb n).group.toNat = 1 := rfl
  have hi : (rb n).index = (n : Int) := rfl
  have hs : (gsE n 1).base = 0 := by rw [gsE_one]; rfl
  have h1 : W.mayBase (rb n) = true := by
    unfold W.mayBase
    rw [hi, W.ix_iff.2 ⟨by omega, by omega⟩]
    rfl
  have h2 : W.mayK (rb n) = true := by
    unfold W.mayK
    rw [hk, if_neg (by decide), if_neg (by decide), if_neg (by decide), if_pos rfl]
    exact h1
  have h3 : W.may (rb n) = true := by
    unfold W.may
    rw [h2]
    rfl
  have h4 : W.fits (gsE n 1) (rb n) = true := by
    unfold W.fits
    rw [hk, if_neg (by decide), if_neg (by decide), if_neg (by decide)]
    unfold W.fitsBase
    rw [hi, hs]
    exact decide_eq_true (by omega)
  unfold W.chk
  rw [h3, if_pos rfl, hg, h4, if_pos rfl]

theorem do_base (n : Nat) : W.doR (gsE n) (rb n) = gsB n := by
  unfold W.doR
  have hg : (rb n).group.toNat = 1 := rfl
  rw [hg, gsE_one]
  unfold gsE gsB
  rw [W.upd_upd]
  congr 1
  unfold W.fold
  have hk : (rb n).kind = 4 := rfl
  rw [if_neg (by omega), if_neg (by omega), if_neg (by omega)]
  unfold W.doBase svB
  have e : (if W.stays (svE n) (rb n) = true then (svE n).ents.drop ((rb n).index - (svE n).base).toNat else []) = [] := by
    split
    · have h1 : ((rb n).index - (svE n).base).toNat = n := by show ((n : Int) - 0).toNat = n; omega
      rw [h1]
      exact List.drop_eq_nil_of_le (by rw [svE_len]; omega)
    · rfl
  rw [e]
  rfl

theorem few_base_only (n : Nat) : W.fewTo (gsB n) 9 = [rb n] := by
  have h0 : ∀ i, i ≠ 1 → W.few i (gsB n i) = [] := by
    intro i hi
    have e : gsB n i = W.new := upd_other _ _ hi
    rw [e]
    unfold W.few W.fewH W.fewB W.new
    rw [if_neg (by simp), if_neg (by simp)]
    rfl
  have h1 : W.few 1 (gsB n 1) = [rb n] := by
    have e : gsB n 1 = svB n := upd_same _ _ _
    rw [e]
    unfold W.few W.fewH W.fewB svB
    rw [if_neg (by simp), if_pos (.inr (.inl (by simp)))]
    rfl
  simp only [W.fewTo]
  rw [h0 0 (by omega), h1, h0 2 (by omega), h0 3 (by omega), h0 4 (by omega), h0 5 (by omega), h0 6 (by omega), h0 7 (by omega), h0 8 (by omega)]
  rfl

theorem rb_size (n : Nat) (h : n ≤ 1000) : (W.recs (W.fewTo (gsB n) 9)).size ≤ 57 := by
  rw [few_base_only]
  have := recB_size2 (chk_may (chk_base n h))
  have e : (rb n).data.size = 3 := rfl
  show (W.recB (rb n) ++ W.recs []).size ≤ 57
  rw [size_app]
  have h0 : (W.recs []).size = 0 := rfl
  omega

/-- The law's log with j entries. -/
def En (w X : World) (p : Pl) (j : Nat) : Prop := ∃ s segs own, Lo w X p s segs own (272 * j) ∧ s.gs = gsE j ∧ s.n ≤ j

theorem En.append {w X : World} {p : Pl} {j : Nat} (h : En w X p j) (hj : j < 150) :
    Calls Try.prog 15 #[.pointer (some ⟨p.L, 0, none⟩), recV (rc 1 j 200)] X fun e w' => e = .returned (.int .i64 0) ∧ En w w' p (j + 1) := by
  obtain ⟨s, segs, own, h1, h2, h3⟩ := h
  have hd : (rc 1 j 200).data.size = 200 := rfl
  refine (h1.append (rc 1 j 200) (by rw [h2]; exact chk_entry j (by omega)) (by omega) (by rw [hd]; omega)).mono ?_
  rintro e w' ⟨rfl, s', own', h4, h5, h6, _⟩
  rw [hd] at h4
  exact ⟨rfl, s', _, own', by rw [show 272 * (j + 1) = 272 * j + 72 + 200 by omega]; exact h4, by rw [h5, h2, do_entry], by omega⟩

theorem En.below {w X Y : World} {p : Pl} {j : Nat} (h : En w X p j) (hb : Below X.heap.size X Y) : En w Y p j := by
  obtain ⟨s, segs, own, h1, h2, h3⟩ := h
  exact ⟨s, segs, own, h1.below hb, h2, h3⟩

/-- The law's log behind the base. -/
def Ba (w X : World) (p : Pl) (n m : Nat) : Prop := ∃ s segs own, Lo w X p s segs own m ∧ s.gs = gsB n ∧ s.n ≤ 150

theorem En.base {w X : World} {p : Pl} {n : Nat} (h : En w X p n) (hn : n < 149) :
    Calls Try.prog 15 #[.pointer (some ⟨p.L, 0, none⟩), recV (rb n)] X fun e w' => e = .returned (.int .i64 0) ∧ Ba w w' p n 50000 := by
  obtain ⟨s, segs, own, h1, h2, h3⟩ := h
  have hd : (rb n).data.size = 3 := rfl
  refine (h1.append (rb n) (by rw [h2]; exact chk_base n (by omega)) (by omega) (by rw [hd]; omega)).mono ?_
  rintro e w' ⟨rfl, s', own', h4, h5, h6, _⟩
  rw [hd] at h4
  exact ⟨rfl, s', _, own', ⟨h4.lg, h4.mine, h4.old, h4.inv, h4.room, by have := h4.bytes; omega⟩, by rw [h5, h2, do_base], by omega⟩

/-- .. and behind Clean: all is sure. -/
def Cn (w X : World) (p : Pl) (n : Nat) : Prop := ∃ s segs own, Lo w X p s segs own 75 ∧ s.gs = gsB n ∧ s.n ≤ 1 ∧ ∀ i, i < 256 → s.S i = (s.A i).length

theorem Ba.clean {w X : World} {p : Pl} {n : Nat} (h : Ba w X p n 50000) (hn : n < 149) :
    Calls Try.prog 19 #[.pointer (some ⟨p.L, 0, none⟩)] X fun e w' => e = .returned (.int .i64 0) ∧ Cn w w' p n := by
  obtain ⟨s, segs, own, h1, h2, h3⟩ := h
  have hz := rb_size n (by omega)
  refine (h1.clean (by omega) (by rw [h2]; omega)).mono ?_
  rintro e w' ⟨rfl, s', own', h4, h5, h6, h7, _⟩
  rw [h2] at h4
  exact ⟨rfl, s', _, own', ⟨h4.lg, h4.mine, h4.old, h4.inv, h4.room, by have := h4.bytes; omega⟩, by rw [h5, h2], h6, h7⟩

theorem Cn.size {w X : World} {p : Pl} {n : Nat} (h : Cn w X p n) :
    Calls Try.prog 18 #[.pointer (some ⟨p.L, 0, none⟩)] X fun e w' => ∃ m : Nat, m ≤ 75 ∧ e = .returned (.int .i64 (m : Int)) ∧ w' = X := by
  obtain ⟨s, segs, own, h1, h2, h3, h4⟩ := h
  refine (Size_c h1.lg).mono ?_
  rintro e w' ⟨rfl, rfl⟩
  exact ⟨_, h1.bytes, rfl, rfl⟩

def Dn (w X : World) (p : Pl) (n : Nat) : Prop := ∃ s segs dk, Cd w X p s segs dk 75 ∧ s.gs = gsB n ∧ s.n ≤ 1

theorem Cn.crash {w X : World} {p : Pl} {n : Nat} (h : Cn w X p n) :
    Calls Try.prog 22 #[.pointer (some ⟨p.b, 0, none⟩), .slice none 0 0, .int .i64 0] X fun e w' => e = .returned (.int .i64 0) ∧ Dn w w' p n := by
  obtain ⟨s, segs, own, h1, h2, h3, h4⟩ := h
  refine (h1.crash h4).mono ?_
  rintro e w' ⟨rfl, dk, h5⟩
  exact ⟨rfl, s, segs, dk, h5, h2, h3⟩

theorem Dn.reopen {w X : World} {p : Pl} {n : Nat} (h : Dn w X p n) :
    Calls Try.prog 10 #[.pointer (some ⟨p.b, 0, none⟩), .int .i64 (p.limit : Int)] X fun e w' => ∃ L2, e = .returned (.tuple #[.pointer (some ⟨L2, 0, none⟩), .int .i64 0]) ∧ Hid (Calls Try.prog 23 #[.pointer (some ⟨L2, 0, none⟩), .int .i64 1] w' fun e w2 => ∃ q c, e = .returned (.tuple #[.agg #[.int .i64 0, .int .i64 (-1), .int .i64 (n : Int), .int .i64 1, .string all3, .slice q 0 c], .int .i64 0]) ∧ Below w.heap.size w w2) := by
  obtain ⟨s, segs, dk, h1, h2, h3⟩ := h
  refine (h1.reopen (by omega)).mono ?_
  rintro e w' ⟨p2, s2, own2, rfl, h4, h5, _⟩
  refine ⟨p2.L, rfl, ?_⟩
  refine (Saved_c h4.lg 1 (by omega)).mono ?_
  rintro e w2 ⟨v, rfl, hv, hb, _⟩
  have e1 : s2.gs 1 = svB n := by rw [h5, h2]; exact upd_same _ _ _
  rw [e1] at hv ⊢
  obtain ⟨q, c, hq, _⟩ := hv.form
  refine ⟨q, c, ?_, h4.old.trans (hb.mono h4.old.size)⟩
  rw [hq]
  rfl

set_option maxHeartbeats 3200000 in
set_option maxRecDepth 20000 in
theorem walk (a0 a1 : Int) (w : World) (_b0 : -9223372036854775808 ≤ a0 ∧ a0 ≤ 9223372036854775807) (_b1 : -9223372036854775808 ≤ a1 ∧ a1 ≤ 9223372036854775807) :
    Calls Try.prog 6 #[.int .i64 a0, .int .i64 a1] w fun e w' => e = .returned (.bool true) ∧ Below w.heap.size w w' := by
  have HA : Hid (∀ u : World, Calls Try.prog 8 #[] u fun e w' => e = .returned (.bool true) ∧ Below u.heap.size u w') := awake_c
  obtain ⟨m0, hm0⟩ : ∃ m0 : Nat, m0 = (a0 % 128).toNat := ⟨_, rfl⟩
  obtain ⟨m1, hm1⟩ : ∃ m1 : Nat, m1 = (a1 % 4096).toNat := ⟨_, rfl⟩
  have hq0 : bits .and .i64 a0 127 = (m0 : Int) := by rw [and_127]; omega
  have hq1 : bits .and .i64 a1 4095 = (m1 : Int) := by rw [and_4095]; omega
  have hl0 : m0 < 128 := by omega
  have HB : Hid (Calls Try.prog 11 #[.int .i64 (1 + (m1 : Int))] w fun e w' => ∃ p, e = .returned (.tuple #[.pointer (some ⟨p.b, 0, none⟩), .pointer (some ⟨p.L, 0, none⟩), .bool true]) ∧ p.limit = 1 + m1 ∧ En w w' p 0) := by
    have := begun_c (1 + m1) (by omega) w
    rw [show ((1 + m1 : Nat) : Int) = 1 + (m1 : Int) by omega] at this
    refine this.mono ?_
    rintro e w' ⟨p, s, own, rfl, hp, hf⟩
    exact ⟨p, rfl, hp, s, [], own, Lo.fresh hf, by rw [hf.gs, gsE_zero], by rw [hf.n]; exact Nat.le_refl _⟩
  obtain ⟨n, hn⟩ : ∃ n, n = 20 + m0 := ⟨_, rfl⟩
  have hn2 : n < 148 := by omega
  obtain ⟨k1, hk1⟩ : ∃ k1, k1 = 1 + m1 := ⟨_, rfl⟩
  have hw0 : IntKind.i64.wrap (20 + (m0 : Int)) = (n : Int) := by rw [IntKind.wrap_i64]; omega
  have hw1 : IntKind.i64.wrap (1 + (m1 : Int)) = (k1 : Int) := by rw [IntKind.wrap_i64]; omega
  have ek : 1 + (m1 : Int) = (k1 : Int) := by omega
  rw [ek] at HB
  rw [← hk1] at HB
  have HN2 : Hid (n < 148) := hn2
  clear _b0 _b1 hm0 hm1 hl0 hn2 hk1 ek hn
  go_enter Try.func6, Try.ntmps6
  go_wp2_with fail
  refine Calls.mono HB.out ?_
  rintro e w1 ⟨p, rfl, hp, hE⟩
  have HE : Hid (En w w1 p 0) := hE
  have HP : Hid (p.limit = k1) := hp
  obtain ⟨L, hL⟩ : ∃ L, L = p.L := ⟨_, rfl⟩
  obtain ⟨b, hb⟩ : ∃ b, b = p.b := ⟨_, rfl⟩
  have HApp : Hid (∀ X j, En w X p j → j < 150 → Calls Try.prog 15 #[.pointer (some ⟨L, 0, none⟩), recV (rc 1 j 200)] X fun e w' => e = .returned (.int .i64 0) ∧ En w w' p (j + 1)) := fun X j hX hj => by rw [hL]; exact hX.append hj
  have HBas : Hid (∀ X, En w X p n → Calls Try.prog 15 #[.pointer (some ⟨L, 0, none⟩), recV (rb n)] X fun e w' => e = .returned (.int .i64 0) ∧ Ba w w' p n 50000) := fun X hX => by rw [hL]; exact hX.base (by have := HN2.out; omega)
  have HCl : Hid (∀ X, Ba w X p n 50000 → Calls Try.prog 19 #[.pointer (some ⟨L, 0, none⟩)] X fun e w' => e = .returned (.int .i64 0) ∧ Cn w w' p n) := fun X hX => by rw [hL]; exact hX.clean (by have := HN2.out; omega)
  have HSz : Hid (∀ X, Cn w X p n → Calls Try.prog 18 #[.pointer (some ⟨L, 0, none⟩)] X fun e w' => ∃ m : Nat, m ≤ 75 ∧ e = .returned (.int .i64 (m : Int)) ∧ w' = X) := fun X hX => by rw [hL]; exact hX.size
  have HCr : Hid (∀ X, Cn w X p n → Calls Try.prog 22 #[.pointer (some ⟨b, 0, none⟩), .slice none 0 0, .int .i64 0] X fun e w' => e = .returned (.int .i64 0) ∧ Dn w w' p n) := fun X hX => by rw [hb]; exact hX.crash
  have HRe : Hid (∀ X, Dn w X p n → Calls Try.prog 10 #[.pointer (some ⟨b, 0, none⟩), .int .i64 (k1 : Int)] X fun e w' => ∃ L2, e = .returned (.tuple #[.pointer (some ⟨L2, 0, none⟩), .int .i64 0]) ∧ Hid (Calls Try.prog 23 #[.pointer (some ⟨L2, 0, none⟩), .int .i64 1] w' fun e w2 => ∃ q c, e = .returned (.tuple #[.agg #[.int .i64 0, .int .i64 (-1), .int .i64 (n : Int), .int .i64 1, .string all3, .slice q 0 c], .int .i64 0]) ∧ Below w.heap.size w w2)) := fun X hX => by
    have := hX.reopen
    rw [HP.out] at this
    rw [hb]
    exact this
  rw [← hL, ← hb]
  clear hE hp hL hb HB hq1 hq0 hw0 hw1
  go_wp2
  go_loopw [10] (fun x wr => ∃ j : Nat, x = .int .i64 (1 + (j : Int)) ∧ j ≤ n ∧ Hid (En w wr p j)) (fun x _ => 1 + n - (intOf x).toNat)
  case atStart => exact ⟨0, rfl, Nat.zero_le _, HE⟩
  case round =>
    clear HE
    obtain ⟨j, rfl, hj, HE⟩ := hrel
    have hn148 : (n : Int) < 148 := by have := HN2.out; omega
    by_cases hlt : j < n
    · obtain ⟨i0, hi, hz0, hz1, hz2⟩ := info_parts info8
      obtain ⟨row, hrow⟩ : ∃ row, row = madeCells (Value.int .u8 0).cells (200 * i0.size) := ⟨_, rfl⟩
      have hmk : ∀ W : World, (Instr.makeSlice 58 (.int .i64 200) (.int .i64 200)).run Try.prog W = .ok (.slice (some ⟨W.heap.size, 0, none⟩) 200 200) (W.alloc (.cells row 5)) := by
        intro W
        have h := run_make (P := Try.prog) W 58 5 i0 (.int .u8 0) Try.underlying58 hi hz0 .i64 .i64 200 200 (by omega) (by omega) (by rw [hz2]; omega) (by omega)
        simpa [← hrow] using h
      have hrow2 : row = ((List.replicate 200 (0 : UInt8)).map fun b => Value.int .u8 (b.toNat : Int)).toArray := by rw [hrow, hz1, madeCells_u8]
      obtain ⟨dz, hdz⟩ : ∃ dz : ByteArray, dz = z200 := ⟨_, rfl⟩
      have hcv1 : (convert 58 9 (.slice (some ⟨wr.heap.size, 0, none⟩) 200 200)).run Try.prog (wr.alloc (.cells row 5)) = .ok (.string dz) (wr.alloc (.cells row 5)) := by
        rw [hrow2, hdz]
        exact (lies_new wr (List.replicate 200 (0 : UInt8)) 5).conv 200 200 (by simp) 58 9 5 Try.underlying58 Try.underlying5 Try.underlying9
      have hrv : recV (rc 1 j 200) = .agg #[.int .i64 1, .int .i64 2, .int .i64 (1 + (j : Int)), .int .i64 1, .int .i64 0, .string dz] := by rw [hdz]; rfl
      have HA1 : Hid _ := HApp.out _ j (HE.out.below (below_alloc wr (.cells row 5))) (by have := HN2.out; omega)
      rw [hrv] at HA1
      have hle : (1 : Int) + (j : Int) ≤ (n : Int) := by omega
      clear hi hz0 hz1 hz2 hrow hrow2 hdz hrv HApp HBas HCl HSz HCr HRe HA HE
      go_wp2_with fail
      refine Calls.mono HA1.out ?_
      rintro e w2 ⟨rfl, h2⟩
      have HE2 : Hid (En w w2 p (j + 1)) := h2
      clear h2 HA1 hmk hcv1
      go_wp2
      go_roundw
      case rel => exact ⟨j + 1, by go_num, by omega, HE2⟩
      case measure => simp [intOf]; omega
    · obtain rfl : j = n := by omega
      have hle : ¬ (1 : Int) + (j : Int) ≤ (j : Int) := by omega
      have HB1 : Hid _ := HBas.out _ HE.out
      have hrb : recV (rb j) = .agg #[.int .i64 1, .int .i64 4, .int .i64 (j : Int), .int .i64 1, .int .i64 0, .string ⟨#[97, 108, 108]⟩] := rfl
      rw [hrb] at HB1
      clear hrb HE HApp HBas
      go_wp2_with fail
      refine Calls.mono HB1.out ?_
      rintro e w2 ⟨rfl, h2⟩
      have H2 : Hid _ := HCl.out _ h2
      clear h2 HB1 HCl
      go_wp2_with fail
      refine Calls.mono H2.out ?_
      rintro e w3 ⟨rfl, h3⟩
      have H3 : Hid _ := HSz.out _ h3
      have H4 : Hid _ := HCr.out _ h3
      clear h3 H2 HSz HCr
      go_wp2_with fail
      refine Calls.mono H3.out ?_
      rintro e w4 ⟨m, hm, rfl, hw⟩
      subst hw
      have hm2 : decide ((4102 : Int) < (m : Int)) = false := decide_eq_false (by omega)
      clear hm H3
      go_wp2_with fail
      refine Calls.mono H4.out ?_
      rintro e w5 ⟨rfl, h5⟩
      have H5 : Hid _ := HRe.out _ h5
      clear h5 H4 HRe
      go_wp2_with fail
      refine Calls.mono H5.out ?_
      rintro e w6 ⟨L2, rfl, H6⟩
      clear H5
      go_wp2_with fail
      refine Calls.mono H6.out ?_
      rintro e w7 ⟨q, c, rfl, hb7⟩
      have HB7 : Hid _ := hb7
      have h3 : all3.toList = [97, 108, 108] := by rw [ByteArray.toList_eq]; rfl
      clear hb7 H6
      go_wp2_with fail
      refine (HA.out _).mono ?_
      rintro e w8 ⟨rfl, hb8⟩
      have HB8 : Hid (Below w.heap.size w w8) := by
        have h7 : Below w.heap.size w w7 := HB7.out
        have h8 := h7.trans ((below_alloc w7 (.cells #[.int .i64 0, .int .i64 (-1), .int .i64 (j : Int), .int .i64 1, .string all3, .slice q 0 c] 45)).mono h7.size)
        exact h8.trans (hb8.mono h8.size)
      clear hb8
      go_wp2
      go_ret
      exact ⟨rfl, HB8.out⟩

theorem own : ownKnob Try.prog.godebug = none := by kernel_rfl

set_option maxRecDepth 100000 in
theorem lifted (os : Os) (started : os.Started) (H : Type) (enc : TypeId × Value → H) :
    ReturnsInHanded {} Try.checked os 6 .any (Rows.walCleansSpec.pre6 enc Try.prog Try.f6 Rows.walCleansRow.domain false) (Rows.walCleansSpec.post enc Try.prog Try.f6 false true false false) := by
  refine returnsInHanded_of_change_sized (C := Try.checked) own started (by kernel_rfl) Try.func6
    (ChangeSpec.witness6 (enc := enc) (C := Try.checked) false ⟨#[], #[.int .i64 0, .int .i64 0], []⟩ 8 (by kernel_rfl) (by kernel_rfl) (by kernel_rfl) (by kernel_rfl)) ?_
  intro W base args ds gs before hval0 hW _ hsz0 _
  have hsz : (DataW.weightsEach Try.prog (Try.f6.params.toList ++ Rows.walCleansSpec.plain.varTypes Try.prog) (ds ++ gs)).all (· ≤ reachBytes) = true := hsz0
  have hval : ∀ (j : Nat) t v, Try.f6.params[j]? = some t → args[j]? = some v → Value.okWide Try.prog W .any base t v := hval0
  have hW' := hW
  obtain ⟨p, q, hA0, hV, rfl, hfz, hnd⟩ := hW
  have hA : DataW.TrodAll enc Try.prog W 0 (fun _ => true) true Try.f6.params.toList args.toList ds p := hA0
  rw [Try.params6] at hA hval hsz
  obtain ⟨v0, vs0, d0, ds0, p0, q0, hargs, rfl, rfl, h0, r0⟩ := trodAll_cons hA
  obtain ⟨v1, vs1, d1, ds1, p1, q1, rfl, rfl, rfl, h1, r1⟩ := trodAll_cons r0
  obtain ⟨rfl, rfl, rfl⟩ := trodAll_nil r1
  obtain rfl : args = #[v0, v1] := by cases args; simp_all
  obtain ⟨rfl, rfl⟩ := trodVars_none hV
  obtain ⟨a0, rfl, rfl, rfl, w0⟩ := open_int Try.underlying3 (hval 0 3 v0 rfl rfl) h0
  have b0 : -9223372036854775808 ≤ a0 ∧ a0 ≤ 9223372036854775807 := by simpa [Lit.wf, IntKind.min, IntKind.max, IntKind.signed, IntKind.bits] using w0
  obtain ⟨a1, rfl, rfl, rfl, w1⟩ := open_int Try.underlying3 (hval 1 3 v1 rfl rfl) h1
  have b1 : -9223372036854775808 ≤ a1 ∧ a1 ≤ 9223372036854775807 := by simpa [Lit.wf, IntKind.min, IntKind.max, IntKind.signed, IntKind.bits] using w1
  clear hA0 hval0 hsz0
  refine (walk a0 a1 W b0 b1).mono fun e W' ⟨he, bel⟩ => ?_
  subst he
  exact ⟨_, rfl, _, _, _, [], _, [], hW', trodAll_mk1 (shut_bool Try.underlying4 _), (trodAll_cons_mk (shut_int Try.underlying3 w0) (trodAll_cons_mk (shut_int Try.underlying3 w1) trodAll_mk0)), rfl, bel.frame _, fun h => by cases h⟩

theorem over : Rows.walCleansRow.holds Try.pinned (OpenSpec.ofChange Rows.walCleansSpec) :=
  OpenClaim.holds_of_wide 6 Try.f6 rfl rfl rfl rfl rfl rfl rfl ⟨rfl, rfl, rfl, rfl, rfl⟩ rfl rfl rfl rfl rfl (by kernel_rfl) Try.func6 (by kernel_rfl)
    (of_decide_eq_true (by kernel_rfl)) (by unfold Func.isWrapper; first | (rw [if_pos (by decide +kernel)]; kernel_rfl) | (rw [if_neg (by decide +kernel)]; exact ⟨rfl, rfl⟩))
    (fun os started H enc _ => lifted os started H enc)


end Go.Proofs.Ytagcnhkodmjkgaa.walCleans
namespace Go.Proofs.Ytagcnhkodmjkgaa
/-- The statement. -/
theorem walCleans_holds : Rows.WalCleansSaid := walCleans.over
end Go.Proofs.Ytagcnhkodmjkgaa
