/-
  For every number and every list of numbers: NetOnce answers true: letters that are put come once each, in whatever order they are taken; the arguments read afterwards as before. No condition.
-/
import Derived.Test.YtfkhnbikobjpfaaNnTwice
import Derived.Test.YtfkhnbikobjpfaaNnArgs
import Derived.ProofKit
import Derived.OpenShut
import Derived.ShutString
import Derived.SizedLaws
import Derived.Deep.RegionHeld
namespace Go.Proofs.Ytfkhnbikobjpfaa.netOnce
open Go.ChangeShapes Go.WideShapes Go.ChangeAt Go.RowKit
open Go.ChangeMaps (open_string shut_string)

theorem infoBool8 : (Try.prog.info? 4).map (fun i => (i.zero, i.size, i.bytes)) = some (some (.bool false), 1, 1) := by kernel_rfl
def nob64 : Array Value := madeCells (Value.bool false).cells (64 * 1)
theorem nob64_at (i : Nat) (h : i < 64) : nob64[i]? = some (.bool false) := by
  have e : nob64.toList = List.replicate 64 (Value.bool false) := by
    unfold nob64
    rw [show (Value.bool false).cells = #[Value.bool false] from rfl, toList_madeCells_one]
  rw [← Array.getElem?_toList, e, List.getElem?_replicate, if_pos h]
theorem run_makeb64 (W : World) : (Instr.makeSlice 44 (.int .i64 64) (.int .i64 64)).run Try.prog W = .ok (.slice (some ⟨W.heap.size, 0, none⟩) 64 64) (W.alloc (.cells nob64 4)) := by
  obtain ⟨i0, hi, hz0, hz1, hz2⟩ := info_parts infoBool8
  have h := run_make (P := Try.prog) W 44 4 i0 (.bool false) Try.underlying44 hi hz0 .i64 .i64 64 64 (by decide) (by decide) (by rw [hz2]; decide) (by decide)
  rw [hz1] at h
  exact h

/-- The text of one byte. -/
def txt (j : Nat) : ByteArray := ⟨#[j.toUInt8]⟩
/-- The letter of a number. -/
def mkL (j : Nat) : Q.Lt := ⟨((j % 3 : Nat) : Int), ((j % 5 : Nat) : Int), txt j⟩

theorem txt_size (j : Nat) : (txt j).size = 1 := rfl

/-- The first so many, put. -/
def lts (i : Nat) : List Q.Lt := (List.range i).map mkL
theorem lts_succ (i : Nat) : lts (i + 1) = lts i ++ [mkL i] := by simp [lts, List.range_succ]
theorem lts_len (i : Nat) : (lts i).length = i := by simp [lts]

theorem put_i {i : Nat} (hi : i < 64) : Q.putE ⟨4096, lts i⟩ (mkL i) = 0 := by
  have h1 := Q.cnt_le (lts i) (mkL i).fr (mkL i).tt
  rw [lts_len] at h1
  unfold Q.putE
  rw [if_neg (by unfold mkL; dsimp only; omega), if_neg (by show ¬ (txt i).size > 1048576; rw [txt_size]; decide), if_neg (by show ¬ (Q.cnt (lts i) (mkL i).fr (mkL i).tt : Int) ≥ 4096; omega)]
theorem put_st {i : Nat} (hi : i < 64) : Q.put ⟨4096, lts i⟩ (mkL i) = ⟨4096, lts (i + 1)⟩ := by
  unfold Q.put
  rw [if_pos (put_i hi), lts_succ]

theorem mod64 (x : Int) : ∃ a : Nat, bits .and .i64 x 63 = (a : Int) ∧ a < 64 := ⟨(x % 64).toNat, by rw [and_63]; omega, by omega⟩
theorem natLt {a b : Nat} (h : a < b) : (a : Int) < (b : Int) := by omega
theorem natLe' {a b : Nat} (h : a < b) : ¬ (b : Int) ≤ (a : Int) := by omega
theorem natDec {a b : Nat} (h : a < b) : decide ((b : Int) ≤ (a : Int)) = false := by simp; omega
theorem natGe {a b : Nat} (h : ¬ a < b) : ¬ (a : Int) < (b : Int) := by omega

theorem small64 {i : Nat} (h : i < 64) : wrap64 (i : Int) = (i : Int) ∧ wrap64 ((i % 3 : Nat) : Int) = ((i % 3 : Nat) : Int) ∧ wrap64 ((i % 5 : Nat) : Int) = ((i % 5 : Nat) : Int) ∧ (i : Int) % 3 = ((i % 3 : Nat) : Int) ∧ (i : Int) % 5 = ((i % 5 : Nat) : Int) :=
  ⟨IntWalk.wrap64_in _ ⟨by omega, by omega⟩, IntWalk.wrap64_in _ ⟨by omega, by omega⟩, IntWalk.wrap64_in _ ⟨by omega, by omega⟩, by omega, by omega⟩

/-- What is reckoned with a small number. -/
theorem small {i : Nat} (h : i < 64) : IntKind.u8.wrap (i : Int) = (i : Int) ∧ (i : Int).tmod 3 = ((i % 3 : Nat) : Int) ∧ (i : Int).tmod 5 = ((i % 5 : Nat) : Int) ∧ IntKind.i64.wrap ((i % 3 : Nat) : Int) = ((i % 3 : Nat) : Int) ∧ IntKind.i64.wrap ((i % 5 : Nat) : Int) = ((i % 5 : Nat) : Int) ∧ IntKind.i64.wrap (i : Int) = (i : Int) ∧
    (0 : Int) ≤ (i : Int) ∧ (i : Int) < 64 ∧ In64 ((i % 3 : Nat) : Int) ∧ In64 ((i % 5 : Nat) : Int) :=
  ⟨by rw [IntKind.wrap_u8]; omega, by rw [Int.tmod_eq_emod_of_nonneg (by omega)]; omega, by rw [Int.tmod_eq_emod_of_nonneg (by omega)]; omega, by rw [IntKind.wrap_i64]; omega, by rw [IntKind.wrap_i64]; omega, by rw [IntKind.wrap_i64]; omega, by omega, by omega, ⟨by omega, by omega⟩, ⟨by omega, by omega⟩⟩

theorem conv1 {i : Nat} (h : i < 64) (X : World) : (convert 41 9 (.slice (some ⟨X.heap.size, 0, none⟩) 1 1)).run Try.prog (X.alloc (.cells #[.int .u8 (i : Int)] 5)) = .ok (.string (txt i)) (X.alloc (.cells #[.int .u8 (i : Int)] 5)) := by
  refine run_convert_bytes_back (P := Try.prog) (X.alloc (.cells #[.int .u8 (i : Int)] 5)) 41 9 5 ⟨X.heap.size, 0, none⟩ 1 [i.toUInt8] Try.underlying41 Try.underlying5 Try.underlying9 ?_
  intro j hj
  have hj0 : j = 0 := by simp at hj; omega
  subst hj0
  rw [addr_add0, World.cell?_alloc_mark]
  have : (i.toUInt8).toNat = i := byte_toNat (by omega)
  simp [this]

theorem idx1 {i : Nat} (h : i < 64) (W : World) : (Instr.index 9 (.string (txt i)) (.int .i64 0)).run Try.prog W = .ok (.int .u8 (i : Int)) W := by
  have hb : (i.toUInt8).toNat = i := byte_toNat (by omega)
  have hg : (txt i)[0]? = some i.toUInt8 := rfl
  simp [Instr.index, asIntOf, run_underlying Try.underlying9, hg, hb]

/-- The net with the letters js, and which were seen. -/
structure On (w : World) (B bs k : Nat) (js : List Nat) (i : Nat) (X : World) : Prop where
  net : Nf w X B ⟨4096, js.map mkL⟩ (k + i) (fun q => q = bs)
  new : w.heap.size ≤ bs
  nd : js.Nodup
  lt : ∀ j ∈ js, j < k
  len : js.length + i = k
  no : ∀ j ∈ js, X.cell? ⟨bs, j, none⟩ = some (.bool false)
  fz : ∀ j, X.frozen? ⟨bs, j, none⟩ = false

theorem On.start {w X : World} {B k : Nat} (hk : k < 64) (h : Nf w X B ⟨4096, lts k⟩ k (fun _ => False)) : On w B X.heap.size k (List.range k) 0 (X.alloc (.cells nob64 4)) := by
  refine ⟨(h.grow (below_alloc X _)).less (fun q hq => .inr ⟨by omega, by rw [hq]; simp⟩), h.old.size, List.nodup_range, fun j hj => List.mem_range.1 hj, by simp, fun j hj => ?_, fun j => ?_⟩
  · have := List.mem_range.1 hj
    rw [World.cell?_alloc_mark]
    exact nob64_at j (by omega)
  · rw [World.frozen?_alloc_mark]
    simp

theorem erase_map (js : List Nat) (p : Nat) : (js.map mkL).eraseIdx p = (js.eraseIdx p).map mkL := by
  rw [List.eraseIdx_eq_take_drop_succ, List.eraseIdx_eq_take_drop_succ, List.map_append, List.map_take, List.map_drop]

theorem not_in_erase {js : List Nat} (h : js.Nodup) {p j : Nat} (hj : js[p]? = some j) : j ∉ js.eraseIdx p := by
  intro hm
  obtain ⟨q, hq, hqe⟩ := List.mem_eraseIdx_iff_getElem?.1 hm
  obtain ⟨h1, e1⟩ := List.getElem?_eq_some_iff.1 hj
  obtain ⟨h2, e2⟩ := List.getElem?_eq_some_iff.1 hqe
  rcases Nat.lt_or_gt_of_ne hq with c | c
  · exact List.pairwise_iff_getElem.1 h q p h2 h1 c (e2.trans e1.symm)
  · exact List.pairwise_iff_getElem.1 h p q h1 h2 c (e1.trans e2.symm)

/-- One was taken. -/
theorem On.next {w X Y : World} {B bs k : Nat} {js : List Nat} {i p j : Nat} (h : On w B bs k js i X) (hj : js[p]? = some j) (hn : Nf w Y B ⟨4096, (js.map mkL).eraseIdx p⟩ (k + i + 1) (fun q => q = bs)) (hb : Y.heap[bs]? = X.heap[bs]?) :
    On w B bs k (js.eraseIdx p) (i + 1) (Y.setCell ⟨bs, j, none⟩ (.bool true)) := by
  have hp := (List.getElem?_eq_some_iff.1 hj).1
  have hY : Y.cell? ⟨bs, j, none⟩ = some (.bool false) := (World.cell?_of_block (a := ⟨bs, j, none⟩) hb).trans (h.no j (List.mem_of_getElem? hj))
  rw [erase_map] at hn
  refine ⟨hn.set bs _ rfl h.new _, h.new, h.nd.sublist (List.eraseIdx_sublist _ _), fun q hq => h.lt q (List.mem_of_mem_eraseIdx hq), by rw [List.length_eraseIdx_of_lt hp]; have := h.len; omega, fun q hq => ?_, fun q => ?_⟩
  · rw [cell_set6 _ hY, if_neg (fun e : q = j => not_in_erase h.nd hj (e ▸ hq)), World.cell?_of_block (a := ⟨bs, q, none⟩) hb]
    exact h.no q (List.mem_of_mem_eraseIdx hq)
  · rw [World.frozen?_setCell, World.frozen?_of_block (a := ⟨bs, q, none⟩) hb]
    exact h.fz q

/-- What Take answers while some are left. -/
theorem On.take {w X : World} {B bs k : Nat} {js : List Nat} {i : Nat} (h : On w B bs k js i X) (hk : k < 64) (hi : i < k) (at_ : Int) :
    ∃ p j, js[p]? = some j ∧ j < k ∧ Calls Try.prog 13 #[.pointer (some ⟨B, 0, none⟩), .int .i64 at_] X fun e Y => e = .returned (.tuple #[.agg #[.int .i64 ((j % 3 : Nat) : Int), .int .i64 ((j % 5 : Nat) : Int), .string (txt j)], .bool true]) ∧ Nf w Y B ⟨4096, (js.map mkL).eraseIdx p⟩ (k + i + 1) (fun q => q = bs) ∧ Y.heap[bs]? = X.heap[bs]? := by
  have hl := h.len
  have hpl := Q.place_lt at_ (n := (js.map mkL).length) (by simp; omega)
  obtain ⟨p, hp⟩ : ∃ p, p = Q.place at_ (js.map mkL).length := ⟨_, rfl⟩
  rw [← hp] at hpl
  obtain ⟨j, hj⟩ : ∃ j, js[p]? = some j := ⟨_, List.getElem?_eq_getElem (by simpa using hpl)⟩
  refine ⟨p, j, hj, h.lt j (List.mem_of_getElem? hj), ?_⟩
  have hm : (js.map mkL)[p]? = some (mkL j) := by rw [List.getElem?_map, hj]; rfl
  have := h.net.take (by omega) at_ (l := mkL j) (by show (js.map mkL)[Q.place at_ (js.map mkL).length]? = _; rw [← hp]; exact hm)
  dsimp only at this
  rw [← hp] at this
  refine this.mono ?_
  rintro e Y ⟨rfl, h1, h2, _⟩
  exact ⟨rfl, h1, h2 bs rfl⟩

/-- What is taken next. -/
theorem rem_len {i n0 : Nat} (hi : i < 64) (hn : 0 < n0) : (i : Int).tmod (n0 : Int) = ((i % n0 : Nat) : Int) ∧ (0 : Int) ≤ ((i % n0 : Nat) : Int) ∧ ((i % n0 : Nat) : Int) < (n0 : Int) ∧ IntKind.i64.wrap ((i % n0 : Nat) : Int) = ((i % n0 : Nat) : Int) := by
  have h1 : i % n0 < n0 := Nat.mod_lt _ hn
  have h2 : i % n0 ≤ i := Nat.mod_le _ _
  exact ⟨by rw [Int.tmod_eq_emod_of_nonneg (by omega)]; simp, by omega, by omega, by rw [IntKind.wrap_i64]; omega⟩

set_option maxHeartbeats 3200000 in
set_option maxRecDepth 20000 in
theorem walk (a0 : Int) (v1 : Value) (a1 : List Int) (w : World) (_b0 : -9223372036854775808 ≤ a0 ∧ a0 ≤ 9223372036854775807) (_b1 : Elems w 1 i1Cells In64 v1 a1) :
    Calls Try.prog 4 #[.int .i64 a0, v1] w fun e w' => e = .returned (.bool true) ∧ Below w.heap.size w w' := by
  have HA : Hid (∀ u : World, Calls Try.prog 9 #[] u fun e w' => e = .returned (.bool true) ∧ Below u.heap.size u w') := awake_c
  obtain ⟨p0, c0, hv0, hc1, hc2, hgood, hcells⟩ := _b1
  obtain ⟨n0, hn0⟩ : ∃ n0, n0 = a1.length := ⟨_, rfl⟩
  rw [← hn0] at hv0 hc1
  have HI : Hid (∀ k, k < n0 → ∃ x g o, p0 = some ⟨g, o, none⟩ ∧ ∀ X, Below w.heap.size w X → X.cell? ⟨g, o + k, none⟩ = some (.int .i64 x)) := by
    intro k hk
    obtain ⟨q, hq⟩ : ∃ q, a1[k]? = some q := ⟨_, List.getElem?_eq_getElem (by omega)⟩
    rcases hcells with h | ⟨g, o, hp, hg, hcs⟩
    · rw [h] at hq
      simp at hq
    · refine ⟨q, g, o, hp, fun X hX => ?_⟩
      have := hcs k q hq 0 _ rfl
      rw [Nat.mul_one, Nat.add_zero] at this
      exact (hX.cell (p := ⟨g, o + k, none⟩) hg).trans this
  subst hv0
  have hmk := run_makeb64
  have hcm := hc2
  unfold maxLen at hcm
  obtain ⟨kk, hm63, hkk⟩ := mod64 a0
  have HNew : Hid _ := New_fresh 4096 (by decide) w (Below.refl _ w)
  have HKK : Hid (kk < 64) := hkk
  obtain ⟨B, hB⟩ : ∃ B, B = w.heap.size + 1 := ⟨_, rfl⟩
  rw [← hB] at HNew
  clear hn0 hgood hcells _b0 hc2 hkk hB
  go_enter Try.func4, Try.ntmps4
  go_wp2_with fail
  refine Calls.mono HNew.out ?_
  rintro e w1 ⟨rfl, hl, _⟩
  have HV0 : Hid (Nf w w1 B ⟨4096, lts 0⟩ 0 (fun _ => False)) := hl.less (fun k hk => hk.elim)
  clear hl HNew
  go_wp2
  go_loopw [8] (fun iv wr => ∃ i : Nat, iv = .int .i64 (i : Int) ∧ i ≤ kk ∧ Hid (Nf w wr B ⟨4096, lts i⟩ i (fun _ => False))) (fun iv _ => kk - (intOf iv).toNat)
  case atStart => exact ⟨0, rfl, Nat.zero_le _, HV0⟩
  case round =>
    clear HV0 hm63
    obtain ⟨i, rfl, hik, HV⟩ := hrel
    by_cases hlt : i < kk
    · have hi64 : i < 64 := Nat.lt_trans hlt HKK.out
      have hlt' := natLt hlt
      obtain ⟨s1, s2, s3, s4, s5, s6, s7, s8, s9, s10⟩ := small hi64
      have hcv := conv1 hi64
      have HPut : Hid (∀ X, Nf w X B ⟨4096, lts i⟩ i (fun _ => False) → Calls Try.prog 12 #[.pointer (some ⟨B, 0, none⟩), .agg #[.int .i64 ((i % 3 : Nat) : Int), .int .i64 ((i % 5 : Nat) : Int), .string (txt i)]] X fun e Y => e = .returned (.int .i64 0) ∧ Nf w Y B ⟨4096, lts (i + 1)⟩ (i + 1) (fun _ => False)) := by
        intro X hX
        have := hX.put (Nat.lt_trans hi64 (by decide)) ((i % 3 : Nat) : Int) ((i % 5 : Nat) : Int) (txt i) ⟨s9, s10⟩ (by rw [txt_size]; decide)
        have e1 : (⟨((i % 3 : Nat) : Int), ((i % 5 : Nat) : Int), txt i⟩ : Q.Lt) = mkL i := rfl
        rw [e1, put_i hi64, put_st hi64] at this
        refine this.mono ?_
        rintro e Y ⟨rfl, h1, _⟩
        exact ⟨rfl, h1⟩
      obtain ⟨r3, hr3⟩ : ∃ r3 : Nat, r3 = i % 3 := ⟨_, rfl⟩
      obtain ⟨r5, hr5⟩ : ∃ r5 : Nat, r5 = i % 5 := ⟨_, rfl⟩
      obtain ⟨t, ht⟩ : ∃ t, t = txt i := ⟨_, rfl⟩
      rw [← hr3] at s2 s4 HPut
      rw [← hr5] at s3 s5 HPut
      rw [← ht] at hcv HPut
      clear hr3 hr5 ht s9 s10
      go_wp2_with fail
      refine (HPut.out _ (HV.out.below (below_alloc _ _))).mono ?_
      rintro e X ⟨rfl, hnf⟩
      have HX : Hid _ := hnf
      clear hnf
      go_wp2
      go_roundw
      case rel => exact ⟨i + 1, by go_num, by omega, HX⟩
      case measure => simp [intOf]; omega
    · obtain rfl : i = kk := by omega
      have hge := natGe hlt
      have HS : Hid (On w B wr.heap.size i (List.range i) 0 (wr.alloc (.cells nob64 4))) := On.start HKK.out HV.out
      clear hlt hik HV
      go_wp2
      obtain ⟨bs, hbs⟩ : ∃ bs, bs = wr.heap.size := ⟨_, rfl⟩
      rw [← hbs] at HS ⊢
      clear hbs hmk hge
      go_loopw [10] (fun iv wr => ∃ (q : Nat) (js : List Nat), iv = .int .i64 (q : Int) ∧ q ≤ i ∧ Hid (On w B bs i js q wr)) (fun iv _ => i - (intOf iv).toNat)
      case atStart => exact ⟨0, _, rfl, Nat.zero_le _, HS⟩
      case round =>
        clear HS
        obtain ⟨q, js, rfl, hqi, HO⟩ := hrel
        by_cases hlt : q < i
        · have hlt' := natLt hlt
          have hq64 : q < 64 := Nat.lt_trans hlt HKK.out
          have HTk : Hid (∀ at_ : Int, ∃ p j, js[p]? = some j ∧ j < i ∧ Calls Try.prog 13 #[.pointer (some ⟨B, 0, none⟩), .int .i64 at_] wr fun e Y => e = .returned (.tuple #[.agg #[.int .i64 ((j % 3 : Nat) : Int), .int .i64 ((j % 5 : Nat) : Int), .string (txt j)], .bool true]) ∧ Nf w Y B ⟨4096, (js.map mkL).eraseIdx p⟩ (i + q + 1) (fun q => q = bs) ∧ Y.heap[bs]? = wr.heap[bs]?) := fun at_ => HO.out.take HKK.out hlt at_
          by_cases hz : 0 < n0
          · obtain ⟨r1, r2, r3, r4⟩ := rem_len hq64 hz
            obtain ⟨x, g, o, hp, hX⟩ := HI.out (q % n0) (Nat.mod_lt _ hz)
            subst hp
            have y0 := hX wr HO.out.net.old
            obtain ⟨rm, hrm⟩ : ∃ rm : Nat, rm = q % n0 := ⟨_, rfl⟩
            rw [← hrm] at r1 r2 r3 r4 y0
            have hz' : (0 : Int) < (n0 : Int) := natLt hz
            obtain ⟨p, j, hj, hjk, hT⟩ := HTk.out x
            have HT : Hid _ := hT
            have HJ : Hid (js[p]? = some j ∧ j < i) := ⟨hj, hjk⟩
            clear hX hrm hj hjk hT HTk hz
            go_wp2_with fail
            refine Calls.mono HT.out ?_
            rintro e Y ⟨rfl, hnf, hbl⟩
            have hj64 : j < 64 := Nat.lt_trans HJ.out.2 HKK.out
            obtain ⟨s1, s2, s3, s4, s5, s6, s7, s8, _, _⟩ := small hj64
            obtain ⟨u1, u2, u3, u4, u5⟩ := small64 hj64
            have hix := idx1 hj64
            have hts := txt_size j
            have hjk' := natLt HJ.out.2
            have hjn := HJ.out.2
            obtain ⟨Z, hZ⟩ : ∃ Z, Z = Y.alloc (.cells #[.int .i64 ((j % 3 : Nat) : Int), .int .i64 ((j % 5 : Nat) : Int), .string (txt j)] 43) := ⟨_, rfl⟩
            obtain ⟨bl, hbz⟩ : ∃ bl, bl = Y.heap.size := ⟨_, rfl⟩
            have hcs : ∀ d, Z.cell? ⟨bl, d, none⟩ = (#[.int .i64 ((j % 3 : Nat) : Int), .int .i64 ((j % 5 : Nat) : Int), .string (txt j)] : Array Value)[d]? := fun d => by
              rw [hZ, hbz]
              exact World.cell?_alloc_mark Y _ _ _ d
            have z0 := hcs 0
            have z1 := hcs 1
            have z2 := hcs 2
            have hbsl : bs < Y.heap.size := hnf.lloc rfl
            have hZb : Z.heap[bs]? = wr.heap[bs]? := by rw [hZ]; exact (Below.heap_alloc _ _ _ hbsl).trans hbl
            have zs : Z.cell? ⟨bs, j, none⟩ = some (.bool false) := (World.cell?_of_block (a := ⟨bs, j, none⟩) hZb).trans (HO.out.no j (List.mem_of_getElem? HJ.out.1))
            have zf : Z.frozen? ⟨bs, j, none⟩ = false := (World.frozen?_of_block (a := ⟨bs, j, none⟩) hZb).trans (HO.out.fz j)
            have HNx : Hid (On w B bs i (js.eraseIdx p) (q + 1) (Z.drew.setCell ⟨bs, j, none⟩ (.bool true))) := HO.out.next HJ.out.1 ((hnf.below (by rw [hZ]; exact below_alloc Y _)).below (Below.refl _ _).drew) hZb
            obtain ⟨m3, hm3⟩ : ∃ m3 : Nat, m3 = j % 3 := ⟨_, rfl⟩
            obtain ⟨m5, hm5⟩ : ∃ m5 : Nat, m5 = j % 5 := ⟨_, rfl⟩
            obtain ⟨t, ht⟩ : ∃ t, t = txt j := ⟨_, rfl⟩
            rw [← hm3] at s2 s4 u2 u4 z0 hZ ⊢
            rw [← hm5] at s3 s5 u3 u5 z1 hZ ⊢
            rw [← ht] at hix hts z2 hZ ⊢
            clear hcs hnf hbl hbsl hZb hm3 hm5 ht HT
            go_wp2
            rw [← hZ, ← hbz]
            clear hZ hbz
            refine wp_region_held_drew (S := fun X => X.cell? ⟨bl, 0, none⟩ = some (.int .i64 (m3 : Int)) ∧ X.cell? ⟨bl, 1, none⟩ = some (.int .i64 (m5 : Int)) ∧ X.cell? ⟨bl, 2, none⟩ = some (.string t) ∧ X.cell? ⟨bs, j, none⟩ = some (.bool false)) (by kernel_rfl) ⟨z0, z1, z2, zs⟩ (fun hHeld => ?_)
            refine take7 (i := 0) (d := 67) (v := .bool true) rfl rfl (by kernel_rfl) (by kernel_rfl) (by kernel_rfl) (fun _ _ _ h => h) (Or.inl ⟨by rfl, ?_⟩) (by assumption) ?_
            · intro X hSw
              go_simp
            simp only [Act.put, List.setIfInBounds_toArray, List.set_cons_zero, List.set_cons_succ]
            refine take7 (i := 1) (d := 68) (v := .bool false) rfl rfl (by kernel_rfl) (by kernel_rfl) (by kernel_rfl) (fun _ _ _ h => h) (Or.inl ⟨by rfl, ?_⟩) (by assumption) ?_
            · intro X hSw
              go_simp
            simp only [Act.put, List.setIfInBounds_toArray, List.set_cons_zero, List.set_cons_succ]
            refine take7 (i := 2) (d := 69) (v := .bool false) rfl rfl (by kernel_rfl) (by kernel_rfl) (by kernel_rfl) (fun _ _ _ h => h) (Or.inl ⟨by rfl, ?_⟩) (by assumption) ?_
            · intro X hSw
              go_simp
            simp only [Act.put, List.setIfInBounds_toArray, List.set_cons_zero, List.set_cons_succ]
            refine take7 (i := 3) (d := 70) (v := .pointer (some ⟨bl, 2, none⟩)) rfl rfl (by kernel_rfl) (by kernel_rfl) (by kernel_rfl) (fun _ _ _ h => h) (Or.inl ⟨by rfl, ?_⟩) (by assumption) ?_
            · intro X hSw
              go_simp
            simp only [Act.put, List.setIfInBounds_toArray, List.set_cons_zero, List.set_cons_succ]
            refine take7 (i := 4) (d := 71) (v := .string t) rfl rfl (by kernel_rfl) (by kernel_rfl) (by kernel_rfl) (fun _ _ _ h => h) (Or.inl ⟨by rfl, ?_⟩) (by assumption) ?_
            · intro X hSw
              go_simp
            simp only [Act.put, List.setIfInBounds_toArray, List.set_cons_zero, List.set_cons_succ]
            refine take7 (i := 5) (d := 72) (v := .int .i64 1) rfl rfl (by kernel_rfl) (by kernel_rfl) (by kernel_rfl) (fun _ _ _ h => h) (Or.inl ⟨by rfl, ?_⟩) (by assumption) ?_
            · intro X hSw
              go_simp
            simp only [Act.put, List.setIfInBounds_toArray, List.set_cons_zero, List.set_cons_succ]
            refine take7 (i := 6) (d := 73) (v := .bool false) rfl rfl (by kernel_rfl) (by kernel_rfl) (by kernel_rfl) (fun _ _ _ h => h) (Or.inl ⟨by rfl, ?_⟩) (by assumption) ?_
            · intro X hSw
              go_simp
            simp only [Act.put, List.setIfInBounds_toArray, List.set_cons_zero, List.set_cons_succ]
            refine take7 (i := 7) (d := 74) (v := .bool false) rfl rfl (by kernel_rfl) (by kernel_rfl) (by kernel_rfl) (fun _ _ _ h => h) (Or.inl ⟨by rfl, ?_⟩) (by assumption) ?_
            · intro X hSw
              go_simp
            simp only [Act.put, List.setIfInBounds_toArray, List.set_cons_zero, List.set_cons_succ]
            refine take7 (i := 8) (d := 75) (v := .bool false) rfl rfl (by kernel_rfl) (by kernel_rfl) (by kernel_rfl) (fun _ _ _ h => h) (Or.inl ⟨by rfl, ?_⟩) (by assumption) ?_
            · intro X hSw
              go_simp
            simp only [Act.put, List.setIfInBounds_toArray, List.set_cons_zero, List.set_cons_succ]
            refine take7 (i := 9) (d := 76) (v := .pointer (some ⟨bl, 2, none⟩)) rfl rfl (by kernel_rfl) (by kernel_rfl) (by kernel_rfl) (fun _ _ _ h => h) (Or.inl ⟨by rfl, ?_⟩) (by assumption) ?_
            · intro X hSw
              go_simp
            simp only [Act.put, List.setIfInBounds_toArray, List.set_cons_zero, List.set_cons_succ]
            refine take7 (i := 10) (d := 77) (v := .string t) rfl rfl (by kernel_rfl) (by kernel_rfl) (by kernel_rfl) (fun _ _ _ h => h) (Or.inl ⟨by rfl, ?_⟩) (by assumption) ?_
            · intro X hSw
              go_simp
            simp only [Act.put, List.setIfInBounds_toArray, List.set_cons_zero, List.set_cons_succ]
            refine take7 (i := 11) (d := 78) (v := .int .u8 (j : Int)) rfl rfl (by kernel_rfl) (by kernel_rfl) (by kernel_rfl) (fun _ _ _ h => h) (Or.inl ⟨by rfl, ?_⟩) (by assumption) ?_
            · intro X hSw
              go_simp
            simp only [Act.put, List.setIfInBounds_toArray, List.set_cons_zero, List.set_cons_succ]
            refine take7 (i := 12) (d := 79) (v := .int .i64 (j : Int)) rfl rfl (by kernel_rfl) (by kernel_rfl) (by kernel_rfl) (fun _ _ _ h => h) (Or.inl ⟨by rfl, ?_⟩) (by assumption) ?_
            · intro X hSw
              go_simp
            simp only [Act.put, List.setIfInBounds_toArray, List.set_cons_zero, List.set_cons_succ]
            refine take7 (i := 13) (d := 80) (v := .int .i64 (i : Int)) rfl rfl (by kernel_rfl) (by kernel_rfl) (by kernel_rfl) (fun _ _ _ h => h) (Or.inl ⟨by rfl, ?_⟩) (by assumption) ?_
            · intro X hSw
              go_simp
            simp only [Act.put, List.setIfInBounds_toArray, List.set_cons_zero, List.set_cons_succ]
            refine take7 (i := 14) (d := 81) (v := .bool false) rfl rfl (by kernel_rfl) (by kernel_rfl) (by kernel_rfl) (fun _ _ _ h => h) (Or.inl ⟨by rfl, ?_⟩) (by assumption) ?_
            · intro X hSw
              go_simp
            simp only [Act.put, List.setIfInBounds_toArray, List.set_cons_zero, List.set_cons_succ]
            refine take7 (i := 15) (d := 82) (v := .bool false) rfl rfl (by kernel_rfl) (by kernel_rfl) (by kernel_rfl) (fun _ _ _ h => h) (Or.inl ⟨by rfl, ?_⟩) (by assumption) ?_
            · intro X hSw
              go_simp
            simp only [Act.put, List.setIfInBounds_toArray, List.set_cons_zero, List.set_cons_succ]
            refine take7 (i := 16) (d := 83) (v := .bool false) rfl rfl (by kernel_rfl) (by kernel_rfl) (by kernel_rfl) (fun _ _ _ h => h) (Or.inl ⟨by rfl, ?_⟩) (by assumption) ?_
            · intro X hSw
              go_simp
            simp only [Act.put, List.setIfInBounds_toArray, List.set_cons_zero, List.set_cons_succ]
            refine take7 (i := 17) (d := 84) (v := .slice (some ⟨bs, 0, none⟩) 64 64) rfl rfl (by kernel_rfl) (by kernel_rfl) (by kernel_rfl) (fun _ _ _ h => h) (Or.inl ⟨by rfl, ?_⟩) (by assumption) ?_
            · intro X hSw
              go_simp
            simp only [Act.put, List.setIfInBounds_toArray, List.set_cons_zero, List.set_cons_succ]
            refine take7 (i := 18) (d := 85) (v := .pointer (some ⟨bl, 2, none⟩)) rfl rfl (by kernel_rfl) (by kernel_rfl) (by kernel_rfl) (fun _ _ _ h => h) (Or.inl ⟨by rfl, ?_⟩) (by assumption) ?_
            · intro X hSw
              go_simp
            simp only [Act.put, List.setIfInBounds_toArray, List.set_cons_zero, List.set_cons_succ]
            refine take7 (i := 19) (d := 86) (v := .string t) rfl rfl (by kernel_rfl) (by kernel_rfl) (by kernel_rfl) (fun _ _ _ h => h) (Or.inl ⟨by rfl, ?_⟩) (by assumption) ?_
            · intro X hSw
              go_simp
            simp only [Act.put, List.setIfInBounds_toArray, List.set_cons_zero, List.set_cons_succ]
            refine take7 (i := 20) (d := 87) (v := .int .u8 (j : Int)) rfl rfl (by kernel_rfl) (by kernel_rfl) (by kernel_rfl) (fun _ _ _ h => h) (Or.inl ⟨by rfl, ?_⟩) (by assumption) ?_
            · intro X hSw
              go_simp
            simp only [Act.put, List.setIfInBounds_toArray, List.set_cons_zero, List.set_cons_succ]
            refine take7 (i := 21) (d := 88) (v := .pointer (some ⟨bs, j, none⟩)) rfl rfl (by kernel_rfl) (by kernel_rfl) (by kernel_rfl) (fun _ _ _ h => h) (Or.inl ⟨by rfl, ?_⟩) (by assumption) ?_
            · intro X hSw
              go_simp
            simp only [Act.put, List.setIfInBounds_toArray, List.set_cons_zero, List.set_cons_succ]
            refine take7 (i := 22) (d := 89) (v := .bool false) rfl rfl (by kernel_rfl) (by kernel_rfl) (by kernel_rfl) (fun _ _ _ h => h) (Or.inl ⟨by rfl, ?_⟩) (by assumption) ?_
            · intro X hSw
              go_simp
            simp only [Act.put, List.setIfInBounds_toArray, List.set_cons_zero, List.set_cons_succ]
            refine take7 (i := 23) (d := 90) (v := .bool false) rfl rfl (by kernel_rfl) (by kernel_rfl) (by kernel_rfl) (fun _ _ _ h => h) (Or.inl ⟨by rfl, ?_⟩) (by assumption) ?_
            · intro X hSw
              go_simp
            simp only [Act.put, List.setIfInBounds_toArray, List.set_cons_zero, List.set_cons_succ]
            refine take7 (i := 24) (d := 91) (v := .bool false) rfl rfl (by kernel_rfl) (by kernel_rfl) (by kernel_rfl) (fun _ _ _ h => h) (Or.inl ⟨by rfl, ?_⟩) (by assumption) ?_
            · intro X hSw
              go_simp
            simp only [Act.put, List.setIfInBounds_toArray, List.set_cons_zero, List.set_cons_succ]
            refine take7 (i := 25) (d := 92) (v := .pointer (some ⟨bl, 0, none⟩)) rfl rfl (by kernel_rfl) (by kernel_rfl) (by kernel_rfl) (fun _ _ _ h => h) (Or.inl ⟨by rfl, ?_⟩) (by assumption) ?_
            · intro X hSw
              go_simp
            simp only [Act.put, List.setIfInBounds_toArray, List.set_cons_zero, List.set_cons_succ]
            refine take7 (i := 26) (d := 93) (v := .int .i64 (m3 : Int)) rfl rfl (by kernel_rfl) (by kernel_rfl) (by kernel_rfl) (fun _ _ _ h => h) (Or.inl ⟨by rfl, ?_⟩) (by assumption) ?_
            · intro X hSw
              go_simp
            simp only [Act.put, List.setIfInBounds_toArray, List.set_cons_zero, List.set_cons_succ]
            refine take7 (i := 27) (d := 94) (v := .pointer (some ⟨bl, 2, none⟩)) rfl rfl (by kernel_rfl) (by kernel_rfl) (by kernel_rfl) (fun _ _ _ h => h) (Or.inl ⟨by rfl, ?_⟩) (by assumption) ?_
            · intro X hSw
              go_simp
            simp only [Act.put, List.setIfInBounds_toArray, List.set_cons_zero, List.set_cons_succ]
            refine take7 (i := 28) (d := 95) (v := .string t) rfl rfl (by kernel_rfl) (by kernel_rfl) (by kernel_rfl) (fun _ _ _ h => h) (Or.inl ⟨by rfl, ?_⟩) (by assumption) ?_
            · intro X hSw
              go_simp
            simp only [Act.put, List.setIfInBounds_toArray, List.set_cons_zero, List.set_cons_succ]
            refine take7 (i := 29) (d := 96) (v := .int .u8 (j : Int)) rfl rfl (by kernel_rfl) (by kernel_rfl) (by kernel_rfl) (fun _ _ _ h => h) (Or.inl ⟨by rfl, ?_⟩) (by assumption) ?_
            · intro X hSw
              go_simp
            simp only [Act.put, List.setIfInBounds_toArray, List.set_cons_zero, List.set_cons_succ]
            refine take7 (i := 30) (d := 97) (v := .int .i64 (j : Int)) rfl rfl (by kernel_rfl) (by kernel_rfl) (by kernel_rfl) (fun _ _ _ h => h) (Or.inl ⟨by rfl, ?_⟩) (by assumption) ?_
            · intro X hSw
              go_simp
            simp only [Act.put, List.setIfInBounds_toArray, List.set_cons_zero, List.set_cons_succ]
            refine take7 (i := 31) (d := 98) (v := .int .i64 (m3 : Int)) rfl rfl (by kernel_rfl) (by kernel_rfl) (by kernel_rfl) (fun _ _ _ h => h) (Or.inl ⟨by rfl, ?_⟩) (by assumption) ?_
            · intro X hSw
              go_simp
            simp only [Act.put, List.setIfInBounds_toArray, List.set_cons_zero, List.set_cons_succ]
            refine take7 (i := 32) (d := 99) (v := .bool false) rfl rfl (by kernel_rfl) (by kernel_rfl) (by kernel_rfl) (fun _ _ _ h => h) (Or.inl ⟨by rfl, ?_⟩) (by assumption) ?_
            · intro X hSw
              go_simp
            simp only [Act.put, List.setIfInBounds_toArray, List.set_cons_zero, List.set_cons_succ]
            refine take7 (i := 33) (d := 100) (v := .bool false) rfl rfl (by kernel_rfl) (by kernel_rfl) (by kernel_rfl) (fun _ _ _ h => h) (Or.inl ⟨by rfl, ?_⟩) (by assumption) ?_
            · intro X hSw
              go_simp
            simp only [Act.put, List.setIfInBounds_toArray, List.set_cons_zero, List.set_cons_succ]
            refine take7 (i := 34) (d := 101) (v := .bool false) rfl rfl (by kernel_rfl) (by kernel_rfl) (by kernel_rfl) (fun _ _ _ h => h) (Or.inl ⟨by rfl, ?_⟩) (by assumption) ?_
            · intro X hSw
              go_simp
            simp only [Act.put, List.setIfInBounds_toArray, List.set_cons_zero, List.set_cons_succ]
            refine take7 (i := 35) (d := 102) (v := .pointer (some ⟨bl, 1, none⟩)) rfl rfl (by kernel_rfl) (by kernel_rfl) (by kernel_rfl) (fun _ _ _ h => h) (Or.inl ⟨by rfl, ?_⟩) (by assumption) ?_
            · intro X hSw
              go_simp
            simp only [Act.put, List.setIfInBounds_toArray, List.set_cons_zero, List.set_cons_succ]
            refine take7 (i := 36) (d := 103) (v := .int .i64 (m5 : Int)) rfl rfl (by kernel_rfl) (by kernel_rfl) (by kernel_rfl) (fun _ _ _ h => h) (Or.inl ⟨by rfl, ?_⟩) (by assumption) ?_
            · intro X hSw
              go_simp
            simp only [Act.put, List.setIfInBounds_toArray, List.set_cons_zero, List.set_cons_succ]
            refine take7 (i := 37) (d := 104) (v := .pointer (some ⟨bl, 2, none⟩)) rfl rfl (by kernel_rfl) (by kernel_rfl) (by kernel_rfl) (fun _ _ _ h => h) (Or.inl ⟨by rfl, ?_⟩) (by assumption) ?_
            · intro X hSw
              go_simp
            simp only [Act.put, List.setIfInBounds_toArray, List.set_cons_zero, List.set_cons_succ]
            refine take7 (i := 38) (d := 105) (v := .string t) rfl rfl (by kernel_rfl) (by kernel_rfl) (by kernel_rfl) (fun _ _ _ h => h) (Or.inl ⟨by rfl, ?_⟩) (by assumption) ?_
            · intro X hSw
              go_simp
            simp only [Act.put, List.setIfInBounds_toArray, List.set_cons_zero, List.set_cons_succ]
            refine take7 (i := 39) (d := 106) (v := .int .u8 (j : Int)) rfl rfl (by kernel_rfl) (by kernel_rfl) (by kernel_rfl) (fun _ _ _ h => h) (Or.inl ⟨by rfl, ?_⟩) (by assumption) ?_
            · intro X hSw
              go_simp
            simp only [Act.put, List.setIfInBounds_toArray, List.set_cons_zero, List.set_cons_succ]
            refine take7 (i := 40) (d := 107) (v := .int .i64 (j : Int)) rfl rfl (by kernel_rfl) (by kernel_rfl) (by kernel_rfl) (fun _ _ _ h => h) (Or.inl ⟨by rfl, ?_⟩) (by assumption) ?_
            · intro X hSw
              go_simp
            simp only [Act.put, List.setIfInBounds_toArray, List.set_cons_zero, List.set_cons_succ]
            refine take7 (i := 41) (d := 108) (v := .int .i64 (m5 : Int)) rfl rfl (by kernel_rfl) (by kernel_rfl) (by kernel_rfl) (fun _ _ _ h => h) (Or.inl ⟨by rfl, ?_⟩) (by assumption) ?_
            · intro X hSw
              go_simp
            simp only [Act.put, List.setIfInBounds_toArray, List.set_cons_zero, List.set_cons_succ]
            refine take7 (i := 42) (d := 109) (v := .bool false) rfl rfl (by kernel_rfl) (by kernel_rfl) (by kernel_rfl) (fun _ _ _ h => h) (Or.inl ⟨by rfl, ?_⟩) (by assumption) ?_
            · intro X hSw
              go_simp
            simp only [Act.put, List.setIfInBounds_toArray, List.set_cons_zero, List.set_cons_succ]
            refine take7 (i := 43) (d := 110) (v := .bool false) rfl rfl (by kernel_rfl) (by kernel_rfl) (by kernel_rfl) (fun _ _ _ h => h) (Or.inl ⟨by rfl, ?_⟩) (by assumption) ?_
            · intro X hSw
              go_simp
            simp only [Act.put, List.setIfInBounds_toArray, List.set_cons_zero, List.set_cons_succ]
            refine wpAnyH_done (by kernel_rfl) ?_ _
            clear hHeld
            go_wp2
            go_roundw
            case rel => exact ⟨q + 1, _, by go_num, by omega, HNx⟩
            case measure => simp [intOf]; omega
          · obtain rfl : n0 = 0 := by omega
            obtain ⟨p, j, hj, hjk, hT⟩ := HTk.out 0
            have HT : Hid _ := hT
            have HJ : Hid (js[p]? = some j ∧ j < i) := ⟨hj, hjk⟩
            clear hj hjk hT HTk hz
            go_wp2_with fail
            refine Calls.mono HT.out ?_
            rintro e Y ⟨rfl, hnf, hbl⟩
            have hj64 : j < 64 := Nat.lt_trans HJ.out.2 HKK.out
            obtain ⟨s1, s2, s3, s4, s5, s6, s7, s8, _, _⟩ := small hj64
            obtain ⟨u1, u2, u3, u4, u5⟩ := small64 hj64
            have hix := idx1 hj64
            have hts := txt_size j
            have hjk' := natLt HJ.out.2
            have hjn := HJ.out.2
            obtain ⟨Z, hZ⟩ : ∃ Z, Z = Y.alloc (.cells #[.int .i64 ((j % 3 : Nat) : Int), .int .i64 ((j % 5 : Nat) : Int), .string (txt j)] 43) := ⟨_, rfl⟩
            obtain ⟨bl, hbz⟩ : ∃ bl, bl = Y.heap.size := ⟨_, rfl⟩
            have hcs : ∀ d, Z.cell? ⟨bl, d, none⟩ = (#[.int .i64 ((j % 3 : Nat) : Int), .int .i64 ((j % 5 : Nat) : Int), .string (txt j)] : Array Value)[d]? := fun d => by
              rw [hZ, hbz]
              exact World.cell?_alloc_mark Y _ _ _ d
            have z0 := hcs 0
            have z1 := hcs 1
            have z2 := hcs 2
            have hbsl : bs < Y.heap.size := hnf.lloc rfl
            have hZb : Z.heap[bs]? = wr.heap[bs]? := by rw [hZ]; exact (Below.heap_alloc _ _ _ hbsl).trans hbl
            have zs : Z.cell? ⟨bs, j, none⟩ = some (.bool false) := (World.cell?_of_block (a := ⟨bs, j, none⟩) hZb).trans (HO.out.no j (List.mem_of_getElem? HJ.out.1))
            have zf : Z.frozen? ⟨bs, j, none⟩ = false := (World.frozen?_of_block (a := ⟨bs, j, none⟩) hZb).trans (HO.out.fz j)
            have HNx : Hid (On w B bs i (js.eraseIdx p) (q + 1) (Z.drew.setCell ⟨bs, j, none⟩ (.bool true))) := HO.out.next HJ.out.1 ((hnf.below (by rw [hZ]; exact below_alloc Y _)).below (Below.refl _ _).drew) hZb
            obtain ⟨m3, hm3⟩ : ∃ m3 : Nat, m3 = j % 3 := ⟨_, rfl⟩
            obtain ⟨m5, hm5⟩ : ∃ m5 : Nat, m5 = j % 5 := ⟨_, rfl⟩
            obtain ⟨t, ht⟩ : ∃ t, t = txt j := ⟨_, rfl⟩
            rw [← hm3] at s2 s4 u2 u4 z0 hZ ⊢
            rw [← hm5] at s3 s5 u3 u5 z1 hZ ⊢
            rw [← ht] at hix hts z2 hZ ⊢
            clear hcs hnf hbl hbsl hZb hm3 hm5 ht HT
            go_wp2
            rw [← hZ, ← hbz]
            clear hZ hbz
            refine wp_region_held_drew (S := fun X => X.cell? ⟨bl, 0, none⟩ = some (.int .i64 (m3 : Int)) ∧ X.cell? ⟨bl, 1, none⟩ = some (.int .i64 (m5 : Int)) ∧ X.cell? ⟨bl, 2, none⟩ = some (.string t) ∧ X.cell? ⟨bs, j, none⟩ = some (.bool false)) (by kernel_rfl) ⟨z0, z1, z2, zs⟩ (fun hHeld => ?_)
            refine take7 (i := 0) (d := 67) (v := .bool true) rfl rfl (by kernel_rfl) (by kernel_rfl) (by kernel_rfl) (fun _ _ _ h => h) (Or.inl ⟨by rfl, ?_⟩) (by assumption) ?_
            · intro X hSw
              go_simp
            simp only [Act.put, List.setIfInBounds_toArray, List.set_cons_zero, List.set_cons_succ]
            refine take7 (i := 1) (d := 68) (v := .bool false) rfl rfl (by kernel_rfl) (by kernel_rfl) (by kernel_rfl) (fun _ _ _ h => h) (Or.inl ⟨by rfl, ?_⟩) (by assumption) ?_
            · intro X hSw
              go_simp
            simp only [Act.put, List.setIfInBounds_toArray, List.set_cons_zero, List.set_cons_succ]
            refine take7 (i := 2) (d := 69) (v := .bool false) rfl rfl (by kernel_rfl) (by kernel_rfl) (by kernel_rfl) (fun _ _ _ h => h) (Or.inl ⟨by rfl, ?_⟩) (by assumption) ?_
            · intro X hSw
              go_simp
            simp only [Act.put, List.setIfInBounds_toArray, List.set_cons_zero, List.set_cons_succ]
            refine take7 (i := 3) (d := 70) (v := .pointer (some ⟨bl, 2, none⟩)) rfl rfl (by kernel_rfl) (by kernel_rfl) (by kernel_rfl) (fun _ _ _ h => h) (Or.inl ⟨by rfl, ?_⟩) (by assumption) ?_
            · intro X hSw
              go_simp
            simp only [Act.put, List.setIfInBounds_toArray, List.set_cons_zero, List.set_cons_succ]
            refine take7 (i := 4) (d := 71) (v := .string t) rfl rfl (by kernel_rfl) (by kernel_rfl) (by kernel_rfl) (fun _ _ _ h => h) (Or.inl ⟨by rfl, ?_⟩) (by assumption) ?_
            · intro X hSw
              go_simp
            simp only [Act.put, List.setIfInBounds_toArray, List.set_cons_zero, List.set_cons_succ]
            refine take7 (i := 5) (d := 72) (v := .int .i64 1) rfl rfl (by kernel_rfl) (by kernel_rfl) (by kernel_rfl) (fun _ _ _ h => h) (Or.inl ⟨by rfl, ?_⟩) (by assumption) ?_
            · intro X hSw
              go_simp
            simp only [Act.put, List.setIfInBounds_toArray, List.set_cons_zero, List.set_cons_succ]
            refine take7 (i := 6) (d := 73) (v := .bool false) rfl rfl (by kernel_rfl) (by kernel_rfl) (by kernel_rfl) (fun _ _ _ h => h) (Or.inl ⟨by rfl, ?_⟩) (by assumption) ?_
            · intro X hSw
              go_simp
            simp only [Act.put, List.setIfInBounds_toArray, List.set_cons_zero, List.set_cons_succ]
            refine take7 (i := 7) (d := 74) (v := .bool false) rfl rfl (by kernel_rfl) (by kernel_rfl) (by kernel_rfl) (fun _ _ _ h => h) (Or.inl ⟨by rfl, ?_⟩) (by assumption) ?_
            · intro X hSw
              go_simp
            simp only [Act.put, List.setIfInBounds_toArray, List.set_cons_zero, List.set_cons_succ]
            refine take7 (i := 8) (d := 75) (v := .bool false) rfl rfl (by kernel_rfl) (by kernel_rfl) (by kernel_rfl) (fun _ _ _ h => h) (Or.inl ⟨by rfl, ?_⟩) (by assumption) ?_
            · intro X hSw
              go_simp
            simp only [Act.put, List.setIfInBounds_toArray, List.set_cons_zero, List.set_cons_succ]
            refine take7 (i := 9) (d := 76) (v := .pointer (some ⟨bl, 2, none⟩)) rfl rfl (by kernel_rfl) (by kernel_rfl) (by kernel_rfl) (fun _ _ _ h => h) (Or.inl ⟨by rfl, ?_⟩) (by assumption) ?_
            · intro X hSw
              go_simp
            simp only [Act.put, List.setIfInBounds_toArray, List.set_cons_zero, List.set_cons_succ]
            refine take7 (i := 10) (d := 77) (v := .string t) rfl rfl (by kernel_rfl) (by kernel_rfl) (by kernel_rfl) (fun _ _ _ h => h) (Or.inl ⟨by rfl, ?_⟩) (by assumption) ?_
            · intro X hSw
              go_simp
            simp only [Act.put, List.setIfInBounds_toArray, List.set_cons_zero, List.set_cons_succ]
            refine take7 (i := 11) (d := 78) (v := .int .u8 (j : Int)) rfl rfl (by kernel_rfl) (by kernel_rfl) (by kernel_rfl) (fun _ _ _ h => h) (Or.inl ⟨by rfl, ?_⟩) (by assumption) ?_
            · intro X hSw
              go_simp
            simp only [Act.put, List.setIfInBounds_toArray, List.set_cons_zero, List.set_cons_succ]
            refine take7 (i := 12) (d := 79) (v := .int .i64 (j : Int)) rfl rfl (by kernel_rfl) (by kernel_rfl) (by kernel_rfl) (fun _ _ _ h => h) (Or.inl ⟨by rfl, ?_⟩) (by assumption) ?_
            · intro X hSw
              go_simp
            simp only [Act.put, List.setIfInBounds_toArray, List.set_cons_zero, List.set_cons_succ]
            refine take7 (i := 13) (d := 80) (v := .int .i64 (i : Int)) rfl rfl (by kernel_rfl) (by kernel_rfl) (by kernel_rfl) (fun _ _ _ h => h) (Or.inl ⟨by rfl, ?_⟩) (by assumption) ?_
            · intro X hSw
              go_simp
            simp only [Act.put, List.setIfInBounds_toArray, List.set_cons_zero, List.set_cons_succ]
            refine take7 (i := 14) (d := 81) (v := .bool false) rfl rfl (by kernel_rfl) (by kernel_rfl) (by kernel_rfl) (fun _ _ _ h => h) (Or.inl ⟨by rfl, ?_⟩) (by assumption) ?_
            · intro X hSw
              go_simp
            simp only [Act.put, List.setIfInBounds_toArray, List.set_cons_zero, List.set_cons_succ]
            refine take7 (i := 15) (d := 82) (v := .bool false) rfl rfl (by kernel_rfl) (by kernel_rfl) (by kernel_rfl) (fun _ _ _ h => h) (Or.inl ⟨by rfl, ?_⟩) (by assumption) ?_
            · intro X hSw
              go_simp
            simp only [Act.put, List.setIfInBounds_toArray, List.set_cons_zero, List.set_cons_succ]
            refine take7 (i := 16) (d := 83) (v := .bool false) rfl rfl (by kernel_rfl) (by kernel_rfl) (by kernel_rfl) (fun _ _ _ h => h) (Or.inl ⟨by rfl, ?_⟩) (by assumption) ?_
            · intro X hSw
              go_simp
            simp only [Act.put, List.setIfInBounds_toArray, List.set_cons_zero, List.set_cons_succ]
            refine take7 (i := 17) (d := 84) (v := .slice (some ⟨bs, 0, none⟩) 64 64) rfl rfl (by kernel_rfl) (by kernel_rfl) (by kernel_rfl) (fun _ _ _ h => h) (Or.inl ⟨by rfl, ?_⟩) (by assumption) ?_
            · intro X hSw
              go_simp
            simp only [Act.put, List.setIfInBounds_toArray, List.set_cons_zero, List.set_cons_succ]
            refine take7 (i := 18) (d := 85) (v := .pointer (some ⟨bl, 2, none⟩)) rfl rfl (by kernel_rfl) (by kernel_rfl) (by kernel_rfl) (fun _ _ _ h => h) (Or.inl ⟨by rfl, ?_⟩) (by assumption) ?_
            · intro X hSw
              go_simp
            simp only [Act.put, List.setIfInBounds_toArray, List.set_cons_zero, List.set_cons_succ]
            refine take7 (i := 19) (d := 86) (v := .string t) rfl rfl (by kernel_rfl) (by kernel_rfl) (by kernel_rfl) (fun _ _ _ h => h) (Or.inl ⟨by rfl, ?_⟩) (by assumption) ?_
            · intro X hSw
              go_simp
            simp only [Act.put, List.setIfInBounds_toArray, List.set_cons_zero, List.set_cons_succ]
            refine take7 (i := 20) (d := 87) (v := .int .u8 (j : Int)) rfl rfl (by kernel_rfl) (by kernel_rfl) (by kernel_rfl) (fun _ _ _ h => h) (Or.inl ⟨by rfl, ?_⟩) (by assumption) ?_
            · intro X hSw
              go_simp
            simp only [Act.put, List.setIfInBounds_toArray, List.set_cons_zero, List.set_cons_succ]
            refine take7 (i := 21) (d := 88) (v := .pointer (some ⟨bs, j, none⟩)) rfl rfl (by kernel_rfl) (by kernel_rfl) (by kernel_rfl) (fun _ _ _ h => h) (Or.inl ⟨by rfl, ?_⟩) (by assumption) ?_
            · intro X hSw
              go_simp
            simp only [Act.put, List.setIfInBounds_toArray, List.set_cons_zero, List.set_cons_succ]
            refine take7 (i := 22) (d := 89) (v := .bool false) rfl rfl (by kernel_rfl) (by kernel_rfl) (by kernel_rfl) (fun _ _ _ h => h) (Or.inl ⟨by rfl, ?_⟩) (by assumption) ?_
            · intro X hSw
              go_simp
            simp only [Act.put, List.setIfInBounds_toArray, List.set_cons_zero, List.set_cons_succ]
            refine take7 (i := 23) (d := 90) (v := .bool false) rfl rfl (by kernel_rfl) (by kernel_rfl) (by kernel_rfl) (fun _ _ _ h => h) (Or.inl ⟨by rfl, ?_⟩) (by assumption) ?_
            · intro X hSw
              go_simp
            simp only [Act.put, List.setIfInBounds_toArray, List.set_cons_zero, List.set_cons_succ]
            refine take7 (i := 24) (d := 91) (v := .bool false) rfl rfl (by kernel_rfl) (by kernel_rfl) (by kernel_rfl) (fun _ _ _ h => h) (Or.inl ⟨by rfl, ?_⟩) (by assumption) ?_
            · intro X hSw
              go_simp
            simp only [Act.put, List.setIfInBounds_toArray, List.set_cons_zero, List.set_cons_succ]
            refine take7 (i := 25) (d := 92) (v := .pointer (some ⟨bl, 0, none⟩)) rfl rfl (by kernel_rfl) (by kernel_rfl) (by kernel_rfl) (fun _ _ _ h => h) (Or.inl ⟨by rfl, ?_⟩) (by assumption) ?_
            · intro X hSw
              go_simp
            simp only [Act.put, List.setIfInBounds_toArray, List.set_cons_zero, List.set_cons_succ]
            refine take7 (i := 26) (d := 93) (v := .int .i64 (m3 : Int)) rfl rfl (by kernel_rfl) (by kernel_rfl) (by kernel_rfl) (fun _ _ _ h => h) (Or.inl ⟨by rfl, ?_⟩) (by assumption) ?_
            · intro X hSw
              go_simp
            simp only [Act.put, List.setIfInBounds_toArray, List.set_cons_zero, List.set_cons_succ]
            refine take7 (i := 27) (d := 94) (v := .pointer (some ⟨bl, 2, none⟩)) rfl rfl (by kernel_rfl) (by kernel_rfl) (by kernel_rfl) (fun _ _ _ h => h) (Or.inl ⟨by rfl, ?_⟩) (by assumption) ?_
            · intro X hSw
              go_simp
            simp only [Act.put, List.setIfInBounds_toArray, List.set_cons_zero, List.set_cons_succ]
            refine take7 (i := 28) (d := 95) (v := .string t) rfl rfl (by kernel_rfl) (by kernel_rfl) (by kernel_rfl) (fun _ _ _ h => h) (Or.inl ⟨by rfl, ?_⟩) (by assumption) ?_
            · intro X hSw
              go_simp
            simp only [Act.put, List.setIfInBounds_toArray, List.set_cons_zero, List.set_cons_succ]
            refine take7 (i := 29) (d := 96) (v := .int .u8 (j : Int)) rfl rfl (by kernel_rfl) (by kernel_rfl) (by kernel_rfl) (fun _ _ _ h => h) (Or.inl ⟨by rfl, ?_⟩) (by assumption) ?_
            · intro X hSw
              go_simp
            simp only [Act.put, List.setIfInBounds_toArray, List.set_cons_zero, List.set_cons_succ]
            refine take7 (i := 30) (d := 97) (v := .int .i64 (j : Int)) rfl rfl (by kernel_rfl) (by kernel_rfl) (by kernel_rfl) (fun _ _ _ h => h) (Or.inl ⟨by rfl, ?_⟩) (by assumption) ?_
            · intro X hSw
              go_simp
            simp only [Act.put, List.setIfInBounds_toArray, List.set_cons_zero, List.set_cons_succ]
            refine take7 (i := 31) (d := 98) (v := .int .i64 (m3 : Int)) rfl rfl (by kernel_rfl) (by kernel_rfl) (by kernel_rfl) (fun _ _ _ h => h) (Or.inl ⟨by rfl, ?_⟩) (by assumption) ?_
            · intro X hSw
              go_simp
            simp only [Act.put, List.setIfInBounds_toArray, List.set_cons_zero, List.set_cons_succ]
            refine take7 (i := 32) (d := 99) (v := .bool false) rfl rfl (by kernel_rfl) (by kernel_rfl) (by kernel_rfl) (fun _ _ _ h => h) (Or.inl ⟨by rfl, ?_⟩) (by assumption) ?_
            · intro X hSw
              go_simp
            simp only [Act.put, List.setIfInBounds_toArray, List.set_cons_zero, List.set_cons_succ]
            refine take7 (i := 33) (d := 100) (v := .bool false) rfl rfl (by kernel_rfl) (by kernel_rfl) (by kernel_rfl) (fun _ _ _ h => h) (Or.inl ⟨by rfl, ?_⟩) (by assumption) ?_
            · intro X hSw
              go_simp
            simp only [Act.put, List.setIfInBounds_toArray, List.set_cons_zero, List.set_cons_succ]
            refine take7 (i := 34) (d := 101) (v := .bool false) rfl rfl (by kernel_rfl) (by kernel_rfl) (by kernel_rfl) (fun _ _ _ h => h) (Or.inl ⟨by rfl, ?_⟩) (by assumption) ?_
            · intro X hSw
              go_simp
            simp only [Act.put, List.setIfInBounds_toArray, List.set_cons_zero, List.set_cons_succ]
            refine take7 (i := 35) (d := 102) (v := .pointer (some ⟨bl, 1, none⟩)) rfl rfl (by kernel_rfl) (by kernel_rfl) (by kernel_rfl) (fun _ _ _ h => h) (Or.inl ⟨by rfl, ?_⟩) (by assumption) ?_
            · intro X hSw
              go_simp
            simp only [Act.put, List.setIfInBounds_toArray, List.set_cons_zero, List.set_cons_succ]
            refine take7 (i := 36) (d := 103) (v := .int .i64 (m5 : Int)) rfl rfl (by kernel_rfl) (by kernel_rfl) (by kernel_rfl) (fun _ _ _ h => h) (Or.inl ⟨by rfl, ?_⟩) (by assumption) ?_
            · intro X hSw
              go_simp
            simp only [Act.put, List.setIfInBounds_toArray, List.set_cons_zero, List.set_cons_succ]
            refine take7 (i := 37) (d := 104) (v := .pointer (some ⟨bl, 2, none⟩)) rfl rfl (by kernel_rfl) (by kernel_rfl) (by kernel_rfl) (fun _ _ _ h => h) (Or.inl ⟨by rfl, ?_⟩) (by assumption) ?_
            · intro X hSw
              go_simp
            simp only [Act.put, List.setIfInBounds_toArray, List.set_cons_zero, List.set_cons_succ]
            refine take7 (i := 38) (d := 105) (v := .string t) rfl rfl (by kernel_rfl) (by kernel_rfl) (by kernel_rfl) (fun _ _ _ h => h) (Or.inl ⟨by rfl, ?_⟩) (by assumption) ?_
            · intro X hSw
              go_simp
            simp only [Act.put, List.setIfInBounds_toArray, List.set_cons_zero, List.set_cons_succ]
            refine take7 (i := 39) (d := 106) (v := .int .u8 (j : Int)) rfl rfl (by kernel_rfl) (by kernel_rfl) (by kernel_rfl) (fun _ _ _ h => h) (Or.inl ⟨by rfl, ?_⟩) (by assumption) ?_
            · intro X hSw
              go_simp
            simp only [Act.put, List.setIfInBounds_toArray, List.set_cons_zero, List.set_cons_succ]
            refine take7 (i := 40) (d := 107) (v := .int .i64 (j : Int)) rfl rfl (by kernel_rfl) (by kernel_rfl) (by kernel_rfl) (fun _ _ _ h => h) (Or.inl ⟨by rfl, ?_⟩) (by assumption) ?_
            · intro X hSw
              go_simp
            simp only [Act.put, List.setIfInBounds_toArray, List.set_cons_zero, List.set_cons_succ]
            refine take7 (i := 41) (d := 108) (v := .int .i64 (m5 : Int)) rfl rfl (by kernel_rfl) (by kernel_rfl) (by kernel_rfl) (fun _ _ _ h => h) (Or.inl ⟨by rfl, ?_⟩) (by assumption) ?_
            · intro X hSw
              go_simp
            simp only [Act.put, List.setIfInBounds_toArray, List.set_cons_zero, List.set_cons_succ]
            refine take7 (i := 42) (d := 109) (v := .bool false) rfl rfl (by kernel_rfl) (by kernel_rfl) (by kernel_rfl) (fun _ _ _ h => h) (Or.inl ⟨by rfl, ?_⟩) (by assumption) ?_
            · intro X hSw
              go_simp
            simp only [Act.put, List.setIfInBounds_toArray, List.set_cons_zero, List.set_cons_succ]
            refine take7 (i := 43) (d := 110) (v := .bool false) rfl rfl (by kernel_rfl) (by kernel_rfl) (by kernel_rfl) (fun _ _ _ h => h) (Or.inl ⟨by rfl, ?_⟩) (by assumption) ?_
            · intro X hSw
              go_simp
            simp only [Act.put, List.setIfInBounds_toArray, List.set_cons_zero, List.set_cons_succ]
            refine wpAnyH_done (by kernel_rfl) ?_ _
            clear hHeld
            go_wp2
            go_roundw
            case rel => exact ⟨q + 1, _, by go_num, by omega, HNx⟩
            case measure => simp [intOf]; omega
        · obtain rfl : q = i := by omega
          have hge := natGe hlt
          have hjs : js = [] := by have := HO.out.len; exact List.eq_nil_of_length_eq_zero (by omega)
          subst hjs
          have HTn : Hid _ := HO.out.net.takeNo 0 rfl
          clear hlt hqi HO
          go_wp2_with fail
          refine Calls.mono HTn.out ?_
          rintro e Y ⟨rfl, hnf, _⟩
          have HN : Hid _ := hnf
          have HLn : Hid (∀ X, Below Y.heap.size Y X → Calls Try.prog 11 #[.pointer (some ⟨B, 0, none⟩)] X fun e Z => e = .returned (.int .i64 0) ∧ Z = X) := fun X hX => (hnf.below hX).lenC
          have HOld : Hid (∀ X, Below Y.heap.size Y X → Below w.heap.size w X) := fun X hX => (hnf.below hX).old
          clear hnf HTn
          go_wp2_with fail
          refine (HLn.out _ (below_alloc _ _)).mono ?_
          rintro e Z ⟨rfl, hZ⟩
          subst hZ
          go_wp2_with fail
          refine (HA.out _).mono ?_
          rintro e w3 ⟨rfl, hb3⟩
          have HB3 : Hid _ := hb3
          clear hb3
          go_wp2
          go_ret
          exact ⟨rfl, (HOld.out _ (below_alloc _ _)).trans (Below.mono HB3.out (HOld.out _ (below_alloc _ _)).size)⟩

theorem laidOut : laidOutB Try.prog = true := by kernel_rfl

theorem own : ownKnob Try.prog.godebug = none := by kernel_rfl

set_option maxRecDepth 100000 in
theorem lifted (os : Os) (started : os.Started) (H : Type) (enc : TypeId × Value → H) :
    ReturnsInHanded {} Try.checked os 4 .any (Rows.netOnceSpec.pre6 enc Try.prog Try.f4 Rows.netOnceRow.domain false) (Rows.netOnceSpec.post enc Try.prog Try.f4 false true false false) := by
  refine returnsInHanded_of_change_sized (C := Try.checked) own started (by kernel_rfl) Try.func4
    (ChangeSpec.witness6 (enc := enc) (C := Try.checked) false ⟨#[], #[.int .i64 0, .slice none 0 0], []⟩ 8 (by kernel_rfl) (by kernel_rfl) (by kernel_rfl) (by kernel_rfl)) ?_
  intro W base args ds gs before hval0 hW _ hsz0 _
  have hsz : (DataW.weightsEach Try.prog (Try.f4.params.toList ++ Rows.netOnceSpec.plain.varTypes Try.prog) (ds ++ gs)).all (· ≤ reachBytes) = true := hsz0
  have hval : ∀ (j : Nat) t v, Try.f4.params[j]? = some t → args[j]? = some v → Value.okWide Try.prog W .any base t v := hval0
  have hW' := hW
  obtain ⟨p, q, hA0, hV, rfl, hfz, hnd⟩ := hW
  have hA : DataW.TrodAll enc Try.prog W 0 (fun _ => true) true Try.f4.params.toList args.toList ds p := hA0
  rw [Try.params4] at hA hval hsz
  obtain ⟨v0, vs0, d0, ds0, p0, q0, hargs, rfl, rfl, h0, r0⟩ := trodAll_cons hA
  obtain ⟨v1, vs1, d1, ds1, p1, q1, rfl, rfl, rfl, h1, r1⟩ := trodAll_cons r0
  obtain ⟨rfl, rfl, rfl⟩ := trodAll_nil r1
  obtain rfl : args = #[v0, v1] := by cases args; simp_all
  obtain ⟨rfl, rfl⟩ := trodVars_none hV
  obtain ⟨a0, rfl, rfl, rfl, w0⟩ := open_int Try.underlying3 (hval 0 3 v0 rfl rfl) h0
  have b0 : -9223372036854775808 ≤ a0 ∧ a0 ≤ 9223372036854775807 := by simpa [Lit.wf, IntKind.min, IntKind.max, IntKind.signed, IntKind.bits] using w0
  have k1 := h1
  have lt1 : ∀ x ∈ p1, x.block < W.heap.size := by obtain ⟨m, hm⟩ := k1; exact DataW.trod_lt m _ _ _ hm
  obtain ⟨a1, b1⟩ := open_ints8 (hval 1 39 v1 rfl rfl) h1
  clear hA0 hval0 hsz0
  refine (walk a0 v1 a1 W b0 b1).mono fun e W' ⟨he, bel⟩ => ?_
  subst he
  exact ⟨_, rfl, _, _, _, [], _, [], hW', trodAll_mk1 (shut_bool Try.underlying4 _), (trodAll_cons_mk (shut_int Try.underlying3 w0) (trodAll_cons_mk (Below.trod laidOut (by kernel_rfl) (of_decide_eq_true (by kernel_rfl)) k1 bel lt1) trodAll_mk0)), rfl, bel.frame _, fun h => by cases h⟩

theorem over : Rows.netOnceRow.holds Try.pinned (OpenSpec.ofChange Rows.netOnceSpec) :=
  OpenClaim.holds_of_wide 4 Try.f4 rfl rfl rfl rfl rfl rfl rfl ⟨rfl, rfl, rfl, rfl, rfl⟩ rfl rfl rfl rfl rfl (by kernel_rfl) Try.func4 (by kernel_rfl)
    (of_decide_eq_true (by kernel_rfl)) (by unfold Func.isWrapper; first | (rw [if_pos (by decide +kernel)]; kernel_rfl) | (rw [if_neg (by decide +kernel)]; exact ⟨rfl, rfl⟩))
    (fun os started H enc _ => lifted os started H enc)


end Go.Proofs.Ytfkhnbikobjpfaa.netOnce
namespace Go.Proofs.Ytfkhnbikobjpfaa
/-- The statement. -/
theorem netOnce_holds : Rows.NetOnceSaid := netOnce.over
end Go.Proofs.Ytfkhnbikobjpfaa
