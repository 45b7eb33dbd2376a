/-
  For every room and all sizes: WalFull answers true: where the disk is full what is refused leaves the log as it was, also behind a crash; the arguments read afterwards as before. No condition.
-/
import Derived.Test.YtagcnhkodmjkgaaWlFullA
import Derived.Test.YtagcnhkodmjkgaaWlAwake
import Derived.Test.YtagcnhkodmjkgaaDkMask
import Derived.ProofKit
import Derived.OpenShut
import Derived.ShutString
import Derived.SizedLaws
import Derived.Deep.RegionHeld
namespace Go.Proofs.Ytagcnhkodmjkgaa.walFull
open Go.ChangeShapes Go.WideShapes Go.ChangeAt Go.RowKit
open Go.ChangeMaps (open_string shut_string)

theorem and_4095 (x : Int) : bits .and .i64 x 4095 = x % 4096 := by
  have h1 : (BitVec.ofInt 64 (4095 : Int)).toNat = 2 ^ 12 - 1 := by decide
  have h2 : (BitVec.ofInt 64 x).toNat = (x % 18446744073709551616).toNat := by rw [BitVec.toNat_ofInt]; rfl
  show IntKind.i64.wrap ((BitVec.ofInt 64 x &&& BitVec.ofInt 64 4095).toNat : Int) = _
  rw [BitVec.toNat_and, h1, h2, Nat.and_two_pow_sub_one_eq_mod, wraps_i64 _ (by omega) (by rw [pow63]; omega)]
  omega

/-- A log on an empty disk of so much room. -/
theorem open_new (w : World) (room : Nat) (hr : 1 ≤ room ∧ room ≤ 16777216) (u : World) (hu : u = w.alloc (.cells (newCells (room : Int)) 67)) : Calls Try.prog 10 #[.pointer (some ⟨w.heap.size, 0, none⟩), .int .i64 400] u fun e w' => ∃ p s own, e = .returned (.tuple #[.pointer (some ⟨p.L, 0, none⟩), .int .i64 0]) ∧ (p.b = w.heap.size ∧ p.limit = 400 ∧ p.room = room) ∧ Lg w' p s own ∧ (∀ k, own k → w.heap.size ≤ k) ∧ Below w.heap.size w w' ∧ (∀ i, i < 256 → s.A i = []) ∧ s.gs = (fun _ => W.new) ∧ s.n = 0 := by
  have hd := dk_new w room hr
  rw [← hu] at hd
  have hus : u.heap.size = w.heap.size + 1 := by rw [hu]; simp
  have hB : Below w.heap.size w u := by rw [hu]; exact below_alloc _ _
  refine (Open_c hd (fun k hk => False.elim hk) 400 (by omega) disky_empty).mono ?_
  rintro e w' ⟨rfl, s, ho⟩
  have hf : found [] [] = ([] : List (List W.Rec)) := rfl
  rw [hf] at ho
  have hA : ∀ i, i < 256 → s.A i = [] := fun i hi => by rw [ho.files i hi]; unfold imgA; simp
  refine ⟨_, s, _, rfl, ⟨rfl, rfl, rfl⟩, ho.aft.1, ?_, ?_, hA, ho.gs, ho.n⟩
  · intro k q
    rcases q with (e | e) | e
    · omega
    · exact False.elim e
    · omega
  · refine hB.trans (ho.aft.2.below (fun k q => ?_) (by omega))
    rcases q with e | e
    · omega
    · exact False.elim e

theorem inv_new {s : St} (lim : Nat) (hA : ∀ i, i < 256 → s.A i = []) (hg : s.gs = fun _ => W.new) (hn : s.n = 0) (ht : s.turn ≤ 1) : Inv lim s [] :=
  ⟨ht, hn, fun i hi => by rw [hA i hi]; unfold imgA; simp, fun l hl => by simp at hl, by rw [hg]; rfl, trivial, fun i hi => by simp at hi, fun i hi => by simp at hi⟩

set_option maxHeartbeats 3200000 in
set_option maxRecDepth 20000 in
theorem walk (a0 : Int) (v1 : Value) (a1 : List Int) (w : World) (_b0 : -9223372036854775808 ≤ a0 ∧ a0 ≤ 9223372036854775807) (b1 : Elems w 1 (fun x : Int => [.int .i64 x]) IntIn v1 a1) :
    Calls Try.prog 5 #[.int .i64 a0, v1] w fun e w' => e = .returned (.bool true) ∧ Below w.heap.size w w' := by
  have HA : Hid (∀ u : World, Calls Try.prog 8 #[] u fun e w' => e = .returned (.bool true) ∧ Below u.heap.size u w') := awake_c
  obtain ⟨m0, hm0⟩ : ∃ m0 : Nat, m0 = (a0 % 4096).toNat := ⟨_, rfl⟩
  have hq : bits .and .i64 a0 4095 = (m0 : Int) := by rw [and_4095]; omega
  have hm1 : m0 < 4096 := by omega
  have e0 : ((300 + m0 : Nat) : Int) = 300 + (m0 : Int) := by omega
  have HN : Hid (Calls Try.prog 9 #[.int .i64 (300 + (m0 : Int))] w fun e w' => e = .returned (.tuple #[.pointer (some ⟨w.heap.size, 0, none⟩), .int .i64 0]) ∧ w' = w.alloc (.cells (newCells ((300 + m0 : Nat) : Int)) 67)) := by
    have := New_yes (300 + m0) w (by omega)
    rw [e0] at this
    rw [e0]
    exact this
  have HOp : Hid _ := open_new w (300 + m0) (by omega)
  have HAll : Hid _ := fun u : World => All_none u
  obtain ⟨p0, c0, rfl, hc0, hcm0, _, k0⟩ := b1
  obtain ⟨n0, hn0⟩ : ∃ n, n = a1.length := ⟨_, rfl⟩
  rw [← hn0] at hc0 ⊢
  have HK0 : Hid _ := k0
  have HL0 : Hid _ := hn0
  have hm2 : (m0 : Int) < 4096 := by omega
  clear k0 hn0 hcm0 _b0 hm0 e0 hm1
  go_enter Try.func5, Try.ntmps5
  go_wp2_with fail
  refine Calls.mono HN.out ?_
  rintro e w1 ⟨rfl, hw1⟩
  have HO1 : Hid _ := HOp.out w1 hw1
  clear hw1 HOp HN
  go_wp2_with fail
  refine Calls.mono HO1.out ?_
  rintro e w2 ⟨p, s, own, rfl, hp, hlg, hmine, hold, hA, hgs, hn⟩
  have H2 : Hid _ := And.intro hp (And.intro hlg (And.intro hmine (And.intro hold (And.intro hA (And.intro hgs hn)))))
  obtain ⟨L, hL⟩ : ∃ L, L = p.L := ⟨_, rfl⟩
  have HPL : Hid _ := hL
  rw [← hL]
  clear hp hlg hmine hold hA hgs hn HO1 hL
  go_wp2_with fail
  refine Calls.mono (HAll.out _) ?_
  rintro e w3 ⟨v, g, rfl, hav, hge, hb3⟩
  obtain ⟨cc, hv, hcc⟩ := hav.form
  subst hv
  have HFu : Hid (Fu w w3 p (.slice (some ⟨g, 0, none⟩) 9 cc) g s [] own (fun _ => W.new) (fun _ => .slice none 0 0)) := by
    obtain ⟨hp, hlg, hmine, hold, hA, hgs, hn⟩ := H2.out
    refine ⟨hlg.below hb3, hav, fun e => ?_, fun i _ k hk => by simp [readBlk] at hk, hmine, Nat.le_trans hold.size hge, hold.trans (hb3.mono hold.size), inv_new _ hA hgs hn hlg.tt, fun i _ => by rw [hgs]; exact Ones.new⟩
    have := hlg.here g e
    omega
  have HE0 : Hid ((∀ i, i < 9 → s.gs i = W.new) ∧ s.n = 0) := by
    obtain ⟨hp, hlg, hmine, hold, hA, hgs, hn⟩ := H2.out
    exact ⟨fun i _ => by rw [hgs], hn⟩
  have HP : Hid (p.b = w.heap.size ∧ p.limit = 400 ∧ p.room = 300 + m0) := H2.out.1
  obtain ⟨B, hB⟩ : ∃ B, B = w.heap.size := ⟨_, rfl⟩
  have HB : Hid (B = w.heap.size) := hB
  clear hav hge hb3 H2 HAll hcc
  go_wp2
  rw [← hB]
  clear hB
  have HTold : Hid (∀ X s' segs' own' S' E', Fu w X p (.slice (some ⟨g, 0, none⟩) 9 cc) g s' segs' own' S' E' → (∀ i, i < 9 → s'.gs i = S' i) → Calls Try.prog 21 #[.pointer (some ⟨L, 0, none⟩), .slice (some ⟨g, 0, none⟩) 9 cc] X fun e w' => e = .returned (.bool true) ∧ Fu w w' p (.slice (some ⟨g, 0, none⟩) 9 cc) g s' segs' own' S' E') := by
    intro X s' segs' own' S' E' hX he
    rw [HPL.out]
    exact hX.told he
  go_loopw [10] (fun x wr => ∃ (k : Nat) (s : St) (segs : List (List W.Rec)) (own : Nat → Prop) (S : Nat → W.Sv) (E : Nat → Value), x = .int .i64 (k : Int) ∧ k ≤ n0 ∧ k ≤ 60 ∧ Hid (Fu w wr p (.slice (some ⟨g, 0, none⟩) 9 cc) g s segs own S E ∧ (∀ i, i < 9 → s.gs i = S i) ∧ s.n ≤ k ∧ ∀ i, i < 9 → (S i).ents.length ≤ k)) (fun x _ => 60 - (intOf x).toNat)
  case atStart => exact ⟨0, s, [], own, _, _, rfl, Nat.zero_le _, Nat.zero_le _, HFu.out, fun i hi => HE0.out.1 i hi, by rw [HE0.out.2]; exact Nat.le_refl _, fun i _ => Nat.le_refl _⟩
  case round =>
    clear HFu HE0
    obtain ⟨k, s, segs, own, S, E, rfl, hk1, hk2, HF⟩ := hrel
    by_cases hgo : k < n0 ∧ k < 60
    · obtain ⟨hlt, hlt2⟩ := hgo
      obtain ⟨x, hx⟩ : ∃ x, a1[k]? = some x := ⟨_, List.getElem?_eq_getElem (by have := HL0.out; omega)⟩
      obtain ⟨gs, o, rfl, hg, hcell⟩ : ∃ g o, p0 = some ⟨g, o, none⟩ ∧ g < w.heap.size ∧ ∀ q u, ([.int .i64 x] : List Value)[q]? = some u → w.cell? ⟨g, o + k * 1 + q, none⟩ = some u := by
        rcases HK0.out with e | ⟨g, o, h1, h2, h3⟩
        · rw [e] at hx; simp at hx
        · exact ⟨g, o, h1, h2, h3 k x hx⟩
      have y0 : wr.cell? ⟨gs, o + k, none⟩ = some (.int .i64 x) := by
        have := (HF.out.1.old.cell (p := ⟨gs, o + k * 1 + 0, none⟩) hg).trans (hcell 0 _ rfl)
        rw [Nat.mul_one, Nat.add_zero] at this
        exact this
      obtain ⟨m, hm⟩ : ∃ m : Nat, m = (x % 256).toNat := ⟨_, rfl⟩
      have hq2 : bits .and .i64 x 255 = (m : Int) := by rw [and_255]; omega
      have hm2 : m ≤ 255 := by omega
      obtain ⟨gi, hgi⟩ : ∃ gi, gi = k % 3 := ⟨_, rfl⟩
      have hrem : (k : Int) % 3 = (gi : Int) := by omega
      have hgi3 : gi < 3 := by omega
      obtain ⟨t0, t1, t2, t3, t4, t5⟩ := HF.out.1.all.cell gi (by omega)
      have hent := HF.out.1.all.ent gi (by omega)
      have HEn : Hid _ := hent
      obtain ⟨pe, ce, hEv, hce1, hce2, _⟩ := hent
      obtain ⟨ne, hne⟩ : ∃ ne, ne = (S gi).ents.length := ⟨_, rfl⟩
      rw [← hne] at hEv
      rw [hEv] at t5
      obtain ⟨i0, hi, hz0, hz1, hz2⟩ := info_parts info8
      obtain ⟨row, hrow⟩ : ∃ row, row = madeCells (Value.int .u8 0).cells (m * i0.size) := ⟨_, rfl⟩
      have hmk : ∀ W : World, (Instr.makeSlice 58 (.int .i64 (m : Int)) (.int .i64 (m : Int))).run Try.prog W = .ok (.slice (some ⟨W.heap.size, 0, none⟩) m m) (W.alloc (.cells row 5)) := by
        intro W
        have h := run_make (P := Try.prog) W 58 5 i0 (.int .u8 0) Try.underlying58 hi hz0 .i64 .i64 (m : Int) (m : Int) (by omega) (by omega) (by rw [hz2]; omega) (by omega)
        simpa [← hrow] using h
      have hrow2 : row = ((List.replicate m (0 : UInt8)).map fun b => Value.int .u8 (b.toNat : Int)).toArray := by rw [hrow, hz1, madeCells_u8]
      obtain ⟨dz, hdz⟩ : ∃ dz : ByteArray, dz = ⟨(List.replicate m (0 : UInt8)).toArray⟩ := ⟨_, rfl⟩
      have hcv1 : (convert 58 9 (.slice (some ⟨wr.heap.size, 0, none⟩) m m)).run Try.prog (wr.alloc (.cells row 5)).drew = .ok (.string dz) (wr.alloc (.cells row 5)).drew := by
        rw [hrow2, hdz]
        exact (lies_new wr (List.replicate m (0 : UInt8)) 5).drew.conv m m (by simp) 58 9 5 Try.underlying58 Try.underlying5 Try.underlying9
      have hcv2 : (convert 58 9 (.slice (some ⟨wr.heap.size, 0, none⟩) m m)).run Try.prog ((wr.alloc (.cells row 5)).alloc (.cells #[.int .i64 0, .int .i64 0, .int .i64 0, .int .i64 0, .int .i64 0, .string ⟨#[]⟩] 37)).drew = .ok (.string dz) ((wr.alloc (.cells row 5)).alloc (.cells #[.int .i64 0, .int .i64 0, .int .i64 0, .int .i64 0, .int .i64 0, .string ⟨#[]⟩] 37)).drew := by
        rw [hrow2, hdz]
        exact ((lies_new wr (List.replicate m (0 : UInt8)) 5).alloc _).drew.conv m m (by simp) 58 9 5 Try.underlying58 Try.underlying5 Try.underlying9
      have hcv3 : (convert 58 9 (.slice (some ⟨wr.heap.size + 1, 0, none⟩) m m)).run Try.prog ((wr.alloc (.cells #[.int .i64 0, .int .i64 0, .int .i64 0, .int .i64 0, .int .i64 0, .string ⟨#[]⟩] 37)).alloc (.cells row 5)).drew = .ok (.string dz) ((wr.alloc (.cells #[.int .i64 0, .int .i64 0, .int .i64 0, .int .i64 0, .int .i64 0, .string ⟨#[]⟩] 37)).alloc (.cells row 5)).drew := by
        have hl := lies_new (wr.alloc (.cells #[.int .i64 0, .int .i64 0, .int .i64 0, .int .i64 0, .int .i64 0, .string ⟨#[]⟩] 37)) (List.replicate m (0 : UInt8)) 5
        rw [show (wr.alloc (.cells #[.int .i64 0, .int .i64 0, .int .i64 0, .int .i64 0, .int .i64 0, .string ⟨#[]⟩] 37)).heap.size = wr.heap.size + 1 by simp] at hl
        rw [hrow2, hdz]
        exact hl.drew.conv m m (by simp) 58 9 5 Try.underlying58 Try.underlying5 Try.underlying9
      have HDz : Hid _ := hdz
      have hgs : gs < wr.heap.size := World.block_lt_of_cell? _ _ y0
      have hgw : g < wr.heap.size := HF.out.1.all.lt
      have hk0 : (0 : Int) ≤ (k : Int) := by omega
      have hkn : (k : Int) < (n0 : Int) := by omega
      have hk60 : (k : Int) < 60 := by omega
      have hg0 : (0 : Int) ≤ (gi : Int) := by omega
      have hg9 : (gi : Int) < 9 := by omega
      have hne60 : ne ≤ 60 := by rw [hne]; have := HF.out.2.2.2 gi (by omega); omega
      have hrv : recV (rc gi ne m) = .agg #[.int .i64 (gi : Int), .int .i64 2, .int .i64 (1 + (ne : Int)), .int .i64 1, .int .i64 0, .string dz] := by rw [hdz]; rfl
      have HO1 : Hid (Ones (s.gs gi) ∧ W.Ok (S gi) ∧ Ones (S gi)) := by
        have h1 := HF.out.1.ones gi (by omega)
        have h2 := HF.out.2.1 gi (by omega)
        exact ⟨h1, by rw [← h2]; exact HF.out.1.lg.ok gi, by rw [← h2]; exact h1⟩
      have hg0' : (rc gi ne m).group.toNat = gi := by show ((gi : Int)).toNat = gi; omega
      have HApp : Hid (∀ u, Below wr.heap.size wr u → Calls Try.prog 15 #[.pointer (some ⟨L, 0, none⟩), .agg #[.int .i64 (gi : Int), .int .i64 2, .int .i64 (1 + (ne : Int)), .int .i64 1, .int .i64 0, .string dz]] u fun e w' => ∃ s' segs' own', Fu w w' p (.slice (some ⟨g, 0, none⟩) 9 cc) g s' segs' own' S E ∧ KeptS own u w' ∧ ((e = .returned (.int .i64 30) ∧ s'.gs = s.gs ∧ s'.n = s.n) ∨ (e = .returned (.int .i64 0) ∧ s'.gs = W.doR s.gs (rc gi ne m) ∧ s'.n ≤ s.n + 1))) := by
        intro u hu
        rw [HPL.out, ← hrv]
        have hon := HO1.out.1
        refine (HF.out.1.below hu).append (rc gi ne m) (rc_chk (by omega) hon (by rw [HF.out.2.1 gi (by omega)]; exact hne) (by omega) hm2) (by have := HF.out.2.2.1; omega) (fun i hi => ?_)
        unfold W.doR
        rw [hg0']
        by_cases q : i = gi
        · rw [q, upd_same]
          exact hon.entry _ rfl rfl
        · rw [upd_other _ _ q]
          exact HF.out.1.ones i hi
      have HFold : Hid (∀ X s' segs' own', Fu w X p (.slice (some ⟨g, 0, none⟩) 9 cc) g s' segs' own' S E → Calls Try.prog 16 #[.agg #[.int .i64 (S gi).term, .int .i64 (S gi).vote, .int .i64 (S gi).base, .int .i64 (S gi).bterm, .string (S gi).data, .slice pe ne ce], .agg #[.int .i64 (gi : Int), .int .i64 2, .int .i64 (1 + (ne : Int)), .int .i64 1, .int .i64 0, .string dz]] X fun e w' => ∃ p' c', e = .returned (.tuple #[.agg #[.int .i64 (S gi).term, .int .i64 (S gi).vote, .int .i64 (S gi).base, .int .i64 (S gi).bterm, .string (S gi).data, .slice p' (ne + 1) c'], .bool true]) ∧ Below X.heap.size X w' ∧ Fu w (set6 w' g (gi * 6) (.int .i64 (S gi).term) (.int .i64 (S gi).vote) (.int .i64 (S gi).base) (.int .i64 (S gi).bterm) (.string (S gi).data) (.slice p' (ne + 1) c')) p (.slice (some ⟨g, 0, none⟩) 9 cc) g s' segs' own' (upd S gi (W.fold (S gi) (rc gi ne m))) (upd E gi (.slice p' (ne + 1) c'))) := by
        intro X s' segs' own' hX
        have := hX.fold (gi := gi) (n := ne) (m := m) (by omega) HO1.out.2.1 HO1.out.2.2 hne (by omega)
        unfold savV at this
        rw [hrv, hEv] at this
        exact this
      have HNe : Hid _ := hne
      have HLt : Hid (∀ q, own q → q < wr.heap.size) := HF.out.1.lg.here
      clear hcell hx hg hm hrow hrow2 hdz hi hz0 hz1 hz2 hgi hne hrv hg0' HK0
      go_wp2
      go_region
      all_goals
        first
        | (obtain ⟨u, q, hu, hqq⟩ : ∃ u q, u = ((wr.alloc (.cells row 5)).alloc (.cells #[.int .i64 (gi : Int), .int .i64 2, .int .i64 (1 + (ne : Int)), .int .i64 1, .int .i64 0, .string dz] 37)).drew ∧ q = wr.heap.size + 1 := ⟨_, _, rfl, rfl⟩
           have HR : Hid (Rb wr u q #[.int .i64 (gi : Int), .int .i64 2, .int .i64 (1 + (ne : Int)), .int .i64 1, .int .i64 0, .string dz]) := by rw [hu, hqq]; exact Rb.second _ _ _ _
           rw [← hu, ← hqq]
           clear hu hqq)
        | (obtain ⟨u, q, hu, hqq⟩ : ∃ u q, u = ((wr.alloc (.cells #[.int .i64 (gi : Int), .int .i64 2, .int .i64 (1 + (ne : Int)), .int .i64 1, .int .i64 0, .string dz] 37)).alloc (.cells row 5)).drew ∧ q = wr.heap.size := ⟨_, _, rfl, rfl⟩
           have HR : Hid (Rb wr u q #[.int .i64 (gi : Int), .int .i64 2, .int .i64 (1 + (ne : Int)), .int .i64 1, .int .i64 0, .string dz]) := by rw [hu, hqq]; exact Rb.first _ _ _ _
           rw [← hu, ← hqq]
           clear hu hqq)
        obtain ⟨r0, r1, r2, r3, r4, r5⟩ := HR.out.six
        clear hmk hcv1 hcv2 hcv3 hq2 y0 t0 t1 t2 t3 t4 t5
        go_wp2_with fail
        refine Calls.mono (HApp.out u HR.out.old) ?_
        clear r0 r1 r2 r3 r4 r5
        rintro e w4 ⟨s', segs', own', hF, hK, hcase⟩
        have HF4 : Hid _ := hF
        have HK4 : Hid _ := hK
        obtain ⟨r0, r1, r2, r3, r4, r5⟩ : w4.cell? ⟨q, 0, none⟩ = _ ∧ w4.cell? ⟨q, 1, none⟩ = _ ∧ w4.cell? ⟨q, 2, none⟩ = _ ∧ w4.cell? ⟨q, 3, none⟩ = _ ∧ w4.cell? ⟨q, 4, none⟩ = _ ∧ w4.cell? ⟨q, 5, none⟩ = _ := ⟨HR.out.kept hK HLt.out 0, HR.out.kept hK HLt.out 1, HR.out.kept hK HLt.out 2, HR.out.kept hK HLt.out 3, HR.out.kept hK HLt.out 4, HR.out.kept hK HLt.out 5⟩
        obtain ⟨t0, t1, t2, t3, t4, t5⟩ := hF.all.cell gi (by omega)
        rw [hEv] at t5
        clear hF hK
        rcases hcase with ⟨rfl, e1, e2⟩ | ⟨rfl, e1, e2⟩
        · have HT4 : Hid _ := HTold.out _ _ _ _ _ _ HF4.out (fun i hi => by rw [e1]; exact HF.out.2.1 i hi)
          have HEnd : Hid (s'.n ≤ k + 1) := by have := HF.out.2.2.1; show s'.n ≤ k + 1; omega
          have HGs : Hid (∀ i, i < 9 → s'.gs i = S i) := fun i hi => by rw [e1]; exact HF.out.2.1 i hi
          clear e1 e2 r0 r1 r2 r3 r4 r5 t0 t1 t2 t3 t4 t5
          go_wp2_with fail
          refine Calls.mono HT4.out ?_
          rintro e w7 ⟨rfl, hF7⟩
          have HF7 : Hid _ := hF7
          clear hF7
          go_wp2
          refine And.intro ?_ ?_
          · exact ⟨k + 1, s', segs', own', S, E, by go_num, by omega, by omega, HF7.out, HGs.out, HEnd.out, fun i hi => by have := HF.out.2.2.2 i hi; omega⟩
          · simp [intOf]; omega
        · have HQ : Hid (∀ Y : World, Below w4.drew.heap.size w4.drew Y → Y.cell? ⟨q, 0, none⟩ = some (.int .i64 (gi : Int)) ∧ Y.cell? ⟨q, 1, none⟩ = some (.int .i64 2) ∧ Y.cell? ⟨q, 2, none⟩ = some (.int .i64 (1 + (ne : Int))) ∧ Y.cell? ⟨q, 3, none⟩ = some (.int .i64 1) ∧ Y.cell? ⟨q, 4, none⟩ = some (.int .i64 0) ∧ Y.cell? ⟨q, 5, none⟩ = some (.string dz)) := by
            have hl : q < w4.drew.heap.size := by have := World.block_lt_of_cell? _ _ r0; exact this
            have hc : ∀ (Y : World) j, Below w4.drew.heap.size w4.drew Y → Y.cell? ⟨q, j, none⟩ = w4.cell? ⟨q, j, none⟩ := fun Y j hY => hY.cell (p := ⟨q, j, none⟩) hl
            intro Y hY
            rw [hc Y 0 hY, hc Y 1 hY, hc Y 2 hY, hc Y 3 hY, hc Y 4 hY, hc Y 5 hY]
            exact ⟨r0, r1, r2, r3, r4, r5⟩
          have HZ : Hid (∀ Y : World, Below w4.drew.heap.size w4.drew Y → (Y.cell? ⟨g, gi * 6, none⟩ = some (.int .i64 (S gi).term) ∧ Y.cell? ⟨g, gi * 6 + 1, none⟩ = some (.int .i64 (S gi).vote) ∧ Y.cell? ⟨g, gi * 6 + 2, none⟩ = some (.int .i64 (S gi).base) ∧ Y.cell? ⟨g, gi * 6 + 3, none⟩ = some (.int .i64 (S gi).bterm) ∧ Y.cell? ⟨g, gi * 6 + 4, none⟩ = some (.string (S gi).data) ∧ Y.cell? ⟨g, gi * 6 + 5, none⟩ = some (.slice pe ne ce)) ∧ ∀ j, Y.frozen? ⟨g, j, none⟩ = false) := by
            have hl : g < w4.drew.heap.size := HF4.out.all.lt
            have hc : ∀ (Y : World) j, Below w4.drew.heap.size w4.drew Y → Y.cell? ⟨g, j, none⟩ = w4.cell? ⟨g, j, none⟩ := fun Y j hY => hY.cell (p := ⟨g, j, none⟩) hl
            intro Y hY
            rw [hc Y _ hY, hc Y _ hY, hc Y _ hY, hc Y _ hY, hc Y _ hY, hc Y _ hY]
            exact ⟨⟨t0, t1, t2, t3, t4, t5⟩, fun j => (hY.frozen (p := ⟨g, j, none⟩) hl).trans (HF4.out.all.free j)⟩
          have HFo : Hid _ := HFold.out w4.drew s' segs' own' (HF4.out.below (Below.refl _ _).drew)
          have HGs : Hid (∀ i, i < 9 → s'.gs i = upd S gi (W.fold (S gi) (rc gi ne m)) i) := by
            intro i hi
            rw [e1]
            unfold W.doR
            rw [show (rc gi ne m).group.toNat = gi by show ((gi : Int)).toNat = gi; omega]
            by_cases q : i = gi
            · rw [q, upd_same, upd_same, HF.out.2.1 gi (by omega)]
            · rw [upd_other _ _ q, upd_other _ _ q]
              exact HF.out.2.1 i hi
          have HEnd : Hid (s'.n ≤ k + 1) := by have := HF.out.2.2.1; show s'.n ≤ k + 1; omega
          have HLen : Hid (∀ i, i < 9 → (upd S gi (W.fold (S gi) (rc gi ne m)) i).ents.length ≤ k + 1) := by
            intro i hi
            have := HF.out.2.2.2 i hi
            by_cases q : i = gi
            · rw [q, upd_same]
              unfold W.fold
              rw [if_neg (show ¬ (rc gi ne m).kind = 1 by show ¬ (2 : Int) = 1; omega), if_pos (show (rc gi ne m).kind = 2 from rfl)]
              unfold W.doEntry
              have := HF.out.2.2.2 gi (by omega)
              simp
              omega
            · rw [upd_other _ _ q]
              omega
          obtain ⟨q0, q1, q2, q3, q4, q5⟩ := HQ.out w4.drew (Below.refl _ _)
          obtain ⟨⟨z0, z1, z2, z3, z4, z5⟩, _⟩ := HZ.out w4.drew (Below.refl _ _)
          clear e1 e2 r0 r1 r2 r3 r4 r5 t0 t1 t2 t3 t4 t5
          go_wp2_with fail
          go_region_with
            (first
              | (go_at_call 16; refine Calls.mono HFo.out ?_; rintro e w5 ⟨p', c', rfl, hb5, hF5⟩; obtain ⟨⟨y0, y1, y2, y3, y4, y5⟩, hfz⟩ := HZ.out w5 hb5; have f0 := hfz (gi * 6); have f1 := hfz (gi * 6 + 1); have f2 := hfz (gi * 6 + 2); have f3 := hfz (gi * 6 + 3); have f4 := hfz (gi * 6 + 4); have f5 := hfz (gi * 6 + 5); clear hfz; clear q0 q1 q2 q3 q4 q5 z0 z1 z2 z3 z4 z5))
          all_goals
            have HF6 : Hid _ := hF5
            obtain ⟨w6, hw6⟩ : ∃ w6, w6 = set6 w5 g (gi * 6) (.int .i64 (S gi).term) (.int .i64 (S gi).vote) (.int .i64 (S gi).base) (.int .i64 (S gi).bterm) (.string (S gi).data) (.slice p' (ne + 1) c') := ⟨_, rfl⟩
            rw [← hw6] at HF6
            have hw7 := hw6
            unfold set6 at hw7
            rw [← hw7]
            have HT6 : Hid _ := HTold.out _ _ _ _ _ _ HF6.out HGs.out
            clear hF5 hw6 hw7 hb5 y0 y1 y2 y3 y4 y5 f0 f1 f2 f3 f4 f5
            go_wp2_with fail
            refine Calls.mono HT6.out ?_
            rintro e w7 ⟨rfl, hF7⟩
            have HF7 : Hid _ := hF7
            clear hF7
            go_wp2
            refine And.intro ?_ ?_
            · exact ⟨k + 1, s', segs', own', _, _, by go_num, by omega, by omega, HF7.out, HGs.out, HEnd.out, HLen.out⟩
            · simp [intOf]; omega
    · have HSy : Hid _ := HF.out.1.sync
      have HG0 : Hid _ := HF.out.2.1
      have HN0 : Hid (s.n < 200) := by have := HF.out.2.2.1; show s.n < 200; omega
      clear HF
      rw [← HPL.out] at HSy
      have hex : ¬ k < n0 ∨ (k < n0 ∧ ¬ k < 60) := by omega
      clear hgo
      rcases hex with hex | ⟨hex1, hex⟩
      all_goals
        go_wp2_with fail
        refine Calls.mono HSy.out ?_
        rintro e w4 ⟨rfl, s', own', hF, hgs', hn', hS'⟩
        have HCr : Hid _ := hF.crash hS'
        have HGs : Hid (∀ i, i < 9 → s'.gs i = S i) := fun i hi => by rw [hgs']; exact HG0.out i hi
        have HN4 : Hid (s'.n < 200) := by rw [hn']; exact HN0.out
        rw [HP.out.1, ← HB.out] at HCr
        clear hF hgs' hn' hS'
        go_wp2_with fail
        refine Calls.mono HCr.out ?_
        rintro e w5 ⟨rfl, dk, hc⟩
        have HRe : Hid _ := hc.reopen HN4.out 400 (by omega)
        have e400 : ((400 : Nat) : Int) = 400 := rfl
        rw [HP.out.1, ← HB.out, e400] at HRe
        clear hc e400
        go_wp2_with fail
        refine Calls.mono HRe.out ?_
        rintro e w6 ⟨p2, s2, own2, rfl, hlg, hall, hg2, hb6⟩
        rw [HB.out] at hb6
        have HT : Hid (Calls Try.prog 21 #[.pointer (some ⟨p2.L, 0, none⟩), .slice (some ⟨g, 0, none⟩) 9 cc] w6 fun e w' => e = .returned (.bool true) ∧ Below w.heap.size w w') := by
          refine (told_c hlg hall).mono ?_
          rintro e w7 ⟨b, rfl, h1, hb7⟩
          rw [h1 (fun i hi => by rw [hg2]; exact HGs.out i hi)]
          exact ⟨rfl, hb6.trans (hb7.mono hb6.size)⟩
        obtain ⟨L2, hL2⟩ : ∃ L2, L2 = p2.L := ⟨_, rfl⟩
        rw [← hL2] at HT ⊢
        clear hlg hall hg2 hb6 hL2
        go_wp2_with fail
        refine Calls.mono HT.out ?_
        rintro e w7 ⟨rfl, hb7⟩
        have HB7 : Hid _ := hb7
        clear hb7
        go_wp2_with fail
        refine (HA.out _).mono ?_
        rintro e w8 ⟨rfl, hb8⟩
        have HB8 : Hid (Below w.heap.size w w8) := Below.trans HB7.out (hb8.mono (Below.size HB7.out))
        clear hb8
        go_wp2
        go_ret
        exact ⟨rfl, HB8.out⟩

theorem laidOut : laidOutB Try.prog = true := by kernel_rfl

theorem own : ownKnob Try.prog.godebug = none := by kernel_rfl

set_option maxRecDepth 100000 in
theorem lifted (os : Os) (started : os.Started) (H : Type) (enc : TypeId × Value → H) :
    ReturnsInHanded {} Try.checked os 5 .any (Rows.walFullSpec.pre6 enc Try.prog Try.f5 Rows.walFullRow.domain false) (Rows.walFullSpec.post enc Try.prog Try.f5 false true false false) := by
  refine returnsInHanded_of_change_sized (C := Try.checked) own started (by kernel_rfl) Try.func5
    (ChangeSpec.witness6 (enc := enc) (C := Try.checked) false ⟨#[], #[.int .i64 0, .slice none 0 0], []⟩ 8 (by kernel_rfl) (by kernel_rfl) (by kernel_rfl) (by kernel_rfl)) ?_
  intro W base args ds gs before hval0 hW _ hsz0 _
  have hsz : (DataW.weightsEach Try.prog (Try.f5.params.toList ++ Rows.walFullSpec.plain.varTypes Try.prog) (ds ++ gs)).all (· ≤ reachBytes) = true := hsz0
  have hval : ∀ (j : Nat) t v, Try.f5.params[j]? = some t → args[j]? = some v → Value.okWide Try.prog W .any base t v := hval0
  have hW' := hW
  obtain ⟨p, q, hA0, hV, rfl, hfz, hnd⟩ := hW
  have hA : DataW.TrodAll enc Try.prog W 0 (fun _ => true) true Try.f5.params.toList args.toList ds p := hA0
  rw [Try.params5] at hA hval hsz
  obtain ⟨v0, vs0, d0, ds0, p0, q0, hargs, rfl, rfl, h0, r0⟩ := trodAll_cons hA
  obtain ⟨v1, vs1, d1, ds1, p1, q1, rfl, rfl, rfl, h1, r1⟩ := trodAll_cons r0
  obtain ⟨rfl, rfl, rfl⟩ := trodAll_nil r1
  obtain rfl : args = #[v0, v1] := by cases args; simp_all
  obtain ⟨rfl, rfl⟩ := trodVars_none hV
  obtain ⟨a0, rfl, rfl, rfl, w0⟩ := open_int Try.underlying3 (hval 0 3 v0 rfl rfl) h0
  have b0 : -9223372036854775808 ≤ a0 ∧ a0 ≤ 9223372036854775807 := by simpa [Lit.wf, IntKind.min, IntKind.max, IntKind.signed, IntKind.bits] using w0
  have k1 := h1
  have lt1 : ∀ x ∈ p1, x.block < W.heap.size := by obtain ⟨m, hm⟩ := k1; exact DataW.trod_lt m _ _ _ hm
  obtain ⟨a1, b1⟩ := open_ints6 (hval 1 53 v1 rfl rfl) h1
  clear hA0 hval0 hsz0
  refine (walk a0 v1 a1 W b0 b1).mono fun e W' ⟨he, bel⟩ => ?_
  subst he
  exact ⟨_, rfl, _, _, _, [], _, [], hW', trodAll_mk1 (shut_bool Try.underlying4 _), (trodAll_cons_mk (shut_int Try.underlying3 w0) (trodAll_cons_mk (Below.trod laidOut (by kernel_rfl) (of_decide_eq_true (by kernel_rfl)) k1 bel lt1) trodAll_mk0)), rfl, bel.frame _, fun h => by cases h⟩

theorem over : Rows.walFullRow.holds Try.pinned (OpenSpec.ofChange Rows.walFullSpec) :=
  OpenClaim.holds_of_wide 5 Try.f5 rfl rfl rfl rfl rfl rfl rfl ⟨rfl, rfl, rfl, rfl, rfl⟩ rfl rfl rfl rfl rfl (by kernel_rfl) Try.func5 (by kernel_rfl)
    (of_decide_eq_true (by kernel_rfl)) (by unfold Func.isWrapper; first | (rw [if_pos (by decide +kernel)]; kernel_rfl) | (rw [if_neg (by decide +kernel)]; exact ⟨rfl, rfl⟩))
    (fun os started H enc _ => lifted os started H enc)


end Go.Proofs.Ytagcnhkodmjkgaa.walFull
namespace Go.Proofs.Ytagcnhkodmjkgaa
/-- The statement. -/
theorem walFull_holds : Rows.WalFullSaid := walFull.over
end Go.Proofs.Ytagcnhkodmjkgaa
