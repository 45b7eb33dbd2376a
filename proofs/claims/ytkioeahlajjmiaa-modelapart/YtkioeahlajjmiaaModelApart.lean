/-
  For every two numbers and every number: ModelApart answers true: what is done to one channel changes no other one; the arguments read afterwards as before. No condition.
-/
import Derived.Test.YtkioeahlajjmiaaMoApart
import Derived.Test.YtkioeahlajjmiaaArr
import Derived.Test.YtkioeahlajjmiaaDkMask
import Derived.Deep.CutRange
import Derived.ProofKit
import Derived.OpenShut
import Derived.ShutString
import Derived.SizedLaws
namespace Go.Proofs.Ytkioeahlajjmiaa.modelApart
open Go.ChangeShapes Go.WideShapes Go.ChangeAt Go.RowKit
open Go.ChangeMaps (open_string shut_string)

theorem mod32 (x : Int) : ∃ a : Nat, bits .and .i64 x 31 = (a : Int) ∧ a < 32 := ⟨(x % 32).toNat, by rw [and_31]; omega, by omega⟩
theorem mod2 (x : Int) : ∃ a : Nat, bits .and .i64 x 1 = (a : Int) ∧ a < 2 := ⟨(x % 2).toNat, by rw [and_1]; omega, by omega⟩
theorem wsum {a b : Nat} (ha : a < 100) (hb : b < 100) : IntKind.i64.wrap ((a : Int) + (b : Int)) = (a : Int) + (b : Int) := wraps_i64 _ (by omega) (by omega)
/-- The box of a reply, laid ahead and written then. -/
theorem box_set {Y Z : World} {b : Nat} (hb : Y.heap[b]? = Z.heap[b]?) (h0 : ∃ x, Z.cell? ⟨b, 0, none⟩ = some x) (h1 : ∃ x, Z.cell? ⟨b, 1, none⟩ = some x) (x y z : Value) : (((Y.setCell ⟨b, 0, none⟩ x).setCell ⟨b, 1, none⟩ y).setCell ⟨b, 2, none⟩ z).cell? ⟨b, 0, none⟩ = some x ∧ (((Y.setCell ⟨b, 0, none⟩ x).setCell ⟨b, 1, none⟩ y).setCell ⟨b, 2, none⟩ z).cell? ⟨b, 1, none⟩ = some y := by
  obtain ⟨x0, h0⟩ := h0
  obtain ⟨x1, h1⟩ := h1
  have y0 : Y.cell? ⟨b, 0, none⟩ = some x0 := (World.cell?_of_block (a := ⟨b, 0, none⟩) hb).trans h0
  have y1 : Y.cell? ⟨b, 1, none⟩ = some x1 := (World.cell?_of_block (a := ⟨b, 1, none⟩) hb).trans h1
  have o : ∀ (W : World) (p q : Nat) (v : Value), p ≠ q → (W.setCell ⟨b, p, none⟩ v).cell? ⟨b, q, none⟩ = W.cell? ⟨b, q, none⟩ := fun W p q v e => World.cell?_setCell_other _ _ _ _ (by intro e'; injection e' with _ e'; exact e e')
  constructor
  · rw [o _ 2 0 _ (by omega), o _ 1 0 _ (by omega)]
    exact World.cell?_setCell_same _ _ _ (by rw [y0])
  · rw [o _ 2 1 _ (by omega)]
    exact World.cell?_setCell_same _ _ _ (by rw [o _ 0 1 _ (by omega), y1])

theorem conv97g (k : Nat) (hk : k < 32) (X : World) (g : Nat) (hc : X.cell? ⟨g, 0, none⟩ = some (.int .u8 (97 + (k : Int)))) : (convert 33 9 (.slice (some ⟨g, 0, none⟩) 1 1)).run Try.prog X = .ok (.string (tzB k)) X := by
  refine run_convert_bytes_back (P := Try.prog) _ 33 9 5 ⟨g, 0, none⟩ 1 [(97 + k).toUInt8] Try.underlying33 Try.underlying5 Try.underlying9 ?_
  intro j hj
  have hj0 : j = 0 := by simp at hj; omega
  subst hj0
  rw [addr_add0, hc]
  simp
  omega

set_option maxHeartbeats 4000000 in
set_option maxRecDepth 20000 in
theorem walk (a0 c0 : Int) (a1 : Int) (w : World) (_b0 : (-9223372036854775808 ≤ a0 ∧ a0 ≤ 9223372036854775807) ∧ (-9223372036854775808 ≤ c0 ∧ c0 ≤ 9223372036854775807)) (_b1 : -9223372036854775808 ≤ a1 ∧ a1 ≤ 9223372036854775807) :
    Calls Try.prog 3 #[.agg #[.int .i64 a0, .int .i64 c0], .int .i64 a1] w fun e w' => e = .returned (.bool true) ∧ Below w.heap.size w w' := by
  have HA : Hid (∀ u : World, Calls Try.prog 11 #[] u fun e w' => e = .returned (.bool true) ∧ Below u.heap.size u w') := awake_c
  obtain ⟨u, hu⟩ : ∃ u, u = w.alloc (.cells #[.int .i64 a0, .int .i64 c0] 22) := ⟨_, rfl⟩
  obtain ⟨bm, hbm⟩ : ∃ bm, bm = w.heap.size := ⟨_, rfl⟩
  have hub : Below w.heap.size w u := by rw [hu]; exact below_alloc _ _
  have HU : Hid (Below w.heap.size w u) := hub
  have hlm : bm < u.heap.size := by rw [hu, hbm]; simp
  have HBm : Hid (∀ X, Below u.heap.size u X → X.cell? ⟨bm, 0, none⟩ = some (.int .i64 a0) ∧ X.cell? ⟨bm, 1, none⟩ = some (.int .i64 c0)) := fun X hX => by
    rw [hX.cell (p := ⟨bm, 0, none⟩) hlm, hX.cell (p := ⟨bm, 1, none⟩) hlm, hu, hbm]
    exact ⟨World.cell?_alloc_mark w _ _ _ 0, World.cell?_alloc_mark w _ _ _ 1⟩
  have HNew : Hid _ := New_fresh (w := u) u (Below.refl _ u)
  obtain ⟨B, hB⟩ : ∃ B, B = u.heap.size + 2 := ⟨_, rfl⟩
  rw [← hB] at HNew
  obtain ⟨x0, hx0, hx0l⟩ := mod32 a0
  obtain ⟨x1, hx1, hx1l⟩ := mod32 c0
  obtain ⟨N, hN⟩ : ∃ N : Nat → Nat, N = fun k => if k = 0 then x0 else x1 := ⟨_, rfl⟩
  have HN : Hid (N 0 = x0 ∧ N 1 = x1 ∧ ∀ k, N k < 32) := by
    rw [hN]
    exact ⟨rfl, rfl, fun k => by dsimp only; split <;> omega⟩
  have HMk : Hid (∀ (X : World) (s : Mo.St) (i n bn ba : Nat), Ap1 u X B s n bn ba (fun _ => 0) → n < 1000 → Calls Try.prog 10 #[.pointer (some ⟨B, 0, none⟩), .agg #[.int .i64 1, .string ⟨#[119]⟩, .string (cnB i), .string ⟨#[]⟩, .string ⟨#[]⟩, .string ⟨#[]⟩, .string ⟨#[]⟩, .int .i64 0, .int .i64 0]] X fun e Y => ∃ E A p m c, e = .returned (.agg #[.int .i64 E, .int .i64 A, .slice p m c]) ∧ Ap1 u Y B (Mo.does s ⟨1, ⟨#[119]⟩, cnB i, ⟨#[]⟩, ⟨#[]⟩, ⟨#[]⟩, ⟨#[]⟩, 0, 0⟩) (n + 1) bn ba (fun _ => 0)) := fun X s i n bn ba h hn => by
    refine (h.do6 (by omega) ⟨1, ⟨#[119]⟩, cnB i, ⟨#[]⟩, ⟨#[]⟩, ⟨#[]⟩, ⟨#[]⟩, 0, 0⟩ ⟨okW, cnB_ok i, okE, okE, okE, okE⟩).mono ?_
    rintro e Y ⟨p, m, c, rfl, h1⟩
    exact ⟨_, _, p, m, c, rfl, h1⟩
  have HJo : Hid (∀ (X : World) (s : Mo.St) (i n bn ba : Nat), Ap1 u X B s n bn ba (fun _ => 0) → n < 1000 → Calls Try.prog 10 #[.pointer (some ⟨B, 0, none⟩), .agg #[.int .i64 2, .string ⟨#[119]⟩, .string (cnB i), .string ⟨#[97, 110, 110]⟩, .string ⟨#[]⟩, .string ⟨#[]⟩, .string ⟨#[]⟩, .int .i64 0, .int .i64 0]] X fun e Y => ∃ E A p m c, e = .returned (.agg #[.int .i64 E, .int .i64 A, .slice p m c]) ∧ Ap1 u Y B (Mo.does s ⟨2, ⟨#[119]⟩, cnB i, ⟨#[97, 110, 110]⟩, ⟨#[]⟩, ⟨#[]⟩, ⟨#[]⟩, 0, 0⟩) (n + 1) bn ba (fun _ => 0)) := fun X s i n bn ba h hn => by
    refine (h.do6 (by omega) ⟨2, ⟨#[119]⟩, cnB i, ⟨#[97, 110, 110]⟩, ⟨#[]⟩, ⟨#[]⟩, ⟨#[]⟩, 0, 0⟩ ⟨okW, cnB_ok i, okA, okE, okE, okE⟩).mono ?_
    rintro e Y ⟨p, m, c, rfl, h1⟩
    exact ⟨_, _, p, m, c, rfl, h1⟩
  clear hub hlm hB hN hx0l hx1l _b0 _b1
  go_enter Try.func3, Try.ntmps3
  go_wp2_with fail
  rw [← hu, ← hbm]
  clear hu hbm
  refine Calls.mono HNew.out ?_
  rintro e w0 ⟨rfl, hM, _⟩
  obtain ⟨X0, hX0⟩ : ∃ X0, X0 = (w0.alloc (.cells #[.string ⟨#[99]⟩, .string ⟨#[100]⟩] 9)).alloc (.cells #[.int .i64 0, .int .i64 0] 22) := ⟨_, rfl⟩
  obtain ⟨ba, hba⟩ : ∃ ba, ba = w0.heap.size + 1 := ⟨_, rfl⟩
  obtain ⟨bn, hbn⟩ : ∃ bn, bn = w0.heap.size := ⟨_, rfl⟩
  have H0 : Hid (Mk1 0 Mo.new ∧ Ap1 u X0 B Mo.new (2 * 0) bn ba (fun _ => 0)) := by
    rw [hX0, hba, hbn]
    exact ⟨Mk1.new, Ap1.begin hM _ (fun _ => rfl)⟩
  clear hM
  go_wp2
  rw [← hX0, ← hba, ← hbn]
  clear hX0 hba hbn
  go_loopw [8] (fun iv wr => ∃ (i : Nat) (s : Mo.St), iv = .int .i64 (i : Int) ∧ i ≤ 2 ∧ Hid (Mk1 i s ∧ Ap1 u wr B s (2 * i) bn ba (fun _ => 0))) (fun iv _ => 2 - (intOf iv).toNat)
  case atStart => exact ⟨0, _, rfl, by omega, H0⟩
  case round =>
    clear H0
    obtain ⟨i, s, rfl, hi2, HS⟩ := hrel
    by_cases hlt : i < 2
    · have hi0 : (0 : Int) ≤ (i : Int) := by omega
      have hi1 : (i : Int) < 2 := by omega
      have n0 := HS.out.2.ar.nm i hlt
      have HC : Hid _ := HMk.out wr s i (2 * i) bn ba HS.out.2 (by omega)
      go_wp2_with fail
      refine Calls.mono HC.out ?_
      rintro e w2 ⟨E, A, p, m, c, rfl, h2⟩
      have H2 : Hid (Ap1 u w2 B (Mo.does s ⟨1, ⟨#[119]⟩, cnB i, ⟨#[]⟩, ⟨#[]⟩, ⟨#[]⟩, ⟨#[]⟩, 0, 0⟩) (2 * i + 1) bn ba (fun _ => 0)) := h2
      clear h2 n0
      have n0 := H2.out.ar.nm i hlt
      have HC2 : Hid _ := HJo.out w2 _ i (2 * i + 1) bn ba H2.out (by omega)
      go_wp2_with fail
      refine Calls.mono HC2.out ?_
      rintro e w3 ⟨E', A', p', m', c', rfl, h3⟩
      have H3 : Hid (Mk1 (i + 1) (Mo.does (Mo.does s ⟨1, ⟨#[119]⟩, cnB i, ⟨#[]⟩, ⟨#[]⟩, ⟨#[]⟩, ⟨#[]⟩, 0, 0⟩) ⟨2, ⟨#[119]⟩, cnB i, ⟨#[97, 110, 110]⟩, ⟨#[]⟩, ⟨#[]⟩, ⟨#[]⟩, 0, 0⟩) ∧ Ap1 u w3 B (Mo.does (Mo.does s ⟨1, ⟨#[119]⟩, cnB i, ⟨#[]⟩, ⟨#[]⟩, ⟨#[]⟩, ⟨#[]⟩, 0, 0⟩) ⟨2, ⟨#[119]⟩, cnB i, ⟨#[97, 110, 110]⟩, ⟨#[]⟩, ⟨#[]⟩, ⟨#[]⟩, 0, 0⟩) (2 * (i + 1)) bn ba (fun _ => 0)) := ⟨HS.out.1.step hlt, h3⟩
      clear h3 n0
      go_wp2
      go_roundw
      case rel => exact ⟨i + 1, _, by go_num, by omega, H3⟩
      case measure => simp [intOf]; omega
    · obtain rfl : i = 2 := by omega
      obtain ⟨m0, m1⟩ := HBm.out wr HS.out.2.old
      obtain ⟨X1, hX1⟩ : ∃ X1, X1 = wr.alloc (.cells #[.int .i64 (x0 : Int), .int .i64 (x1 : Int)] 22) := ⟨_, rfl⟩
      obtain ⟨bz, hbz⟩ : ∃ bz, bz = wr.heap.size := ⟨_, rfl⟩
      have H4 : Hid (Mk2 (fun _ => 0) s ∧ Ap2 u X1 B s (4 + 0) bn ba bz (fun _ => 0) N) := by
        rw [hX1, hbz]
        refine ⟨HS.out.1.two, ?_⟩
        have q := HS.out.2.next N
        rw [HN.out.1, HN.out.2.1] at q
        exact q
      go_wp2
      rw [← hX1, ← hbz]
      clear hX1 hbz m0 m1 HS HMk HJo
      go_loopw [10] (fun iv wr => ∃ (i : Nat) (s : Mo.St) (A : Nat → Nat), iv = .int .i64 (i : Int) ∧ i = A 0 + A 1 ∧ A 0 ≤ N 0 ∧ A 1 ≤ N 1 ∧ Hid (Mk2 A s ∧ Ap2 u wr B s (4 + i) bn ba bz A N)) (fun iv _ => 100 - (intOf iv).toNat)
      case atStart => exact ⟨0, s, fun _ => 0, rfl, rfl, Nat.zero_le _, Nat.zero_le _, H4⟩
      case round =>
        clear H4
        obtain ⟨i, s2, A, rfl, hiA, hA0, hA1, HS⟩ := hrel
        have HAN : Hid (i = A 0 + A 1 ∧ A 0 ≤ N 0 ∧ A 1 ≤ N 1) := ⟨hiA, hA0, hA1⟩
        have hn0 := HN.out.2.2 0
        have hn1 := HN.out.2.2 1
        have t0 := HS.out.2.ar.at_ 0 (by omega)
        have t1 := HS.out.2.ar.at_ 1 (by omega)
        have l0 := HS.out.2.lo 0 (by omega)
        have l1 := HS.out.2.lo 1 (by omega)
        have hw1 := wsum (a := A 0) (b := A 1) (by omega) (by omega)
        have hw2 := wsum (a := N 0) (b := N 1) (by omega) (by omega)
        have hib : (i : Int) ≤ 62 := by omega
        clear hiA
        by_cases hlt2 : A 0 + A 1 < N 0 + N 1
        · have hlt3 : (A 0 : Int) + (A 1 : Int) < (N 0 : Int) + (N 1 : Int) := by omega
          obtain ⟨d, hd⟩ : ∃ d, Op.shift BinOp.shr .i64 a1 .i64 (bits .and .i64 (i : Int) 31) = pure (.int .i64 d) := ⟨_, by rw [and_31]; exact shift_shr_i64 .i64 a1 _ (by omega) (by omega)⟩
          obtain ⟨k0, hk, hk2⟩ := mod2 d
          have HK0 : Hid (k0 < 2) := hk2
          have t2 := HS.out.2.ar.at_ k0 hk2
          have l2 := HS.out.2.lo k0 hk2
          have hk0 : (0 : Int) ≤ (k0 : Int) := by omega
          have hk1 : (k0 : Int) < 2 := by omega
          have HLt : Hid (A 0 + A 1 < N 0 + N 1) := hlt2
          clear hlt2 hk2 hA0 hA1
          go_upto_region 16 with fail
          clear t0 t1 l0 l1
          go_region
          go_upto_if 70 with fail
          go_cut [11] from 46 to 102 (fun x wx => ∃ k : Nat, x = .int .i64 (k : Int) ∧ k < 2 ∧ A k < N k ∧ Hid (Ap2 u wx B s2 (4 + i) bn ba bz A N))
          case first =>
            have HSd : Hid (Ap2 u wr.drew B s2 (4 + i) bn ba bz A N) := HS.out.2.below (Below.refl _ _).drew
            by_cases hge : N k0 ≤ A k0
            · have hge' : (A k0 : Int) ≥ (N k0 : Int) := by omega
              have HOt : Hid (A (1 - k0) < N (1 - k0)) := by
                have h1 := HLt.out
                have h2 := HK0.out
                have h3 : k0 = 0 ∨ k0 = 1 := by omega
                rcases h3 with rfl | rfl
                · show A 1 < N 1
                  omega
                · show A 0 < N 0
                  omega
              have hws : IntKind.i64.wrap (1 - (k0 : Int)) = ((1 - k0 : Nat) : Int) := by rw [wraps_i64 _ (by omega) (by omega)]; omega
              clear hge
              go_wp2
              go_meet
              exact ⟨1 - k0, rfl, by omega, HOt.out, HSd⟩
            · have hge' : ¬ (A k0 : Int) ≥ (N k0 : Int) := by omega
              have HOt : Hid (A k0 < N k0) := by show _ < _; omega
              clear hge
              go_wp2
              go_meet
              exact ⟨k0, rfl, HK0.out, HOt.out, HSd⟩
          case rest =>
            obtain ⟨k, rfl, hk2, hAk, HX⟩ := hcut
            have HK : Hid (k < 2 ∧ A k < N k) := ⟨hk2, hAk⟩
            have hak : A k < 32 := by have := HN.out.2.2 k; omega
            clear hk hd t2 l2 hk0 hk1 hw1 hw2 hlt3 hn0 hn1
            have hk0 : (0 : Int) ≤ (k : Int) := by omega
            have hk1 : (k : Int) < 2 := by omega
            obtain ⟨kw1, kw2⟩ := nums97 (k := A k) hak
            have HS1 : Hid (∀ X, Below wc.heap.size wc X → X.cell? ⟨bn, k, none⟩ = some (.string (cnB k)) ∧ X.cell? ⟨ba, k, none⟩ = some (.int .i64 (A k : Int))) := fun X hX => ⟨(HX.out.below hX).ar.nm k HK.out.1, (HX.out.below hX).ar.at_ k HK.out.1⟩
            have HS2 : Hid (∀ X s n, Ap2 u X B s n bn ba bz A N → X.cell? ⟨bn, k, none⟩ = some (.string (cnB k)) ∧ X.cell? ⟨ba, k, none⟩ = some (.int .i64 (A k : Int))) := fun X s n hX => ⟨hX.ar.nm k HK.out.1, hX.ar.at_ k HK.out.1⟩
            obtain ⟨s3, hs3⟩ : ∃ s3, s3 = Mo.does s2 ⟨3, ⟨#[119]⟩, cnB k, ⟨#[97, 110, 110]⟩, tzB (A k), ⟨#[]⟩, ⟨#[]⟩, 0, 0⟩ := ⟨_, rfl⟩
            have hpo := HS.out.1.post HK.out.1 (by have := HN.out.2.2 k; omega)
            rw [← hs3] at hpo
            have HM3 : Hid (Mk2 (upA A k) s3) := hpo.2
            have hok : OpOk ⟨3, ⟨#[119]⟩, cnB k, ⟨#[97, 110, 110]⟩, tzB (A k), ⟨#[]⟩, ⟨#[]⟩, 0, 0⟩ := ⟨okW, cnB_ok k, okA, Ok.of (by show (1 : Nat) ≤ 2000; decide), okE, okE⟩
            have hb0 : Below wc.heap.size wc wc.drew := (Below.refl _ _).drew
            have hb1 : Below wc.heap.size wc (wc.alloc (.cells #[.int .u8 (97 + (A k : Int))] 5)).drew := (below_alloc wc _).drew
            have hb2 : Below wc.heap.size wc (wc.alloc (.cells #[.int .i64 0, .int .i64 0, .slice none 0 0] 29)).drew := (below_alloc wc _).drew
            have hb3 : Below wc.heap.size wc ((wc.alloc (.cells #[.int .u8 (97 + (A k : Int))] 5)).alloc (.cells #[.int .i64 0, .int .i64 0, .slice none 0 0] 29)).drew := ((below_alloc wc _).trans ((below_alloc _ _).mono (below_alloc wc _).size)).drew
            have hb4 : Below wc.heap.size wc ((wc.alloc (.cells #[.int .i64 0, .int .i64 0, .slice none 0 0] 29)).alloc (.cells #[.int .u8 (97 + (A k : Int))] 5)).drew := ((below_alloc wc _).trans ((below_alloc _ _).mono (below_alloc wc _).size)).drew
            have hsA : (wc.alloc (.cells #[.int .u8 (97 + (A k : Int))] 5)).heap.size = wc.heap.size + 1 := by simp
            have hsB : (wc.alloc (.cells #[.int .i64 0, .int .i64 0, .slice none 0 0] 29)).heap.size = wc.heap.size + 1 := by simp
            have HC1 : Hid (Calls Try.prog 10 #[.pointer (some ⟨B, 0, none⟩), .agg #[.int .i64 3, .string ⟨#[119]⟩, .string (cnB k), .string ⟨#[97, 110, 110]⟩, .string (tzB (A k)), .string ⟨#[]⟩, .string ⟨#[]⟩, .int .i64 0, .int .i64 0]] (wc.alloc (.cells #[.int .u8 (97 + (A k : Int))] 5)).drew fun e Y => ∃ p m c, e = .returned (.agg #[.int .i64 0, .int .i64 (A k : Int), .slice p m c]) ∧ Ap2 u Y B s3 (4 + i + 1) bn ba bz A N) := by
              refine ((HX.out.below hb1).do6 (by omega) _ hok).mono ?_
              rintro e Y ⟨p, m, c, rfl, _, _, h⟩
              rw [← hs3] at h
              rw [hpo.1]
              exact ⟨p, m, c, rfl, h⟩
            have hbox : ∀ (Z : World) (b : Nat), Below wc.heap.size wc Z → wc.heap.size ≤ b → b < Z.heap.size → (∀ j, Z.cell? ⟨b, j, none⟩ = (#[.int .i64 0, .int .i64 0, .slice none 0 0] : Array Value)[j]?) → (∀ j, Z.frozen? ⟨b, j, none⟩ = false) → Calls Try.prog 10 #[.pointer (some ⟨B, 0, none⟩), .agg #[.int .i64 3, .string ⟨#[119]⟩, .string (cnB k), .string ⟨#[97, 110, 110]⟩, .string (tzB (A k)), .string ⟨#[]⟩, .string ⟨#[]⟩, .int .i64 0, .int .i64 0]] Z fun e Y => ∃ p m c, e = .returned (.agg #[.int .i64 0, .int .i64 (A k : Int), .slice p m c]) ∧ Ap2 u Y B s3 (4 + i + 1) bn ba bz A N ∧ (Y.cell? ⟨b, 0, none⟩ = some (.int .i64 0) ∧ Y.cell? ⟨b, 1, none⟩ = some (.int .i64 0) ∧ Y.cell? ⟨b, 2, none⟩ = some (.slice none 0 0) ∧ Y.frozen? ⟨b, 0, none⟩ = false ∧ Y.frozen? ⟨b, 1, none⟩ = false ∧ Y.frozen? ⟨b, 2, none⟩ = false) ∧ Ap2 u (((Y.setCell ⟨b, 0, none⟩ (.int .i64 0)).setCell ⟨b, 1, none⟩ (.int .i64 (A k : Int))).setCell ⟨b, 2, none⟩ (.slice p m c)) B s3 (4 + i + 1) bn ba bz A N ∧ (((Y.setCell ⟨b, 0, none⟩ (.int .i64 0)).setCell ⟨b, 1, none⟩ (.int .i64 (A k : Int))).setCell ⟨b, 2, none⟩ (.slice p m c)).cell? ⟨b, 0, none⟩ = some (.int .i64 0) ∧ (((Y.setCell ⟨b, 0, none⟩ (.int .i64 0)).setCell ⟨b, 1, none⟩ (.int .i64 (A k : Int))).setCell ⟨b, 2, none⟩ (.slice p m c)).cell? ⟨b, 1, none⟩ = some (.int .i64 (A k : Int)) := fun Z b hZ h1b h2b hc hf => by
              refine (HX.out.doB (by omega) _ hok hZ h1b h2b).mono ?_
              rintro e Y ⟨p, m, c, rfl, hbk, h3, h4⟩
              rw [← hs3] at h3 h4
              rw [hpo.1]
              have cc : ∀ j, Y.cell? ⟨b, j, none⟩ = Z.cell? ⟨b, j, none⟩ := fun j => World.cell?_of_block (a := ⟨b, j, none⟩) hbk
              have ff : ∀ j, Y.frozen? ⟨b, j, none⟩ = Z.frozen? ⟨b, j, none⟩ := fun j => World.frozen?_of_block (a := ⟨b, j, none⟩) hbk
              refine ⟨p, m, c, rfl, h3, ⟨by rw [cc, hc]; rfl, by rw [cc, hc]; rfl, by rw [cc, hc]; rfl, by rw [ff]; exact hf 0, by rw [ff]; exact hf 1, by rw [ff]; exact hf 2⟩, h4 _ _ _, box_set hbk ⟨_, hc 0⟩ ⟨_, hc 1⟩ _ _ _⟩
            have HC2 : Hid _ := hbox ((wc.alloc (.cells #[.int .u8 (97 + (A k : Int))] 5)).alloc (.cells #[.int .i64 0, .int .i64 0, .slice none 0 0] 29)).drew (wc.heap.size + 1) hb3 (by omega) (by show _ < (World.alloc _ _).heap.size; simp) (fun j => by rw [← hsA]; exact World.cell?_alloc_mark (wc.alloc (.cells #[.int .u8 (97 + (A k : Int))] 5)) _ _ _ j) (fun j => by rw [← hsA]; show World.frozen? (World.alloc _ _) _ = _; rw [World.frozen?_alloc_mark]; simp)
            have HC3 : Hid _ := hbox ((wc.alloc (.cells #[.int .i64 0, .int .i64 0, .slice none 0 0] 29)).alloc (.cells #[.int .u8 (97 + (A k : Int))] 5)).drew wc.heap.size hb4 (Nat.le_refl _) (by show _ < (World.alloc _ _).heap.size; simp; omega) (fun j => by
              show (World.alloc _ _).cell? _ = _
              rw [(below_alloc (wc.alloc (.cells #[.int .i64 0, .int .i64 0, .slice none 0 0] 29)) (.cells #[.int .u8 (97 + (A k : Int))] 5)).cell (p := ⟨wc.heap.size, j, none⟩) (by show wc.heap.size < _; rw [hsB]; omega)]
              exact World.cell?_alloc_mark wc _ _ _ j) (fun j => by
              show (World.alloc _ _).frozen? _ = _
              rw [(below_alloc (wc.alloc (.cells #[.int .i64 0, .int .i64 0, .slice none 0 0] 29)) (.cells #[.int .u8 (97 + (A k : Int))] 5)).frozen (p := ⟨wc.heap.size, j, none⟩) (by show wc.heap.size < _; rw [hsB]; omega), World.frozen?_alloc_mark]
              simp)
            have hcv1 : (convert 33 9 (.slice (some ⟨wc.heap.size, 0, none⟩) 1 1)).run Try.prog (wc.alloc (.cells #[.int .u8 (97 + (A k : Int))] 5)).drew = .ok (.string (tzB (A k))) (wc.alloc (.cells #[.int .u8 (97 + (A k : Int))] 5)).drew := conv97g (A k) hak _ _ (World.cell?_alloc_mark wc _ _ _ 0)
            have hcv2 : (convert 33 9 (.slice (some ⟨wc.heap.size, 0, none⟩) 1 1)).run Try.prog ((wc.alloc (.cells #[.int .u8 (97 + (A k : Int))] 5)).alloc (.cells #[.int .i64 0, .int .i64 0, .slice none 0 0] 29)).drew = .ok (.string (tzB (A k))) ((wc.alloc (.cells #[.int .u8 (97 + (A k : Int))] 5)).alloc (.cells #[.int .i64 0, .int .i64 0, .slice none 0 0] 29)).drew := conv97g (A k) hak _ _ (by
              show (World.alloc _ _).cell? _ = _
              rw [(below_alloc (wc.alloc (.cells #[.int .u8 (97 + (A k : Int))] 5)) (.cells #[.int .i64 0, .int .i64 0, .slice none 0 0] 29)).cell (p := ⟨wc.heap.size, 0, none⟩) (by show wc.heap.size < _; rw [hsA]; omega)]
              exact World.cell?_alloc_mark wc _ _ _ 0)
            have hcv3 : (convert 33 9 (.slice (some ⟨wc.heap.size + 1, 0, none⟩) 1 1)).run Try.prog ((wc.alloc (.cells #[.int .i64 0, .int .i64 0, .slice none 0 0] 29)).alloc (.cells #[.int .u8 (97 + (A k : Int))] 5)).drew = .ok (.string (tzB (A k))) ((wc.alloc (.cells #[.int .i64 0, .int .i64 0, .slice none 0 0] 29)).alloc (.cells #[.int .u8 (97 + (A k : Int))] 5)).drew := conv97g (A k) hak _ _ (by rw [← hsB]; exact World.cell?_alloc_mark (wc.alloc (.cells #[.int .i64 0, .int .i64 0, .slice none 0 0] 29)) _ _ _ 0)
            clear hpo hok hbox hs3 hak hk2 hAk hsA hsB
            go_upto_region 18 with fail
            go_cut [12] from 46 to 102 (fun x wx => ∃ b12 : Nat, x = .pointer (some ⟨b12, 0, none⟩) ∧ Hid (Ap2 u wx B s3 (4 + i + 1) bn ba bz A N ∧ wx.cell? ⟨b12, 0, none⟩ = some (.int .i64 0) ∧ wx.cell? ⟨b12, 1, none⟩ = some (.int .i64 (A k : Int))))
            case first =>
              go_region_held (fun X => X.cell? ⟨bn, k, none⟩ = some (.string (cnB k)) ∧ X.cell? ⟨ba, k, none⟩ = some (.int .i64 (A k : Int)))
                (first | exact HS1.out _ (by assumption) | exact HS2.out _ _ _ (by assumption) | exact HS2.out _ _ _ (Ap2.below (by assumption) (below_alloc _ _)))
                (first | (go_at_call 10; refine Calls.mono HC1.out ?_; rintro e w6 ⟨p, m, c, rfl, hg6⟩) | (go_at_call 10; refine Calls.mono HC2.out ?_; rintro e w6 ⟨p, m, c, rfl, hg6, ⟨z0, z1, z2, f0, f1, f2⟩, hg7, hc0, hc1⟩) | (go_at_call 10; refine Calls.mono HC3.out ?_; rintro e w6 ⟨p, m, c, rfl, hg6, ⟨z0, z1, z2, f0, f1, f2⟩, hg7, hc0, hc1⟩))
              · have HE : Hid (Ap2 u (w6.alloc (.cells #[.int .i64 0, .int .i64 (A k : Int), .slice p m c] 29)) B s3 (4 + i + 1) bn ba bz A N ∧ (w6.alloc (.cells #[.int .i64 0, .int .i64 (A k : Int), .slice p m c] 29)).cell? ⟨w6.heap.size, 0, none⟩ = some (.int .i64 0) ∧ (w6.alloc (.cells #[.int .i64 0, .int .i64 (A k : Int), .slice p m c] 29)).cell? ⟨w6.heap.size, 1, none⟩ = some (.int .i64 (A k : Int))) := ⟨hg6.below (below_alloc _ _), World.cell?_alloc_mark w6 _ _ _ 0, World.cell?_alloc_mark w6 _ _ _ 1⟩
                clear hg6 hcv1 hcv2 hcv3 hb0 hb1 hb2 hb3 hb4
                go_wp2
                go_meet
                exact ⟨_, rfl, HE⟩
              · have HE : Hid (Ap2 u (((w6.setCell ⟨wc.heap.size + 1, 0, none⟩ (.int .i64 0)).setCell ⟨wc.heap.size + 1, 1, none⟩ (.int .i64 (A k : Int))).setCell ⟨wc.heap.size + 1, 2, none⟩ (.slice p m c)) B s3 (4 + i + 1) bn ba bz A N ∧ (((w6.setCell ⟨wc.heap.size + 1, 0, none⟩ (.int .i64 0)).setCell ⟨wc.heap.size + 1, 1, none⟩ (.int .i64 (A k : Int))).setCell ⟨wc.heap.size + 1, 2, none⟩ (.slice p m c)).cell? ⟨wc.heap.size + 1, 0, none⟩ = some (.int .i64 0) ∧ (((w6.setCell ⟨wc.heap.size + 1, 0, none⟩ (.int .i64 0)).setCell ⟨wc.heap.size + 1, 1, none⟩ (.int .i64 (A k : Int))).setCell ⟨wc.heap.size + 1, 2, none⟩ (.slice p m c)).cell? ⟨wc.heap.size + 1, 1, none⟩ = some (.int .i64 (A k : Int))) := ⟨hg7, hc0, hc1⟩
                clear hg6 hg7 hc0 hc1 z0 z1 z2 f0 f1 f2 hcv1 hcv2 hcv3 hb0 hb1 hb2 hb3 hb4
                go_wp2
                go_meet
                exact ⟨_, rfl, HE⟩
              · have HE : Hid (Ap2 u (((w6.setCell ⟨wc.heap.size + 1, 0, none⟩ (.int .i64 0)).setCell ⟨wc.heap.size + 1, 1, none⟩ (.int .i64 (A k : Int))).setCell ⟨wc.heap.size + 1, 2, none⟩ (.slice p m c)) B s3 (4 + i + 1) bn ba bz A N ∧ (((w6.setCell ⟨wc.heap.size + 1, 0, none⟩ (.int .i64 0)).setCell ⟨wc.heap.size + 1, 1, none⟩ (.int .i64 (A k : Int))).setCell ⟨wc.heap.size + 1, 2, none⟩ (.slice p m c)).cell? ⟨wc.heap.size + 1, 0, none⟩ = some (.int .i64 0) ∧ (((w6.setCell ⟨wc.heap.size + 1, 0, none⟩ (.int .i64 0)).setCell ⟨wc.heap.size + 1, 1, none⟩ (.int .i64 (A k : Int))).setCell ⟨wc.heap.size + 1, 2, none⟩ (.slice p m c)).cell? ⟨wc.heap.size + 1, 1, none⟩ = some (.int .i64 (A k : Int))) := ⟨hg7, hc0, hc1⟩
                clear hg6 hg7 hc0 hc1 z0 z1 z2 f0 f1 f2 hcv1 hcv2 hcv3 hb0 hb1 hb2 hb3 hb4
                go_wp2
                go_meet
                exact ⟨_, rfl, HE⟩
              · have HE : Hid (Ap2 u (((w6.setCell ⟨wc.heap.size, 0, none⟩ (.int .i64 0)).setCell ⟨wc.heap.size, 1, none⟩ (.int .i64 (A k : Int))).setCell ⟨wc.heap.size, 2, none⟩ (.slice p m c)) B s3 (4 + i + 1) bn ba bz A N ∧ (((w6.setCell ⟨wc.heap.size, 0, none⟩ (.int .i64 0)).setCell ⟨wc.heap.size, 1, none⟩ (.int .i64 (A k : Int))).setCell ⟨wc.heap.size, 2, none⟩ (.slice p m c)).cell? ⟨wc.heap.size, 0, none⟩ = some (.int .i64 0) ∧ (((w6.setCell ⟨wc.heap.size, 0, none⟩ (.int .i64 0)).setCell ⟨wc.heap.size, 1, none⟩ (.int .i64 (A k : Int))).setCell ⟨wc.heap.size, 2, none⟩ (.slice p m c)).cell? ⟨wc.heap.size, 1, none⟩ = some (.int .i64 (A k : Int))) := ⟨hg7, hc0, hc1⟩
                clear hg6 hg7 hc0 hc1 z0 z1 z2 f0 f1 f2 hcv1 hcv2 hcv3 hb0 hb1 hb2 hb3 hb4
                go_wp2
                go_meet
                exact ⟨_, rfl, HE⟩
            case rest =>
              obtain ⟨b12, rfl, HB12⟩ := hcut
              clear hcv1 hcv2 hcv3 hb0 hb1 hb2 hb3 hb4 kw1 kw2 HX HC1 HC2 HC3 HS1 HS2
              have HSc : Hid (∀ X, Below wc.heap.size wc X → X.cell? ⟨b12, 0, none⟩ = some (.int .i64 0) ∧ X.cell? ⟨b12, 1, none⟩ = some (.int .i64 (A k : Int)) ∧ X.cell? ⟨ba, k, none⟩ = some (.int .i64 (A k : Int))) := fun X hX => ⟨(hX.cell (p := ⟨b12, 0, none⟩) (World.block_lt_of_cell? _ _ HB12.out.2.1)).trans HB12.out.2.1, (hX.cell (p := ⟨b12, 1, none⟩) (World.block_lt_of_cell? _ _ HB12.out.2.2)).trans HB12.out.2.2, (HB12.out.1.below hX).ar.at_ k HK.out.1⟩
              have HFz : Hid (wc.drew.frozen? ⟨ba, k, none⟩ = false) := (HB12.out.1.below (Below.refl _ _).drew).ar.fz k
              have HUp : Hid (Ap2 u (wc.drew.setCell ⟨ba, k, none⟩ (.int .i64 ((A k : Int) + 1))) B s3 (4 + (i + 1)) bn ba bz (upA A k) N) := (HB12.out.1.below (Below.refl _ _).drew).up HK.out.1
              have HSum : Hid (i + 1 = upA A k 0 + upA A k 1 ∧ upA A k 0 ≤ N 0 ∧ upA A k 1 ≤ N 1) := by
                have h1 := HAN.out
                have h2 := HK.out
                have h3 : k = 0 ∨ k = 1 := by omega
                rcases h3 with rfl | rfl
                · show i + 1 = (A 0 + 1) + A 1 ∧ A 0 + 1 ≤ N 0 ∧ A 1 ≤ N 1
                  omega
                · show i + 1 = A 0 + (A 1 + 1) ∧ A 0 ≤ N 0 ∧ A 1 + 1 ≤ N 1
                  omega
              have hwk : IntKind.i64.wrap ((A k : Int) + 1) = (A k : Int) + 1 := by have h1 := HK.out.2; have h2 := HN.out.2.2 k; exact wraps_i64 _ (by omega) (by omega)
              have hS0 := HSc.out _ (Below.refl _ _).drew
              go_upto_region 19 with fail
              refine wp_region_held_drew (S := fun X => X.cell? ⟨b12, 0, none⟩ = some (.int .i64 0) ∧ X.cell? ⟨b12, 1, none⟩ = some (.int .i64 (A k : Int)) ∧ X.cell? ⟨ba, k, none⟩ = some (.int .i64 (A k : Int))) (by kernel_rfl) hS0 (fun hHeld => ?_)
              clear hS0
              refine take7 (i := 0) (d := 87) (v := .pointer (some ⟨b12, 0, none⟩)) rfl rfl (by kernel_rfl) (by kernel_rfl) (by kernel_rfl) (fun _ _ _ h => h) (Or.inl ⟨by rfl, ?_⟩) (by assumption) ?_
              · intro X hSw
                go_simp
              simp only [Act.put, List.setIfInBounds_toArray, List.set_cons_zero, List.set_cons_succ]
              refine take7 (i := 1) (d := 88) (v := .int .i64 0) rfl rfl (by kernel_rfl) (by kernel_rfl) (by kernel_rfl) (fun _ _ _ h => h) (Or.inl ⟨by rfl, ?_⟩) (by assumption) ?_
              · intro X hSw
                go_simp
              simp only [Act.put, List.setIfInBounds_toArray, List.set_cons_zero, List.set_cons_succ]
              refine take7 (i := 2) (d := 89) (v := .bool false) rfl rfl (by kernel_rfl) (by kernel_rfl) (by kernel_rfl) (fun _ _ _ h => h) (Or.inl ⟨by rfl, ?_⟩) (by assumption) ?_
              · intro X hSw
                go_simp
              simp only [Act.put, List.setIfInBounds_toArray, List.set_cons_zero, List.set_cons_succ]
              refine take7 (i := 3) (d := 90) (v := .bool false) rfl rfl (by kernel_rfl) (by kernel_rfl) (by kernel_rfl) (fun _ _ _ h => h) (Or.inl ⟨by rfl, ?_⟩) (by assumption) ?_
              · intro X hSw
                go_simp
              simp only [Act.put, List.setIfInBounds_toArray, List.set_cons_zero, List.set_cons_succ]
              refine take7 (i := 4) (d := 91) (v := .pointer (some ⟨b12, 1, none⟩)) rfl rfl (by kernel_rfl) (by kernel_rfl) (by kernel_rfl) (fun _ _ _ h => h) (Or.inl ⟨by rfl, ?_⟩) (by assumption) ?_
              · intro X hSw
                go_simp
              simp only [Act.put, List.setIfInBounds_toArray, List.set_cons_zero, List.set_cons_succ]
              refine take7 (i := 5) (d := 92) (v := .int .i64 (A k : Int)) rfl rfl (by kernel_rfl) (by kernel_rfl) (by kernel_rfl) (fun _ _ _ h => h) (Or.inl ⟨by rfl, ?_⟩) (by assumption) ?_
              · intro X hSw
                go_simp
              simp only [Act.put, List.setIfInBounds_toArray, List.set_cons_zero, List.set_cons_succ]
              refine take7 (i := 6) (d := 93) (v := .int .i64 (k : Int)) rfl rfl (by kernel_rfl) (by kernel_rfl) (by kernel_rfl) (fun _ _ _ h => h) (Or.inl ⟨by rfl, ?_⟩) (by assumption) ?_
              · intro X hSw
                go_simp
              simp only [Act.put, List.setIfInBounds_toArray, List.set_cons_zero, List.set_cons_succ]
              refine take7 (i := 7) (d := 94) (v := .pointer (some ⟨ba, k, none⟩)) rfl rfl (by kernel_rfl) (by kernel_rfl) (by kernel_rfl) (fun _ _ _ h => h) (Or.inl ⟨by rfl, ?_⟩) (by assumption) ?_
              · intro X hSw
                go_simp
              simp only [Act.put, List.setIfInBounds_toArray, List.set_cons_zero, List.set_cons_succ]
              refine take7 (i := 8) (d := 95) (v := .int .i64 (A k : Int)) rfl rfl (by kernel_rfl) (by kernel_rfl) (by kernel_rfl) (fun _ _ _ h => h) (Or.inl ⟨by rfl, ?_⟩) (by assumption) ?_
              · intro X hSw
                go_simp
              simp only [Act.put, List.setIfInBounds_toArray, List.set_cons_zero, List.set_cons_succ]
              refine take7 (i := 9) (d := 96) (v := .bool false) rfl rfl (by kernel_rfl) (by kernel_rfl) (by kernel_rfl) (fun _ _ _ h => h) (Or.inl ⟨by rfl, ?_⟩) (by assumption) ?_
              · intro X hSw
                go_simp
              simp only [Act.put, List.setIfInBounds_toArray, List.set_cons_zero, List.set_cons_succ]
              refine take7 (i := 10) (d := 97) (v := .bool false) rfl rfl (by kernel_rfl) (by kernel_rfl) (by kernel_rfl) (fun _ _ _ h => h) (Or.inl ⟨by rfl, ?_⟩) (by assumption) ?_
              · intro X hSw
                go_simp
              simp only [Act.put, List.setIfInBounds_toArray, List.set_cons_zero, List.set_cons_succ]
              refine wpAnyH_done (by kernel_rfl) ?_ _
              obtain ⟨hS0, hS1, hS2⟩ := hHeld
              have hfz := HFz.out
              go_wp2
              go_roundw
              case rel => exact ⟨i + 1, s3, upA A k, by go_num, HSum.out.1, HSum.out.2.1, HSum.out.2.2, HM3.out, HUp.out⟩
              case measure => simp [intOf]; omega
        · have hlt3 : ¬ (A 0 : Int) + (A 1 : Int) < (N 0 : Int) + (N 1 : Int) := by omega
          have HAk : Hid (∀ k, k < 2 → A k = N k) := fun k hk => by
            have h3 : k = 0 ∨ k = 1 := by omega
            rcases h3 with rfl | rfl
            · omega
            · omega
          have H5 : Hid (Ap2 u wr B s2 (200 + 0) bn ba bz A N) := HS.out.2.more (by omega)
          have HRd : Hid (∀ (X : World) (k n : Nat), Ap2 u X B s2 n bn ba bz A N → k < 2 → n < 1000 → Calls Try.prog 10 #[.pointer (some ⟨B, 0, none⟩), .agg #[.int .i64 4, .string ⟨#[119]⟩, .string (cnB k), .string ⟨#[]⟩, .string ⟨#[]⟩, .string ⟨#[]⟩, .string ⟨#[]⟩, .int .i64 0, .int .i64 64]] X fun e Y => ∃ p c, e = .returned (.agg #[.int .i64 0, .int .i64 (N k : Int), .slice p (N k) c]) ∧ (∀ j, j < N k → ∃ g off, p = some ⟨g, off, none⟩ ∧ Y.cell? ⟨g, off + j * 2 + 1, none⟩ = some (.string (tzB j))) ∧ N k ≤ c ∧ c ≤ 9223372036854775807 ∧ Ap2 u Y B s2 (n + 1) bn ba bz A N) := fun X k n hX hk hn => by
            have ha := HN.out.2.2 k
            have hAN := HAk.out k hk
            obtain ⟨q1, q2⟩ := HS.out.1.read hk (by omega)
            refine (hX.do6 (by omega) ⟨4, ⟨#[119]⟩, cnB k, ⟨#[]⟩, ⟨#[]⟩, ⟨#[]⟩, ⟨#[]⟩, 0, 64⟩ ⟨okW, cnB_ok k, okE, okE, okE, okE⟩).mono ?_
            rintro e Y ⟨p, m, c, rfl, hm, hrow, hM⟩
            rw [q1] at hm hrow ⊢
            rw [q2] at hM
            dsimp only at hm hrow ⊢
            rw [pz_len, hAN] at hm
            subst hm
            rw [hAN] at hrow ⊢
            obtain ⟨_, _, hv, r1, r2⟩ := hrow.form
            injection hv with _ _ hcc
            rw [← hcc] at r1 r2
            refine ⟨p, c, rfl, fun j hj => ?_, r1, by unfold maxLen at r2; omega, hM⟩
            obtain ⟨g, off, c', hv', _, _, _, hcs⟩ := hrow.cells (by omega)
            injection hv' with hp _ _
            refine ⟨g, off, hp, ?_⟩
            have := (poCells_at (pz (N k)) j _ (pz_at (N k) j hj)).2
            rw [Nat.add_assoc]
            exact hcs _ _ this
          clear t0 t1 l0 l1 hA0 hA1 HS
          have t0 := H5.out.ar.at_ 0 (by omega)
          have t1 := H5.out.ar.at_ 1 (by omega)
          have l0 := H5.out.lo 0 (by omega)
          have l1 := H5.out.lo 1 (by omega)
          clear hlt2
          go_wp2
          clear t0 t1 l0 l1 hw1 hw2 hlt3 hn0 hn1
          go_loopw [13] (fun kv wx => ∃ k : Nat, kv = .int .i64 (k : Int) ∧ k ≤ 2 ∧ Hid (Ap2 u wx B s2 (200 + k) bn ba bz A N)) (fun kv _ => 2 - (intOf kv).toNat)
          case atStart => exact ⟨0, rfl, by omega, H5⟩
          case round =>
            clear H5
            obtain ⟨k, rfl, hk2, HK3⟩ := hrel
            by_cases hk : k < 2
            · have HK : Hid (k < 2) := hk
              have hk0 : (0 : Int) ≤ (k : Int) := by omega
              have hk1 : (k : Int) < 2 := by omega
              have nk := HK3.out.ar.nm k hk
              have HC : Hid _ := HRd.out wr k (200 + k) HK3.out hk (by omega)
              obtain ⟨nn, hnn⟩ : ∃ nn, nn = N k := ⟨_, rfl⟩
              have HNk : Hid (nn = N k ∧ nn < 32) := ⟨hnn, by rw [hnn]; exact HN.out.2.2 k⟩
              rw [← hnn] at HC
              clear hnn
              go_wp2_with fail
              refine Calls.mono HC.out ?_
              rintro e w2 ⟨p, c, rfl, hpg, hc1, hc2, hM⟩
              obtain ⟨w3, hw3⟩ : ∃ w3, w3 = w2.alloc (.cells #[.int .i64 0, .int .i64 (nn : Int), .slice p nn c] 29) := ⟨_, rfl⟩
              obtain ⟨b14, hb14⟩ : ∃ b14, b14 = w2.heap.size := ⟨_, rfl⟩
              have h23 : Below w2.heap.size w2 w3 := by rw [hw3]; exact below_alloc _ _
              have hl14 : b14 < w3.heap.size := by rw [hw3, hb14]; simp
              have HM3 : Hid (Ap2 u w3 B s2 (200 + (k + 1)) bn ba bz A N) := hM.below h23
              have HSc : Hid (∀ X, Below w3.heap.size w3 X → X.cell? ⟨b14, 0, none⟩ = some (.int .i64 0) ∧ X.cell? ⟨b14, 2, none⟩ = some (.slice p nn c) ∧ X.cell? ⟨bz, k, none⟩ = some (.int .i64 (nn : Int))) := fun X hX => by
                rw [hX.cell (p := ⟨b14, 0, none⟩) hl14, hX.cell (p := ⟨b14, 2, none⟩) hl14]
                refine ⟨?_, ?_, ?_⟩
                · rw [hw3, hb14]; exact World.cell?_alloc_mark w2 _ _ _ 0
                · rw [hw3, hb14]; exact World.cell?_alloc_mark w2 _ _ _ 2
                · rw [HNk.out.1]; exact (HM3.out.below hX).lo k HK.out
              have HPg : Hid (∀ j, j < nn → ∃ g off, p = some ⟨g, off, none⟩ ∧ ∀ X, Below w3.heap.size w3 X → X.cell? ⟨g, off + j * 2 + 1, none⟩ = some (.string (tzB j))) := fun j hj => by
                obtain ⟨g, off, q1, q2⟩ := hpg j hj
                refine ⟨g, off, q1, fun X hX => ?_⟩
                have hX2 := h23.trans (hX.mono h23.size)
                exact (hX2.cell (p := ⟨g, off + j * 2 + 1, none⟩) (World.block_lt_of_cell? _ _ q2)).trans q2
              have hS0 := HSc.out _ (Below.refl _ _).drew
              clear hpg hM h23 hl14 nk
              go_upto_region 26 with fail
              rw [← hw3, ← hb14]
              clear hw3 hb14
              refine wp_region_held_drew (S := fun X => X.cell? ⟨b14, 0, none⟩ = some (.int .i64 0) ∧ X.cell? ⟨b14, 2, none⟩ = some (.slice p nn c) ∧ X.cell? ⟨bz, k, none⟩ = some (.int .i64 (nn : Int))) (by kernel_rfl) hS0 (fun hHeld => ?_)
              clear hS0
              refine take7 (i := 0) (d := 114) (v := .pointer (some ⟨b14, 0, none⟩)) rfl rfl (by kernel_rfl) (by kernel_rfl) (by kernel_rfl) (fun _ _ _ h => h) (Or.inl ⟨by rfl, ?_⟩) (by assumption) ?_
              · intro X hSw
                go_simp
              simp only [Act.put, List.setIfInBounds_toArray, List.set_cons_zero, List.set_cons_succ]
              refine take7 (i := 1) (d := 115) (v := .int .i64 0) rfl rfl (by kernel_rfl) (by kernel_rfl) (by kernel_rfl) (fun _ _ _ h => h) (Or.inl ⟨by rfl, ?_⟩) (by assumption) ?_
              · intro X hSw
                go_simp
              simp only [Act.put, List.setIfInBounds_toArray, List.set_cons_zero, List.set_cons_succ]
              refine take7 (i := 2) (d := 116) (v := .bool false) rfl rfl (by kernel_rfl) (by kernel_rfl) (by kernel_rfl) (fun _ _ _ h => h) (Or.inl ⟨by rfl, ?_⟩) (by assumption) ?_
              · intro X hSw
                go_simp
              simp only [Act.put, List.setIfInBounds_toArray, List.set_cons_zero, List.set_cons_succ]
              refine take7 (i := 3) (d := 117) (v := .bool false) rfl rfl (by kernel_rfl) (by kernel_rfl) (by kernel_rfl) (fun _ _ _ h => h) (Or.inl ⟨by rfl, ?_⟩) (by assumption) ?_
              · intro X hSw
                go_simp
              simp only [Act.put, List.setIfInBounds_toArray, List.set_cons_zero, List.set_cons_succ]
              refine take7 (i := 4) (d := 118) (v := .pointer (some ⟨b14, 2, none⟩)) rfl rfl (by kernel_rfl) (by kernel_rfl) (by kernel_rfl) (fun _ _ _ h => h) (Or.inl ⟨by rfl, ?_⟩) (by assumption) ?_
              · intro X hSw
                go_simp
              simp only [Act.put, List.setIfInBounds_toArray, List.set_cons_zero, List.set_cons_succ]
              refine take7 (i := 5) (d := 119) (v := .slice p nn c) rfl rfl (by kernel_rfl) (by kernel_rfl) (by kernel_rfl) (fun _ _ _ h => h) (Or.inl ⟨by rfl, ?_⟩) (by assumption) ?_
              · intro X hSw
                go_simp
              simp only [Act.put, List.setIfInBounds_toArray, List.set_cons_zero, List.set_cons_succ]
              refine take7 (i := 6) (d := 120) (v := .int .i64 (nn : Int)) rfl rfl (by kernel_rfl) (by kernel_rfl) (by kernel_rfl) (fun _ _ _ h => h) (Or.inl ⟨by rfl, ?_⟩) (by assumption) ?_
              · intro X hSw
                go_simp
              simp only [Act.put, List.setIfInBounds_toArray, List.set_cons_zero, List.set_cons_succ]
              refine take7 (i := 7) (d := 121) (v := .int .i64 (k : Int)) rfl rfl (by kernel_rfl) (by kernel_rfl) (by kernel_rfl) (fun _ _ _ h => h) (Or.inl ⟨by rfl, ?_⟩) (by assumption) ?_
              · intro X hSw
                go_simp
              simp only [Act.put, List.setIfInBounds_toArray, List.set_cons_zero, List.set_cons_succ]
              refine take7 (i := 8) (d := 122) (v := .pointer (some ⟨bz, k, none⟩)) rfl rfl (by kernel_rfl) (by kernel_rfl) (by kernel_rfl) (fun _ _ _ h => h) (Or.inl ⟨by rfl, ?_⟩) (by assumption) ?_
              · intro X hSw
                go_simp
              simp only [Act.put, List.setIfInBounds_toArray, List.set_cons_zero, List.set_cons_succ]
              refine take7 (i := 9) (d := 123) (v := .int .i64 (nn : Int)) rfl rfl (by kernel_rfl) (by kernel_rfl) (by kernel_rfl) (fun _ _ _ h => h) (Or.inl ⟨by rfl, ?_⟩) (by assumption) ?_
              · intro X hSw
                go_simp
              simp only [Act.put, List.setIfInBounds_toArray, List.set_cons_zero, List.set_cons_succ]
              refine take7 (i := 10) (d := 124) (v := .bool false) rfl rfl (by kernel_rfl) (by kernel_rfl) (by kernel_rfl) (fun _ _ _ h => h) (Or.inl ⟨by rfl, ?_⟩) (by assumption) ?_
              · intro X hSw
                go_simp
              simp only [Act.put, List.setIfInBounds_toArray, List.set_cons_zero, List.set_cons_succ]
              refine take7 (i := 11) (d := 125) (v := .bool false) rfl rfl (by kernel_rfl) (by kernel_rfl) (by kernel_rfl) (fun _ _ _ h => h) (Or.inl ⟨by rfl, ?_⟩) (by assumption) ?_
              · intro X hSw
                go_simp
              simp only [Act.put, List.setIfInBounds_toArray, List.set_cons_zero, List.set_cons_succ]
              refine wpAnyH_done (by kernel_rfl) ?_ _
              clear hHeld
              obtain ⟨w4, hw4⟩ : ∃ w4, w4 = w3.drew := ⟨_, rfl⟩
              have HW4 : Hid (Below w3.heap.size w3 w4) := by rw [hw4]; exact (Below.refl _ _).drew
              rw [← hw4]
              clear hw4
              go_wp2
              go_loopw [15] (fun jv wx => ∃ j : Nat, jv = .int .i64 (j : Int) ∧ j ≤ nn ∧ Hid (Below w3.heap.size w3 wx)) (fun jv _ => nn - (intOf jv).toNat)
              case atStart => exact ⟨0, rfl, Nat.zero_le _, HW4⟩
              case round =>
                clear HW4
                obtain ⟨j, rfl, hjn, HJ⟩ := hrel
                obtain ⟨_, s2', s3'⟩ := HSc.out wr HJ.out
                by_cases hj : j < nn
                · obtain ⟨g, off, hp, hpc⟩ := HPg.out j hj
                  subst hp
                  have HPc : Hid (∀ X, Below w3.heap.size w3 X → X.cell? ⟨b14, 2, none⟩ = some (.slice (some ⟨g, off, none⟩) nn c) ∧ X.cell? ⟨g, off + j * 2 + 1, none⟩ = some (.string (tzB j))) := fun X hX => ⟨(HSc.out X hX).2.1, hpc X hX⟩
                  have hj0 : (0 : Int) ≤ (j : Int) := by omega
                  have hj1 : (j : Int) < (nn : Int) := by omega
                  have HJl : Hid (j < 32) := by have := HNk.out.2; show _ < _; omega
                  obtain ⟨jw1, jw2⟩ := nums97 (k := j) HJl.out
                  have hS0 := HPc.out _ HJ.out.drew
                  have hnx : ∀ Y : World, (binOp .neq 9 (.string (tzB j)) (.string (tzB j))).run Try.prog Y = .ok (.bool false) Y := fun Y => by go_simp
                  clear hpc
                  go_upto_region 31 with fail
                  clear s2' s3'
                  refine wp_region_held_drew (S := fun X => X.cell? ⟨b14, 2, none⟩ = some (.slice (some ⟨g, off, none⟩) nn c) ∧ X.cell? ⟨g, off + j * 2 + 1, none⟩ = some (.string (tzB j))) (by kernel_rfl) hS0 (fun hHeld => ?_)
                  clear hS0
                  refine take7 (i := 0) (d := 133) (v := .pointer (some ⟨b14, 2, none⟩)) rfl rfl (by kernel_rfl) (by kernel_rfl) (by kernel_rfl) (fun _ _ _ h => h) (Or.inl ⟨by rfl, ?_⟩) (by assumption) ?_
                  · intro X hSw
                    go_simp
                  simp only [Act.put, List.setIfInBounds_toArray, List.set_cons_zero, List.set_cons_succ]
                  refine take7 (i := 1) (d := 134) (v := .slice (some ⟨g, off, none⟩) nn c) rfl rfl (by kernel_rfl) (by kernel_rfl) (by kernel_rfl) (fun _ _ _ h => h) (Or.inl ⟨by rfl, ?_⟩) (by assumption) ?_
                  · intro X hSw
                    go_simp
                  simp only [Act.put, List.setIfInBounds_toArray, List.set_cons_zero, List.set_cons_succ]
                  refine take7 (i := 2) (d := 135) (v := .int .i64 (j : Int)) rfl rfl (by kernel_rfl) (by kernel_rfl) (by kernel_rfl) (fun _ _ _ h => h) (Or.inl ⟨by rfl, ?_⟩) (by assumption) ?_
                  · intro X hSw
                    go_simp
                  simp only [Act.put, List.setIfInBounds_toArray, List.set_cons_zero, List.set_cons_succ]
                  refine take7 (i := 3) (d := 136) (v := .pointer (some ⟨g, off + j * 2, none⟩)) rfl rfl (by kernel_rfl) (by kernel_rfl) (by kernel_rfl) (fun _ _ _ h => h) (Or.inl ⟨by rfl, ?_⟩) (by assumption) ?_
                  · intro X hSw
                    go_simp
                  simp only [Act.put, List.setIfInBounds_toArray, List.set_cons_zero, List.set_cons_succ]
                  refine take7 (i := 4) (d := 137) (v := .pointer (some ⟨g, off + j * 2 + 1, none⟩)) rfl rfl (by kernel_rfl) (by kernel_rfl) (by kernel_rfl) (fun _ _ _ h => h) (Or.inl ⟨by rfl, ?_⟩) (by assumption) ?_
                  · intro X hSw
                    go_simp
                  simp only [Act.put, List.setIfInBounds_toArray, List.set_cons_zero, List.set_cons_succ]
                  refine take7 (i := 5) (d := 138) (v := .string (tzB j)) rfl rfl (by kernel_rfl) (by kernel_rfl) (by kernel_rfl) (fun _ _ _ h => h) (Or.inl ⟨by rfl, ?_⟩) (by assumption) ?_
                  · intro X hSw
                    go_simp
                  simp only [Act.put, List.setIfInBounds_toArray, List.set_cons_zero, List.set_cons_succ]
                  refine take7 (i := 6) (d := 139) (v := .int .i64 (j : Int)) rfl rfl (by kernel_rfl) (by kernel_rfl) (by kernel_rfl) (fun _ _ _ h => h) (Or.inl ⟨by rfl, ?_⟩) (by assumption) ?_
                  · intro X hSw
                    go_simp
                  simp only [Act.put, List.setIfInBounds_toArray, List.set_cons_zero, List.set_cons_succ]
                  refine take7 (i := 7) (d := 140) (v := .int .i64 (97 + (j : Int))) rfl rfl (by kernel_rfl) (by kernel_rfl) (by kernel_rfl) (fun _ _ _ h => h) (Or.inl ⟨by rfl, ?_⟩) (by assumption) ?_
                  · intro X hSw
                    go_simp
                  simp only [Act.put, List.setIfInBounds_toArray, List.set_cons_zero, List.set_cons_succ]
                  refine take7 (i := 8) (d := 141) (v := .int .u8 (97 + (j : Int))) rfl rfl (by kernel_rfl) (by kernel_rfl) (by kernel_rfl) (fun _ _ _ h => h) (Or.inl ⟨by rfl, ?_⟩) (by assumption) ?_
                  · intro X hSw
                    go_simp
                  simp only [Act.put, List.setIfInBounds_toArray, List.set_cons_zero, List.set_cons_succ]
                  obtain ⟨X, hX⟩ : ∃ X, X = wr.drew := ⟨_, rfl⟩
                  have HX : Hid (Below w3.heap.size w3 X) := by rw [hX]; exact HJ.out.drew
                  rw [← hX] at hHeld ⊢
                  have hcv := conv97 j HJl.out X
                  have HbX : Hid (Below w3.heap.size w3 (X.alloc (.cells #[.int .u8 (97 + (j : Int))] 5))) := HX.out.trans ((below_alloc _ _).mono HX.out.size)
                  have HSx : Hid ((X.alloc (.cells #[.int .u8 (97 + (j : Int))] 5)).cell? ⟨b14, 2, none⟩ = some (.slice (some ⟨g, off, none⟩) nn c) ∧ (X.alloc (.cells #[.int .u8 (97 + (j : Int))] 5)).cell? ⟨g, off + j * 2 + 1, none⟩ = some (.string (tzB j))) := HPc.out _ HbX.out
                  clear hX hHeld
                  refine wpAnyH_ready (rs := [9]) (by kernel_rfl) (by simp) ?_
                  refine AllReadyH.cons rfl (fun K hK => ?_) AllReadyH.nil
                  go_simp
                  refine hK.out _ _ HSx.out (fun hHeld => ?_)
                  clear hK K
                  try simp only [Act.put, List.setIfInBounds_toArray, List.set_cons_zero, List.set_cons_succ]
                  refine wpAnyH_ready (rs := [10]) (by kernel_rfl) (by simp) ?_
                  refine AllReadyH.cons rfl (fun K hK => ?_) AllReadyH.nil
                  go_simp
                  refine hK.out _ _ HSx.out (fun hHeld => ?_)
                  clear hK K
                  try simp only [Act.put, List.setIfInBounds_toArray, List.set_cons_zero, List.set_cons_succ]
                  refine take7 (i := 11) (d := 144) (v := .bool false) rfl rfl (by kernel_rfl) (by kernel_rfl) (by kernel_rfl) (fun _ _ _ h => h) (Or.inl ⟨by rfl, ?_⟩) (by assumption) ?_
                  · intro X hSw
                    go_simp
                  simp only [Act.put, List.setIfInBounds_toArray, List.set_cons_zero, List.set_cons_succ]
                  refine wpAnyH_done (by kernel_rfl) ?_ _
                  clear hHeld hcv hnx
                  go_wp2
                  go_roundw
                  case rel => exact ⟨j + 1, by go_num, by omega, HbX⟩
                  case measure => simp [intOf]; omega
                · obtain rfl : j = nn := by omega
                  have HN9 : Hid (Ap2 u wr B s2 (200 + (k + 1)) bn ba bz A N) := HM3.out.below HJ.out
                  go_wp2
                  go_roundw
                  case rel => exact ⟨k + 1, by go_num, by omega, HN9⟩
                  case measure => simp [intOf]; omega
            · obtain rfl : k = 2 := by omega
              have HOl : Hid (Below w.heap.size w wr) := HU.out.trans (HK3.out.old.mono HU.out.size)
              go_wp2_with fail
              refine (HA.out _).mono ?_
              rintro e w9 ⟨rfl, hb9⟩
              have HB9 : Hid _ := hb9
              clear hb9
              go_wp2
              go_ret
              exact ⟨rfl, HOl.out.trans (HB9.out.mono HOl.out.size)⟩

theorem laidOut : laidOutB Try.prog = true := by kernel_rfl

theorem own : ownKnob Try.prog.godebug = none := by kernel_rfl

set_option maxRecDepth 100000 in
theorem lifted (os : Os) (started : os.Started) (H : Type) (enc : TypeId × Value → H) :
    ReturnsInHanded {} Try.checked os 3 .any (Rows.modelApartSpec.pre6 enc Try.prog Try.f3 Rows.modelApartRow.domain false) (Rows.modelApartSpec.post enc Try.prog Try.f3 false true false false) := by
  refine returnsInHanded_of_change_sized (C := Try.checked) own started (by kernel_rfl) Try.func3
    (ChangeSpec.witness6 (enc := enc) (C := Try.checked) false ⟨#[], #[.agg #[.int .i64 0, .int .i64 0], .int .i64 0], []⟩ 8 (by kernel_rfl) (by kernel_rfl) (by kernel_rfl) (by kernel_rfl)) ?_
  intro W base args ds gs before hval0 hW _ hsz0 _
  have hsz : (DataW.weightsEach Try.prog (Try.f3.params.toList ++ Rows.modelApartSpec.plain.varTypes Try.prog) (ds ++ gs)).all (· ≤ reachBytes) = true := hsz0
  have hval : ∀ (j : Nat) t v, Try.f3.params[j]? = some t → args[j]? = some v → Value.okWide Try.prog W .any base t v := hval0
  have hW' := hW
  obtain ⟨p, q, hA0, hV, rfl, hfz, hnd⟩ := hW
  have hA : DataW.TrodAll enc Try.prog W 0 (fun _ => true) true Try.f3.params.toList args.toList ds p := hA0
  rw [Try.params3] at hA hval hsz
  obtain ⟨v0, vs0, d0, ds0, p0, q0, hargs, rfl, rfl, h0, r0⟩ := trodAll_cons hA
  obtain ⟨v1, vs1, d1, ds1, p1, q1, rfl, rfl, rfl, h1, r1⟩ := trodAll_cons r0
  obtain ⟨rfl, rfl, rfl⟩ := trodAll_nil r1
  obtain rfl : args = #[v0, v1] := by cases args; simp_all
  obtain ⟨rfl, rfl⟩ := trodVars_none hV
  have k0 := h0
  have lt0 : ∀ x ∈ p0, x.block < W.heap.size := by obtain ⟨m, hm⟩ := k0; exact DataW.trod_lt m _ _ _ hm
  obtain ⟨a0, c0, rfl, b0⟩ := open_arr2 Try.underlying22 Try.underlying3 (by kernel_rfl) (by kernel_rfl) (hval 0 22 v0 rfl rfl) h0
  obtain ⟨a1, rfl, rfl, rfl, w1⟩ := open_int Try.underlying3 (hval 1 3 v1 rfl rfl) h1
  have b1 : -9223372036854775808 ≤ a1 ∧ a1 ≤ 9223372036854775807 := by simpa [Lit.wf, IntKind.min, IntKind.max, IntKind.signed, IntKind.bits] using w1
  clear hA0 hval0 hsz0
  refine (walk a0 c0 a1 W b0 b1).mono fun e W' ⟨he, bel⟩ => ?_
  subst he
  exact ⟨_, rfl, _, _, _, [], _, [], hW', trodAll_mk1 (shut_bool Try.underlying4 _), (trodAll_cons_mk (Below.trod laidOut (by kernel_rfl) (of_decide_eq_true (by kernel_rfl)) k0 bel lt0) (trodAll_cons_mk (shut_int Try.underlying3 w1) trodAll_mk0)), rfl, bel.frame _, fun h => by cases h⟩

theorem over : Rows.modelApartRow.holds Try.pinned (OpenSpec.ofChange Rows.modelApartSpec) :=
  OpenClaim.holds_of_wide 3 Try.f3 rfl rfl rfl rfl rfl rfl rfl ⟨rfl, rfl, rfl, rfl, rfl⟩ rfl rfl rfl rfl rfl (by kernel_rfl) Try.func3 (by kernel_rfl)
    (of_decide_eq_true (by kernel_rfl)) (by unfold Func.isWrapper; first | (rw [if_pos (by decide +kernel)]; kernel_rfl) | (rw [if_neg (by decide +kernel)]; exact ⟨rfl, rfl⟩))
    (fun os started H enc _ => lifted os started H enc)


end Go.Proofs.Ytkioeahlajjmiaa.modelApart
namespace Go.Proofs.Ytkioeahlajjmiaa
/-- The statement. -/
theorem modelApart_holds : Rows.ModelApartSaid := modelApart.over
end Go.Proofs.Ytkioeahlajjmiaa
