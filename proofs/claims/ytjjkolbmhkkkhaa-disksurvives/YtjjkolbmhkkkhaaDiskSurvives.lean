/-
  For all texts, every number syncs and all four numbers keep: DiskSurvives answers true: what was synced survives a crash, and what was loose does as it was but for its last byte; the arguments read afterwards as before. No condition.
-/
import Derived.Test.YtjjkolbmhkkkhaaDkSurv
import Derived.Test.YtjjkolbmhkkkhaaDkMask
import Derived.Test.YtjjkolbmhkkkhaaArrS
import Derived.ProofKit
import Derived.OpenShut
import Derived.ShutString
import Derived.SizedLaws
namespace Go.Proofs.Ytjjkolbmhkkkhaa.diskSurvives
open Go.ChangeShapes Go.WideShapes Go.ChangeAt Go.RowKit
open Go.ChangeMaps (open_string shut_string)

theorem extract_eq {r s : ByteArray} (m : Nat) (h : r.data.toList.take m = s.data.toList.take m) : r.extract 0 m = s.extract 0 m := by
  have e : ∀ b : ByteArray, (b.extract 0 m).data.toList = b.data.toList.take m := by
    intro b
    simp [ByteArray.data_extract]
  have : (r.extract 0 m).data.toList = (s.extract 0 m).data.toList := by rw [e, e, h]
  exact ByteArray.ext (Array.toList_inj.1 this)

set_option maxHeartbeats 4000000 in
set_option maxRecDepth 20000 in
theorem walk (v0 : Value) (a0 : List ByteArray) (a1 : Int) (a2 c2 e2 f2 : Int) (w : World) (b0 : Strs w v0 a0) (_b1 : -9223372036854775808 ≤ a1 ∧ a1 ≤ 9223372036854775807)
    (b2 : (-9223372036854775808 ≤ a2 ∧ a2 ≤ 9223372036854775807) ∧ (-9223372036854775808 ≤ c2 ∧ c2 ≤ 9223372036854775807) ∧ (-9223372036854775808 ≤ e2 ∧ e2 ≤ 9223372036854775807) ∧ (-9223372036854775808 ≤ f2 ∧ f2 ≤ 9223372036854775807)) :
    Calls Try.prog 4 #[v0, .int .i64 a1, .agg #[.int .i64 a2, .int .i64 c2, .int .i64 e2, .int .i64 f2]] w fun e w' => e = .returned (.bool true) ∧ Below w.heap.size w w' := by
  have HA : Hid (∀ W : World, Calls Try.prog 10 #[] W fun e w' => e = .returned (.bool true) ∧ Below W.heap.size W w') := awake3
  have HB2 : Hid (a2 ≤ 9223372036854775807 ∧ c2 ≤ 9223372036854775807 ∧ e2 ≤ 9223372036854775807) := ⟨b2.1.2, b2.2.1.2, b2.2.2.1.2⟩
  obtain ⟨ao, c, hv, hc1, hc2, hsz, hcell⟩ := b0
  obtain ⟨n, hn⟩ : ∃ n, n = a0.length := ⟨_, rfl⟩
  rw [← hn] at hv
  subst hv
  have HN : Hid (n = a0.length) := hn
  have HS : Hid (∀ s ∈ a0, s.size ≤ maxLen) := hsz
  have HC : Hid (a0 = [] ∨ ∃ g o, ao = some ⟨g, o, none⟩ ∧ g < w.heap.size ∧ ∀ j (h : j < a0.length), w.cell? ⟨g, o + j, none⟩ = some (.string a0[j])) := hcell
  unfold maxLen at hc2
  have hn63 : n ≤ 9223372036854775807 := by omega
  clear hn hsz hcell hc1 hc2 b2
  go_enter Try.func4, Try.ntmps4
  go_wp2_with fail
  obtain ⟨w0, hw0⟩ : ∃ w0, w0 = w.alloc (.cells #[.int .i64 a2, .int .i64 c2, .int .i64 e2, .int .i64 f2] 40) := ⟨_, rfl⟩
  obtain ⟨p, hp⟩ : ∃ p, p = w.heap.size := ⟨_, rfl⟩
  have x0 : w0.cell? ⟨p, 0, none⟩ = some (.int .i64 a2) := by rw [hw0, hp, World.cell?_alloc_mark]; rfl
  have x1 : w0.cell? ⟨p, 1, none⟩ = some (.int .i64 c2) := by rw [hw0, hp, World.cell?_alloc_mark]; rfl
  have x2 : w0.cell? ⟨p, 2, none⟩ = some (.int .i64 e2) := by rw [hw0, hp, World.cell?_alloc_mark]; rfl
  have x3 : w0.cell? ⟨p, 3, none⟩ = some (.int .i64 f2) := by rw [hw0, hp, World.cell?_alloc_mark]; rfl
  have hb0 : Below p w w0 := by rw [hw0, hp]; exact (Below.refl _ _).alloc (Nat.le_refl _) _
  have hpb : p < w0.heap.size := by rw [hw0, hp]; simp
  rw [← hw0, ← hp]
  obtain ⟨b, hb⟩ : ∃ b, b = w0.heap.size := ⟨_, rfl⟩
  have hnew := New_yes 1048576 w0 (by omega)
  have hdk := dk_new w0 1048576 (by omega)
  rw [← hb] at hnew hpb hdk
  have HNew : Hid _ := hnew
  have HB0 : Hid (Below p w w0) := hb0
  have HP : Hid (p = w.heap.size) := hp
  have X : Hid (∀ W : World, Below b w0 W → W.cell? ⟨p, 0, none⟩ = some (.int .i64 a2) ∧ W.cell? ⟨p, 1, none⟩ = some (.int .i64 c2) ∧ W.cell? ⟨p, 2, none⟩ = some (.int .i64 e2) ∧ W.cell? ⟨p, 3, none⟩ = some (.int .i64 f2)) := by
    intro W hW
    exact ⟨by rw [hW.cell (p := ⟨p, 0, none⟩) hpb]; exact x0, by rw [hW.cell (p := ⟨p, 1, none⟩) hpb]; exact x1, by rw [hW.cell (p := ⟨p, 2, none⟩) hpb]; exact x2, by rw [hW.cell (p := ⟨p, 3, none⟩) hpb]; exact x3⟩
  have HE : Hid (∀ W W' : World, Below b w0 W → Below W.heap.size W W' → b ≤ W.heap.size → Below w.heap.size w W') := by
    intro W W' h1 h2 h3
    rw [← HP.out]
    exact HB0.out.trans ((h1.mono (Nat.le_of_lt hpb)).trans (h2.mono (by omega)))
  have HTx : Hid (∀ W : World, Below b w0 W → ∀ k s, a0[k]? = some s → ∃ g o, ao = some ⟨g, o, none⟩ ∧ W.cell? ⟨g, o + k, none⟩ = some (.string s)) := by
    intro W hW k s hs
    obtain ⟨hk, hs⟩ := List.getElem?_eq_some_iff.1 hs
    rcases HC.out with e0 | ⟨g, o, hao, hg, hcell⟩
    · rw [e0] at hk; simp at hk
    · refine ⟨g, o, hao, ?_⟩
      have h1 : Below p w W := HB0.out.trans (hW.mono (Nat.le_of_lt hpb))
      rw [h1.cell (p := ⟨g, o + k, none⟩) (by rw [HP.out]; exact hg), hcell k hk, hs]
  have HDk : Hid (Dk (w0.alloc (.cells (newCells (1048576 : Nat)) 59)) b 1048576 (fun _ => []) (fun _ => 0) (fun _ => False)) := hdk
  have Hb : Hid (b = w0.heap.size) := hb
  clear hw0 hp x0 x1 x2 x3 hb0 hb hnew hdk HC
  refine Calls.mono HNew.out ?_
  rintro e w1 ⟨rfl, hw1⟩
  clear HNew
  have H1 : Hid (Dk w1 b 1048576 (fun _ => []) (fun _ => 0) (fun _ => False)) := by show Dk _ _ _ _ _ _; rw [hw1]; exact HDk.out
  have B1 : Hid (Below b w0 w1) := by show Below _ _ _; rw [hw1, Hb.out]; exact (Below.refl _ _).alloc (Nat.le_refl _) _
  clear hw1 HDk
  go_wp2
  obtain ⟨g1, hg1⟩ : ∃ g1, g1 = w1.heap.size := ⟨_, rfl⟩
  obtain ⟨w2, hw2⟩ : ∃ w2, w2 = (w1.alloc (.cells #[.string ⟨#[]⟩, .string ⟨#[]⟩, .string ⟨#[]⟩] 9)).alloc (.cells #[.int .i64 0, .int .i64 0, .int .i64 0] 3) := ⟨_, rfl⟩
  have hb2 : Below w1.heap.size w1 w2 := by rw [hw2]; exact ((Below.refl _ _).alloc (Nat.le_refl _) _).alloc (by simp) _
  have hbg : b < g1 := by rw [hg1]; exact H1.out.lt
  have hc1 : ∀ o, w2.cell? ⟨g1, o, none⟩ = (#[.string ⟨#[]⟩, .string ⟨#[]⟩, .string ⟨#[]⟩] : Array Value)[o]? := by
    intro o
    rw [hw2, hg1, ((Below.refl (w1.alloc (.cells #[.string ⟨#[]⟩, .string ⟨#[]⟩, .string ⟨#[]⟩] 9)).heap.size _).alloc (Nat.le_refl _) _).cell (p := ⟨w1.heap.size, o, none⟩) (by simp), World.cell?_alloc_mark]
  have hc2 : ∀ o, w2.cell? ⟨g1 + 1, o, none⟩ = (#[.int .i64 0, .int .i64 0, .int .i64 0] : Array Value)[o]? := by
    intro o
    rw [hw2, hg1, show w1.heap.size + 1 = (w1.alloc (.cells #[.string ⟨#[]⟩, .string ⟨#[]⟩, .string ⟨#[]⟩] 9)).heap.size by simp, World.cell?_alloc_mark]
  have hf1 : ∀ o, w2.frozen? ⟨g1, o, none⟩ = false := by
    intro o
    rw [hw2, hg1, ((Below.refl (w1.alloc (.cells #[.string ⟨#[]⟩, .string ⟨#[]⟩, .string ⟨#[]⟩] 9)).heap.size _).alloc (Nat.le_refl _) _).frozen (p := ⟨w1.heap.size, o, none⟩) (by simp), World.frozen?_alloc_mark]
    simp
  have hf2 : ∀ o, w2.frozen? ⟨g1 + 1, o, none⟩ = false := by
    intro o
    rw [hw2, hg1, show w1.heap.size + 1 = (w1.alloc (.cells #[.string ⟨#[]⟩, .string ⟨#[]⟩, .string ⟨#[]⟩] 9)).heap.size by simp, World.frozen?_alloc_mark]
    simp
  have HV2 : Hid (Sv w2 b g1 (g1 + 1) (fun _ => []) (fun _ => 0) (fun _ => ⟨#[]⟩) (fun _ => 0) 0) := by
    refine ⟨(H1.out.below hb2).wider (fun _ _ e => e.elim), ⟨by rw [hw2, hg1]; simp; omega, by rw [hw2, hg1]; simp, ?_, ?_, fun x _ => hf1 x, fun x _ => hf2 x⟩, fun _ _ => rfl, fun _ _ => rfl, Nat.le_of_eq (totTo_nil 256)⟩
    · intro x hx
      rw [hc1]
      match x, hx with
      | 0, _ => rfl
      | 1, _ => rfl
      | 2, _ => rfl
    · intro x hx
      rw [hc2]
      match x, hx with
      | 0, _ => rfl
      | 1, _ => rfl
      | 2, _ => rfl
  have B2 : Hid (Below b w0 w2) := B1.out.trans (hb2.mono (by omega))
  rw [← hw2, ← hg1]
  clear hw2 hg1 hb2 hc1 hc2 hf1 hf2 H1 B1
  have n1 : ¬ (g1 = b) := by omega
  have n2 : ¬ (g1 + 1 = b) := by omega
  go_loopw [11] (fun i wr => ∃ (k : Nat) (A : Nat → List UInt8) (S : Nat → Nat) (T : Nat → ByteArray) (U : Nat → Nat), k ≤ n ∧ k ≤ 40 ∧ i = .int .i64 (k : Int) ∧ Hid (Sv wr b g1 (g1 + 1) A S T U (1024 * k)) ∧ Hid (Below b w0 wr)) (fun i _ => 40 - (intOf i).toNat)
  case atStart => exact ⟨0, _, _, _, _, by omega, by omega, rfl, HV2, B2⟩
  case round =>
    clear HV2 B2
    obtain ⟨k, A, S, T, U, hk, hk4, rfl, HV, HW⟩ := hrel
    by_cases hlt : k < n
    · by_cases hlt2 : k < 40
      · have hka : k < a0.length := by rw [← HN.out]; exact hlt
        obtain ⟨s, hs⟩ : ∃ s, a0[k]? = some s := ⟨a0[k], by simp [hka]⟩
        have hs63 : s.size ≤ 9223372036854775807 := by have := HS.out s (List.mem_of_getElem? hs); unfold maxLen at this; omega
        obtain ⟨g, o, hao, hck⟩ := HTx.out wr HW.out k s hs
        subst hao
        have Hs : Hid (a0[k]? = some s) := hs
        clear hs hka
        by_cases hbig : 1024 < s.size
        · have t1 : decide ((1024 : Int) < (s.size : Int)) = true := by simp; omega
          clear hbig hs63
          go_wp2_with fail
          refine (HA.out _).mono ?_
          rintro e w3 ⟨rfl, hb3⟩
          have HB3 : Hid _ := hb3
          clear hb3
          go_wp2
          go_ret
          exact ⟨rfl, HE.out _ _ HW.out HB3.out (Nat.le_of_lt HV.out.disk.lt)⟩
        · obtain ⟨x, hx⟩ : ∃ x : Nat, x = k % 3 := ⟨_, rfl⟩
          have hx3 : x < 3 := by omega
          have hmod : (k : Int) % 3 = (x : Int) := by omega
          have HAdd : Hid _ := HV.out.add n1 n2 hx3 s (by omega)
          have t1 : decide ((1024 : Int) < (s.size : Int)) = false := by simp; omega
          have hs4 : Hid (s.size ≤ 1024) := by show s.size ≤ 1024; omega
          have Hx : Hid (x = k % 3) := hx
          clear hbig hs63 hx
          go_wp2_with fail
          refine Calls.mono HAdd.out ?_
          rintro e w3 ⟨rfl, h3, ht3, hb3⟩
          have H3 : Hid _ := h3
          have HT3 : Hid _ := ht3
          have B3 : Hid (Below b w0 w3) := HW.out.trans hb3
          obtain ⟨g', o', hao', hck3⟩ := HTx.out w3 B3.out k s Hs.out
          injection hao' with e1
          injection e1 with e1 e2
          subst e1 e2
          have c1 := ht3.t x hx3
          have f1 := ht3.f1 x hx3
          have hTx : (T x).size ≤ 1048576 := by
            have h5 := HV.out.a x hx3
            have h6 := le_tot A (by omega : 7 * x < 256)
            have h7 := HV.out.le
            rw [h5] at h6
            have h8 : (T x).data.toList.length = (T x).size := by simp
            omega
          have hs5 : s.size ≤ 1024 := hs4.out
          have d31 : bits BinOp.and IntKind.i64 (k : Int) 31 = ((k % 32 : Nat) : Int) := by rw [and_31]; omega
          have H4 : Hid (Sv (w3.setCell ⟨g1, x, none⟩ (.string (T x ++ s))).drew b g1 (g1 + 1) (upd A (7 * x) (A (7 * x) ++ s.data.toList)) S (upd T x (T x ++ s)) U (1024 * (k + 1))) := by
            have h5 := HV.out.joined n1 (by omega) hx3 s h3 ht3
            exact ⟨h5.disk, h5.two, h5.a, h5.s, by have := h5.le; omega⟩
          have B4 : Hid (Below b w0 (w3.setCell ⟨g1, x, none⟩ (.string (T x ++ s))).drew) := (B3.out.setCell (by show b ≤ g1; omega) _).drew
          clear h3 ht3 hb3 t1
          go_wp2
          go_region
          obtain ⟨w4, hw4⟩ : ∃ w4, w4 = (w3.setCell ⟨g1, x, none⟩ (.string (T x ++ s))).drew := ⟨_, rfl⟩
          rw [← hw4] at H4 B4 ⊢
          clear hw4 H3 HT3 B3 c1 f1 hck3 hTx hs5 hck
          go_wp2_with fail
          · refine Calls.mono (H4.out.sync n1 n2) ?_
            rintro e w5 ⟨rfl, h5, ht5, hb5⟩
            have H5 : Hid _ := h5
            have B5 : Hid (Below b w0 w5) := B4.out.trans hb5
            have T5 : Hid _ := ht5
            clear h5 ht5 hb5
            obtain ⟨A', hA'⟩ : ∃ A', A' = upd A (7 * x) (A (7 * x) ++ s.data.toList) := ⟨_, rfl⟩
            obtain ⟨T', hT'⟩ : ∃ T', T' = upd T x (T x ++ s) := ⟨_, rfl⟩
            rw [← hA'] at H4 H5
            rw [← hT'] at H4 T5
            clear hA' hT'
            go_wp2
            go_loopw [13] (fun j wr => ∃ (y : Nat) (U' : Nat → Nat), y ≤ 3 ∧ j = .int .i64 (y : Int) ∧ Hid (Two wr g1 (g1 + 1) T' U' ∧ ∀ z, z < y → U' z = (T' z).size) ∧ Hid (Dk wr b 1048576 A' (fun i => if i < 256 then (A' i).length else S i) (beside b g1 (g1 + 1))) ∧ Hid (Below b w0 wr)) (fun j _ => 3 - (intOf j).toNat)
            case atStart => exact ⟨0, U, by omega, rfl, ⟨T5.out, fun z hz => by omega⟩, H5, B5⟩
            case round =>
              clear T5 H5 B5
              rename_i wr5
              obtain ⟨y, U', hy, rfl, HT, HD, HB⟩ := hrel
              by_cases hy3 : y < 3
              · have c1 := HT.out.1.t y hy3
                have c2 := HT.out.1.u y hy3
                have f2' := HT.out.1.f2 y hy3
                go_wp2
                go_roundw
                case rel =>
                  refine ⟨y + 1, upd U' y (T' y).size, by omega, by go_num, ⟨HT.out.1.setU (by omega) hy3 _, fun z hz => ?_⟩, HD.out.setCell _ _ n2 (fun e => e.2.2 rfl), HB.out.setCell (by show b ≤ g1 + 1; omega) _⟩
                  by_cases e : z = y
                  · subst e; rw [upd_same]
                  · rw [upd_other _ _ e]; exact HT.out.2 z (by omega)
                case measure => simp [intOf]; omega
              · have e : y = 3 := by omega
                subst e
                go_wp2
                exact ⟨⟨k + 1, _, _, _, _, by omega, by omega, by go_num, H4.out.synced HD.out HT.out.1 HT.out.2, HB⟩, by simp [intOf]; omega⟩
          · exact ⟨⟨k + 1, _, _, _, _, by omega, by omega, by go_num, H4, B4⟩, by simp [intOf]; omega⟩
      · have e : k = 40 := by omega
        subst e
        obtain ⟨x0, x1, x2, x3⟩ := X.out wr HW.out
        have hpw : p < wr.heap.size := by have := HV.out.disk.lt; omega
        have x3' : ∀ o, (wr.alloc o).cell? ⟨p, 3, none⟩ = some (.int .i64 f2) := fun o => by rw [((Below.refl wr.heap.size wr).alloc (Nat.le_refl _) o).cell (p := ⟨p, 3, none⟩) hpw]; exact x3
        have HCr : Hid _ := HV.out.crash n1 n2 a2 c2 e2 f2 HB2.out _ rfl
        have HL : Hid (∀ y, y < 3 → Left (T y).data.toList (U y) ((crTo (lowByte f2) ⟨A, S, [a2, c2, e2]⟩ 256).A (7 * y)) ((crTo (lowByte f2) ⟨A, S, [a2, c2, e2]⟩ 256).S (7 * y))) := by
          intro y hy
          obtain ⟨V, hV⟩ := HV.out.disk
          have := crTo_left (lowByte f2) ⟨A, S, [a2, c2, e2]⟩ (7 * y) (hV.leSure _ (by omega)) 256 (by omega)
          rw [HV.out.s y hy, ← HV.out.a y hy]
          exact this
        obtain ⟨C, hC⟩ : ∃ C, C = crTo (lowByte f2) ⟨A, S, [a2, c2, e2]⟩ 256 := ⟨_, rfl⟩
        rw [← hC] at HCr HL
        have HTl : Hid (∀ y, y < 3 → (T y).size ≤ 1048576) := by
          intro y hy
          have h5 := HV.out.a y hy
          have h6 := le_tot A (by omega : 7 * y < 256)
          have h7 := HV.out.le
          rw [h5] at h6
          have h8 : (T y).data.toList.length = (T y).size := by simp
          omega
        clear hC
        go_wp2_with fail
        refine Calls.mono HCr.out ?_
        rintro e w5 ⟨rfl, h5, ht5, hb5⟩
        have H5 : Hid _ := h5
        have T5 : Hid _ := ht5
        have B5 : Hid (Below b w0 w5) := HW.out.trans hb5
        clear h5 ht5 hb5 HCr x0 x1 x2 x3 x3' hpw HW HV
        go_wp2
        go_loopw [14] (fun i wr => ∃ y : Nat, y ≤ 3 ∧ i = .int .i64 (y : Int) ∧ Hid (Dk wr b 1048576 C.A C.S (beside b g1 (g1 + 1))) ∧ Hid (Two wr g1 (g1 + 1) T U) ∧ Hid (Below b w0 wr)) (fun i _ => 3 - (intOf i).toNat)
        case atStart => exact ⟨0, by omega, rfl, H5, T5, B5⟩
        case round =>
          clear H5 T5 B5
          obtain ⟨y, hy, rfl, HD, HT, HB⟩ := hrel
          rename_i wr5
          by_cases hy3 : y < 3
          · have hLf := HL.out y hy3
            have c1 := HT.out.t y hy3
            have c2' := HT.out.u y hy3
            have hTs := HTl.out y hy3
            obtain ⟨str, hstr⟩ : ∃ str, str = T y := ⟨_, rfl⟩
            obtain ⟨u, hu⟩ : ∃ u, u = U y := ⟨_, rfl⟩
            obtain ⟨L, hLd⟩ : ∃ L, L = C.A (7 * y) := ⟨_, rfl⟩
            obtain ⟨r, hr⟩ : ∃ r : ByteArray, r = ⟨L.toArray⟩ := ⟨_, rfl⟩
            have hrL : r.data.toList = L := by rw [hr]
            have hrs : r.size = L.length := by rw [hr]; simp [ByteArray.size]
            rw [← hstr] at hLf c1 hTs
            rw [← hu] at hLf c2'
            have hz := Size_yes HD.out (7 * y) (by omega)
            have hby := Bytes_yes (Dk.drew HD.out) (7 * y) (by omega) 0 r.size (by rw [← hLd, hrs]; omega)
            rw [hLf.all, ← hLd, ← hrs, show ((7 * y : Nat) : Int) = 7 * (y : Int) by omega] at hz
            rw [← hLd, show (⟨((L.drop 0).take r.size).toArray⟩ : ByteArray) = r by rw [hrs, List.drop_zero, List.take_length, hr], show ((7 * y : Nat) : Int) = 7 * (y : Int) by omega] at hby
            have HZ : Hid _ := hz
            have HBy : Hid _ := hby
            rw [← hLd] at hLf
            have hur : u ≤ r.size := by rw [hrs]; exact hLf.least
            have hrt : r.size ≤ str.size := by have := hLf.most; rw [hrs]; simpa using this
            have HLf : Hid (Left str.data.toList u L (C.S (7 * y))) := hLf
            have HrL : Hid (r.data.toList = L ∧ r.size = L.length) := ⟨hrL, hrs⟩
            have hx1 : r.extract 0 u = str.extract 0 u := extract_eq u (by rw [hrL]; exact hLf.sure)
            by_cases hun : u < r.size
            · have hx2 : r.extract 0 (r.size - 1) = str.extract 0 (r.size - 1) := extract_eq _ (by rw [hrL, hrs]; exact hLf.rest (by omega))
              clear hz hby hLf hrL hrs hr hLd hu hstr
              go_wp2_with fail
              refine Calls.mono HZ.out ?_
              rintro e w6 ⟨rfl, rfl⟩
              go_wp2_with fail
              refine Calls.mono HBy.out ?_
              rintro e w6 ⟨rfl, rfl⟩
              go_wp2
              go_region
              go_wp2
              go_region
              go_wp2
              go_roundw
              case rel => exact ⟨y + 1, by omega, by go_num, HD.out.drew.drew.drew, HT.out.drew.drew.drew, HB.out.drew.drew.drew⟩
              case measure => simp [intOf]; omega
            · clear hz hby hLf hrL hrs hr hLd hu hstr
              go_wp2_with fail
              refine Calls.mono HZ.out ?_
              rintro e w6 ⟨rfl, rfl⟩
              go_wp2_with fail
              refine Calls.mono HBy.out ?_
              rintro e w6 ⟨rfl, rfl⟩
              go_wp2
              go_region
              go_wp2
              go_region
              go_wp2
              go_roundw
              case rel => exact ⟨y + 1, by omega, by go_num, HD.out.drew.drew.drew, HT.out.drew.drew.drew, HB.out.drew.drew.drew⟩
              case measure => simp [intOf]; omega
          · have e : y = 3 := by omega
            subst e
            go_wp2_with fail
            refine (HA.out _).mono ?_
            rintro e w7 ⟨rfl, hb7⟩
            have HB7 : Hid _ := hb7
            clear hb7
            go_wp2
            go_ret
            exact ⟨rfl, HE.out _ _ HB.out HB7.out (Nat.le_of_lt HD.out.lt)⟩
    · have e : k = n := by omega
      subst e
      obtain ⟨x0, x1, x2, x3⟩ := X.out wr HW.out
      have hpw : p < wr.heap.size := by have := HV.out.disk.lt; omega
      have x3' : ∀ o, (wr.alloc o).cell? ⟨p, 3, none⟩ = some (.int .i64 f2) := fun o => by rw [((Below.refl wr.heap.size wr).alloc (Nat.le_refl _) o).cell (p := ⟨p, 3, none⟩) hpw]; exact x3
      have HCr : Hid _ := HV.out.crash n1 n2 a2 c2 e2 f2 HB2.out _ rfl
      have HL : Hid (∀ y, y < 3 → Left (T y).data.toList (U y) ((crTo (lowByte f2) ⟨A, S, [a2, c2, e2]⟩ 256).A (7 * y)) ((crTo (lowByte f2) ⟨A, S, [a2, c2, e2]⟩ 256).S (7 * y))) := by
        intro y hy
        obtain ⟨V, hV⟩ := HV.out.disk
        have := crTo_left (lowByte f2) ⟨A, S, [a2, c2, e2]⟩ (7 * y) (hV.leSure _ (by omega)) 256 (by omega)
        rw [HV.out.s y hy, ← HV.out.a y hy]
        exact this
      obtain ⟨C, hC⟩ : ∃ C, C = crTo (lowByte f2) ⟨A, S, [a2, c2, e2]⟩ 256 := ⟨_, rfl⟩
      rw [← hC] at HCr HL
      have HTl : Hid (∀ y, y < 3 → (T y).size ≤ 1048576) := by
        intro y hy
        have h5 := HV.out.a y hy
        have h6 := le_tot A (by omega : 7 * y < 256)
        have h7 := HV.out.le
        rw [h5] at h6
        have h8 : (T y).data.toList.length = (T y).size := by simp
        omega
      clear hC
      go_wp2_with fail
      refine Calls.mono HCr.out ?_
      rintro e w5 ⟨rfl, h5, ht5, hb5⟩
      have H5 : Hid _ := h5
      have T5 : Hid _ := ht5
      have B5 : Hid (Below b w0 w5) := HW.out.trans hb5
      clear h5 ht5 hb5 HCr x0 x1 x2 x3 x3' hpw HW HV
      go_wp2
      go_loopw [14] (fun i wr => ∃ y : Nat, y ≤ 3 ∧ i = .int .i64 (y : Int) ∧ Hid (Dk wr b 1048576 C.A C.S (beside b g1 (g1 + 1))) ∧ Hid (Two wr g1 (g1 + 1) T U) ∧ Hid (Below b w0 wr)) (fun i _ => 3 - (intOf i).toNat)
      case atStart => exact ⟨0, by omega, rfl, H5, T5, B5⟩
      case round =>
        clear H5 T5 B5
        obtain ⟨y, hy, rfl, HD, HT, HB⟩ := hrel
        rename_i wr5
        by_cases hy3 : y < 3
        · have hLf := HL.out y hy3
          have c1 := HT.out.t y hy3
          have c2' := HT.out.u y hy3
          have hTs := HTl.out y hy3
          obtain ⟨str, hstr⟩ : ∃ str, str = T y := ⟨_, rfl⟩
          obtain ⟨u, hu⟩ : ∃ u, u = U y := ⟨_, rfl⟩
          obtain ⟨L, hLd⟩ : ∃ L, L = C.A (7 * y) := ⟨_, rfl⟩
          obtain ⟨r, hr⟩ : ∃ r : ByteArray, r = ⟨L.toArray⟩ := ⟨_, rfl⟩
          have hrL : r.data.toList = L := by rw [hr]
          have hrs : r.size = L.length := by rw [hr]; simp [ByteArray.size]
          rw [← hstr] at hLf c1 hTs
          rw [← hu] at hLf c2'
          have hz := Size_yes HD.out (7 * y) (by omega)
          have hby := Bytes_yes (Dk.drew HD.out) (7 * y) (by omega) 0 r.size (by rw [← hLd, hrs]; omega)
          rw [hLf.all, ← hLd, ← hrs, show ((7 * y : Nat) : Int) = 7 * (y : Int) by omega] at hz
          rw [← hLd, show (⟨((L.drop 0).take r.size).toArray⟩ : ByteArray) = r by rw [hrs, List.drop_zero, List.take_length, hr], show ((7 * y : Nat) : Int) = 7 * (y : Int) by omega] at hby
          have HZ : Hid _ := hz
          have HBy : Hid _ := hby
          rw [← hLd] at hLf
          have hur : u ≤ r.size := by rw [hrs]; exact hLf.least
          have hrt : r.size ≤ str.size := by have := hLf.most; rw [hrs]; simpa using this
          have HLf : Hid (Left str.data.toList u L (C.S (7 * y))) := hLf
          have HrL : Hid (r.data.toList = L ∧ r.size = L.length) := ⟨hrL, hrs⟩
          have hx1 : r.extract 0 u = str.extract 0 u := extract_eq u (by rw [hrL]; exact hLf.sure)
          by_cases hun : u < r.size
          · have hx2 : r.extract 0 (r.size - 1) = str.extract 0 (r.size - 1) := extract_eq _ (by rw [hrL, hrs]; exact hLf.rest (by omega))
            clear hz hby hLf hrL hrs hr hLd hu hstr
            go_wp2_with fail
            refine Calls.mono HZ.out ?_
            rintro e w6 ⟨rfl, rfl⟩
            go_wp2_with fail
            refine Calls.mono HBy.out ?_
            rintro e w6 ⟨rfl, rfl⟩
            go_wp2
            go_region
            go_wp2
            go_region
            go_wp2
            go_roundw
            case rel => exact ⟨y + 1, by omega, by go_num, HD.out.drew.drew.drew, HT.out.drew.drew.drew, HB.out.drew.drew.drew⟩
            case measure => simp [intOf]; omega
          · clear hz hby hLf hrL hrs hr hLd hu hstr
            go_wp2_with fail
            refine Calls.mono HZ.out ?_
            rintro e w6 ⟨rfl, rfl⟩
            go_wp2_with fail
            refine Calls.mono HBy.out ?_
            rintro e w6 ⟨rfl, rfl⟩
            go_wp2
            go_region
            go_wp2
            go_region
            go_wp2
            go_roundw
            case rel => exact ⟨y + 1, by omega, by go_num, HD.out.drew.drew.drew, HT.out.drew.drew.drew, HB.out.drew.drew.drew⟩
            case measure => simp [intOf]; omega
        · have e : y = 3 := by omega
          subst e
          go_wp2_with fail
          refine (HA.out _).mono ?_
          rintro e w7 ⟨rfl, hb7⟩
          have HB7 : Hid _ := hb7
          clear hb7
          go_wp2
          go_ret
          exact ⟨rfl, HE.out _ _ HB.out HB7.out (Nat.le_of_lt HD.out.lt)⟩

theorem laidOut : laidOutB Try.prog = true := by kernel_rfl

theorem own : ownKnob Try.prog.godebug = none := by kernel_rfl

set_option maxRecDepth 100000 in
theorem lifted (os : Os) (started : os.Started) (H : Type) (enc : TypeId × Value → H) :
    ReturnsInHanded {} Try.checked os 4 .any (Rows.diskSurvivesSpec.pre6 enc Try.prog Try.f4 Rows.diskSurvivesRow.domain false) (Rows.diskSurvivesSpec.post enc Try.prog Try.f4 false true false false) := by
  refine returnsInHanded_of_change_sized (C := Try.checked) own started (by kernel_rfl) Try.func4
    (ChangeSpec.witness6 (enc := enc) (C := Try.checked) false ⟨#[], #[.slice none 0 0, .int .i64 0, .agg #[.int .i64 0, .int .i64 0, .int .i64 0, .int .i64 0]], []⟩ 8 (by kernel_rfl) (by kernel_rfl) (by kernel_rfl) (by kernel_rfl)) ?_
  intro W base args ds gs before hval0 hW _ hsz0 _
  have hsz : (DataW.weightsEach Try.prog (Try.f4.params.toList ++ Rows.diskSurvivesSpec.plain.varTypes Try.prog) (ds ++ gs)).all (· ≤ reachBytes) = true := hsz0
  have hval : ∀ (j : Nat) t v, Try.f4.params[j]? = some t → args[j]? = some v → Value.okWide Try.prog W .any base t v := hval0
  have hW' := hW
  obtain ⟨p, q, hA0, hV, rfl, hfz, hnd⟩ := hW
  have hA : DataW.TrodAll enc Try.prog W 0 (fun _ => true) true Try.f4.params.toList args.toList ds p := hA0
  rw [Try.params4] at hA hval hsz
  obtain ⟨v0, vs0, d0, ds0, p0, q0, hargs, rfl, rfl, h0, r0⟩ := trodAll_cons hA
  obtain ⟨v1, vs1, d1, ds1, p1, q1, rfl, rfl, rfl, h1, r1⟩ := trodAll_cons r0
  obtain ⟨v2, vs2, d2, ds2, p2, q2, rfl, rfl, rfl, h2, r2⟩ := trodAll_cons r1
  obtain ⟨rfl, rfl, rfl⟩ := trodAll_nil r2
  obtain rfl : args = #[v0, v1, v2] := by cases args; simp_all
  obtain ⟨rfl, rfl⟩ := trodVars_none hV
  have k0 := h0
  have lt0 : ∀ x ∈ p0, x.block < W.heap.size := by obtain ⟨m, hm⟩ := k0; exact DataW.trod_lt m _ _ _ hm
  obtain ⟨a0, b0⟩ := open_strsV Try.underlying27 Try.underlying9 (by kernel_rfl) (hval 0 27 v0 rfl rfl) h0
  obtain ⟨a1, rfl, rfl, rfl, w1⟩ := open_int Try.underlying3 (hval 1 3 v1 rfl rfl) h1
  have b1 : -9223372036854775808 ≤ a1 ∧ a1 ≤ 9223372036854775807 := by simpa [Lit.wf, IntKind.min, IntKind.max, IntKind.signed, IntKind.bits] using w1
  have k2 := h2
  have lt2 : ∀ x ∈ p2, x.block < W.heap.size := by obtain ⟨m, hm⟩ := k2; exact DataW.trod_lt m _ _ _ hm
  obtain ⟨a2, c2, e2, f2, rfl, b2⟩ := open_arr4 Try.underlying40 Try.underlying3 (by kernel_rfl) (by kernel_rfl) (hval 2 40 v2 rfl rfl) h2
  clear hA0 hval0 hsz0
  refine (walk v0 a0 a1 a2 c2 e2 f2 W b0 b1 b2).mono fun e W' ⟨he, bel⟩ => ?_
  subst he
  exact ⟨_, rfl, _, _, _, [], _, [], hW', trodAll_mk1 (shut_bool Try.underlying4 _), (trodAll_cons_mk (Below.trod laidOut (by kernel_rfl) (of_decide_eq_true (by kernel_rfl)) k0 bel lt0) (trodAll_cons_mk (shut_int Try.underlying3 w1) (trodAll_cons_mk (Below.trod laidOut (by kernel_rfl) (of_decide_eq_true (by kernel_rfl)) k2 bel lt2) trodAll_mk0))), rfl, bel.frame _, fun h => by cases h⟩

theorem over : Rows.diskSurvivesRow.holds Try.pinned (OpenSpec.ofChange Rows.diskSurvivesSpec) :=
  OpenClaim.holds_of_wide 4 Try.f4 rfl rfl rfl rfl rfl rfl rfl ⟨rfl, rfl, rfl, rfl, rfl⟩ rfl rfl rfl rfl rfl (by kernel_rfl) Try.func4 (by kernel_rfl)
    (of_decide_eq_true (by kernel_rfl)) (by unfold Func.isWrapper; first | (rw [if_pos (by decide +kernel)]; kernel_rfl) | (rw [if_neg (by decide +kernel)]; exact ⟨rfl, rfl⟩))
    (fun os started H enc _ => lifted os started H enc)


end Go.Proofs.Ytjjkolbmhkkkhaa.diskSurvives
namespace Go.Proofs.Ytjjkolbmhkkkhaa
/-- The statement. -/
theorem diskSurvives_holds : Rows.DiskSurvivesSaid := diskSurvives.over
end Go.Proofs.Ytjjkolbmhkkkhaa
