/-
  What the document's Crash gives: what the power's end leaves, file by file.
-/
import Derived.Test.YtncchapgoedncaaRfSync
import Derived.Test.YtncchapgoedncaaDkCrash
import Derived.Test.YtncchapgoedncaaDkMask
namespace Go.Proofs.Ytncchapgoedncaa
open Go.RowKit

/-- Files' bytes as texts. -/
def tx (A : Nat → List UInt8) : Nat → ByteArray := fun i => ⟨(A i).toArray⟩
theorem tx_upd (A : Nat → List UInt8) (i : Nat) (s : ByteArray) : upd (tx A) i s = tx (upd A i s.data.toList) := by
  funext j
  by_cases e : j = i
  · subst e
    unfold tx
    rw [upd_same, upd_same]
  · unfold tx
    rw [upd_other _ _ e, upd_other _ _ e]
theorem tx_size (A : Nat → List UInt8) (i : Nat) : (tx A i).size = (A i).length := by
  show (A i).toArray.size = _
  simp
theorem tx_list (A : Nat → List UInt8) (i : Nat) : (tx A i).data.toList = A i := rfl

/-- Sure bytes are there; no file is beyond the disk's size. -/
def Fair (A : Nat → List UInt8) (S : Nat → Nat) : Prop := ∀ j, j < 256 → S j ≤ (A j).length ∧ (A j).length ≤ 16777216
theorem crStep_fair (t : UInt8) (i : Nat) (hi : i < 256) (c : Cr) (h : Fair c.A c.S) : Fair (crStep t i c).A (crStep t i c).S := by
  intro j hj
  unfold crStep
  split
  · exact h j hj
  · have h1 := h i hi
    have hk := keeps_le (c.K.headD 0) ((c.A i).length - c.S i)
    by_cases e : j = i
    · subst e
      simp only [upd_same]
      rw [torn_length t (by omega)]
      omega
    · simp only [upd_other _ _ e]
      exact h j hj
theorem crTo_fair (t : UInt8) (c : Cr) (h : Fair c.A c.S) : ∀ n, n ≤ 256 → Fair (crTo t c n).A (crTo t c n).S
  | 0, _ => h
  | n + 1, hn => crStep_fair t n (by omega) _ (crTo_fair t c h n (by omega))

/-- One file that has loose bytes: what is left of it, and of keep. -/
theorem crTo_loose (t : UInt8) (c c' : Cr) (i kk n : Nat) (K : List Int) (s : ByteArray) (hc : crTo t c i = c') (hK : c'.K = K.drop kk) (hl : (c'.A i).length ≠ c'.S i) (hn : n = keeps ((K.drop kk).headD 0) ((c'.A i).length - c'.S i))
    (hs : s.data.toList = torn (c'.A i) (c'.S i) n t) : (crTo t c (i + 1)).K = K.drop (kk + 1) ∧ tx (crTo t c (i + 1)).A = upd (tx c'.A) i s ∧ (crTo t c (i + 1)).S = upd c'.S i (c'.S i + n) := by
  rw [crTo, hc, crStep, if_neg hl, hK, ← hn, tx_upd, hs]
  refine ⟨by simp, rfl, rfl⟩
theorem crTo_same (t : UInt8) (c c' : Cr) (i : Nat) (hc : crTo t c i = c') (hl : (c'.A i).length = c'.S i) : crTo t c (i + 1) = c' := by rw [crTo, hc, crStep, if_pos hl]

theorem keeps_no (K : List Int) (kk x : Nat) (h : K.length ≤ kk) : keeps ((K.drop kk).headD 0) x = 0 := by
  rw [List.drop_of_length_le h]; simp [keeps]
theorem head_at (K : List Int) (kk : Nat) (h : kk < K.length) : (K.drop kk).headD 0 = K[kk] := by rw [List.drop_eq_getElem_cons h]; rfl
theorem keeps_neg {x : Int} (h : x ≤ 0) (y : Nat) : keeps x y = 0 := by unfold keeps; rw [show x.toNat = 0 by omega]; simp
theorem keeps_pos {x : Int} (h : 0 < x) (y : Nat) : Int.tmod x ((y : Int) + 1) = (keeps x y : Int) := by
  obtain ⟨m, rfl⟩ := Int.eq_ofNat_of_zero_le (Int.le_of_lt h)
  unfold keeps
  rw [Int.toNat_natCast, show ((y : Int) + 1) = ((y + 1 : Nat) : Int) by omega, ← Int.ofNat_tmod]

set_option maxHeartbeats 2000000 in
set_option maxRecDepth 20000 in
theorem ref_Crash {w : World} {v : Value} {room g1 g2 c1 c2 : Nat} {A : Nat → List UInt8} {S : Nat → Nat} (h : Rf w v room (tx A) S g1 g2 c1 c2) (hle : Fair A S) (g : Nat) (kv : Value) (K : List Int) (turn : Int) (hK : Ints w g kv K) (hgK : K ≠ [] → g < w.heap.size) :
    Calls Try.prog 22 #[v, kv, .int .i64 turn] w fun e w' => ∃ v' g1' g2' c1' c2', e = .returned v' ∧ Rf w' v' room (tx (crTo (lowByte turn) ⟨A, S, K⟩ 256).A) (crTo (lowByte turn) ⟨A, S, K⟩ 256).S g1' g2' c1' c2' ∧ (g1' = g1 ∨ w.heap.size ≤ g1') ∧ (g2' = g2 ∨ w.heap.size ≤ g2') ∧ Below w.heap.size w w' := by
  obtain ⟨a, w2, ha, hw2, hg⟩ := gs_begin h
  have hform := h.form
  subst hform
  obtain ⟨ao, kc, rfl, hk1, hk2, hk3, hkc⟩ := hK
  obtain ⟨t, ht⟩ : ∃ t, t = lowByte turn := ⟨_, rfl⟩
  obtain ⟨tc, htc⟩ : ∃ tc, tc = t.toNat := ⟨_, rfl⟩
  have hcl : tc < 256 := by rw [htc]; exact t.toNat_lt
  have hand : bits BinOp.and IntKind.i64 turn 255 = (tc : Int) := by rw [and_255, htc, ht, lowByte_toNat]
  rw [← ht]
  obtain ⟨c0, hc0⟩ : ∃ c0 : Cr, c0 = ⟨A, S, K⟩ := ⟨_, rfl⟩
  rw [← hc0]
  have HG : Hid (GS w w2 a room g1 g2 c1 c2 (tx (crTo t c0 0).A) (crTo t c0 0).S) := by unfold Hid; rw [hc0]; exact hg
  have HK0 : Hid ((crTo t c0 0).K = K.drop 0) := by unfold Hid; rw [hc0]; rfl
  have HF : Hid (∀ n, n ≤ 256 → Fair (crTo t c0 n).A (crTo t c0 n).S) := crTo_fair t c0 (by rw [hc0]; exact hle)
  have HKC : Hid (∀ kk (hh : kk < K.length) W, Below w.heap.size w W → ∃ o, ao = some ⟨g, o, none⟩ ∧ W.cell? ⟨g, o + kk, none⟩ = some (.int .i64 K[kk])) := by
    intro kk hh W hW
    rcases hkc with e | ⟨o, e, hc⟩
    · rw [e] at hh; simp at hh
    · refine ⟨o, e, ?_⟩
      rw [hW.cell (p := ⟨g, o + kk, none⟩) (hgK (by intro e; rw [e] at hh; simp at hh))]
      exact hc kk hh
  have HTC : Hid (tc = t.toNat) := htc
  have HK3 : Hid (∀ x ∈ K, x ≤ 9223372036854775807) := hk3
  have Ha : Hid (a = w.heap.size) := ha
  have hkl : K.length ≤ 9223372036854775807 := by omega
  clear h hg hle hkc hgK hc0 ht htc hk3
  go_enter Try.func22, Try.ntmps22
  go_wp2
  rw [← hw2, ← ha]
  clear hw2 ha
  go_loopw [7, 8] (fun kv iv wr => ∃ i kk p1 p2 k1 k2 : Nat, i ≤ 256 ∧ kk ≤ i ∧ kv = .int .i64 (kk : Int) ∧ iv = .int .i64 (i : Int) ∧ Hid (GS w wr a room p1 p2 k1 k2 (tx (crTo t c0 i).A) (crTo t c0 i).S) ∧ Hid ((crTo t c0 i).K = K.drop kk) ∧ Hid ((p1 = g1 ∨ w.heap.size ≤ p1) ∧ (p2 = g2 ∨ w.heap.size ≤ p2))) (fun _ i _ => 256 - (intOf i).toNat)
  case atStart => exact ⟨0, 0, g1, g2, c1, c2, by omega, by omega, rfl, rfl, HG, HK0, ⟨.inl rfl, .inl rfl⟩⟩
  case round =>
    obtain ⟨i, kk, p1, p2, k1, k2, hi, hkk, rfl, rfl, hgs, hKd, hpp⟩ := hrel
    clear HG HK0
    by_cases hlt : i < 256
    · obtain ⟨c', hc'⟩ : ∃ c', crTo t c0 i = c' := ⟨_, rfl⟩
      have hf := HF.out i hi i hlt
      rw [hc'] at hgs hKd hf
      have x0 := hgs.out.ga.x0
      have x1 := hgs.out.ga.x1
      have x2 := hgs.out.ga.x2
      have ct := hgs.out.ga.rf.t i hlt
      have cs := hgs.out.ga.rf.s i hlt
      have hsz := tx_size c'.A i
      obtain ⟨st, hst⟩ : ∃ st, st = tx c'.A i := ⟨_, rfl⟩
      obtain ⟨su, hsu⟩ : ∃ su, su = c'.S i := ⟨_, rfl⟩
      rw [← hst] at ct hsz
      rw [← hsu] at cs hf
      have hf1 : su ≤ st.size := by omega
      have hf2 : st.size ≤ 16777216 := by omega
      have HST : Hid (st = tx c'.A i) := hst
      have HSU : Hid (su = c'.S i) := hsu
      have HSZ : Hid (st.size = (c'.A i).length) := hsz
      have HC' : Hid (crTo t c0 i = c') := hc'
      clear hst hsu hsz hc' hf
      by_cases hs : st.size = su
      · have HN : Hid (crTo t c0 (i + 1) = c') := crTo_same t c0 c' i HC'.out (by rw [← HSZ.out, ← HSU.out]; exact hs)
        have t1 : ((st.size : Int) - (su : Int) == 0) = true := by rw [beq_iff_eq]; omega
        have HGN : Hid (GS w wr a room p1 p2 k1 k2 (tx (crTo t c0 (i + 1)).A) (crTo t c0 (i + 1)).S) := by unfold Hid; rw [HN.out]; exact hgs.out
        have HKN : Hid ((crTo t c0 (i + 1)).K = K.drop kk) := by unfold Hid; rw [HN.out]; exact hKd.out
        clear hs
        go_wp2
        go_roundw
        case rel => exact ⟨i + 1, kk, p1, p2, k1, k2, by omega, by omega, rfl, by go_num, HGN, HKN, hpp⟩
        case measure => simp [intOf]; omega
      · have t1 : ((st.size : Int) - (su : Int) == 0) = false := beq_eq_false_iff_ne.2 (by omega)
        obtain ⟨n, hn⟩ : ∃ n, n = keeps ((K.drop kk).headD 0) (st.size - su) := ⟨_, rfl⟩
        have hnle : n ≤ st.size - su := by rw [hn]; exact keeps_le _ _
        have HX : Hid (∀ s : ByteArray, s.data.toList = torn (c'.A i) su n t → (crTo t c0 (i + 1)).K = K.drop (kk + 1) ∧ tx (crTo t c0 (i + 1)).A = upd (tx c'.A) i s ∧ (crTo t c0 (i + 1)).S = upd c'.S i (su + n)) := by
          intro s hs'
          rw [HSU.out]
          exact crTo_loose t c0 c' i kk n K s HC'.out hKd.out (by rw [← HSZ.out, ← HSU.out]; exact hs) (by rw [hn, HSZ.out, HSU.out]) (by rw [← HSU.out]; exact hs')
        have hway : K.length ≤ kk ∧ n = 0 ∨ ∃ hh : kk < K.length, K[kk] ≤ 0 ∧ n = 0 ∨ 0 < K[kk] ∧ Int.tmod K[kk] ((st.size : Int) - (su : Int) + 1) = (n : Int) := by
          by_cases hh : kk < K.length
          · refine .inr ⟨hh, ?_⟩
            rw [head_at K kk hh] at hn
            by_cases hx : K[kk] ≤ 0
            · exact .inl ⟨hx, by rw [hn]; exact keeps_neg hx _⟩
            · refine .inr ⟨by omega, ?_⟩
              rw [hn, ← keeps_pos (by omega)]
              congr 1
              omega
          · exact .inl ⟨by omega, by rw [hn]; exact keeps_no K kk _ (by omega)⟩
        have HT : Hid (st.data.toList = c'.A i) := by unfold Hid; rw [HST.out]; rfl
        clear hn
        by_cases hn0 : n = 0
        · obtain ⟨y, hy⟩ : ∃ y, st.extract 0 su = y := ⟨_, rfl⟩
          obtain ⟨cap, w1, hcv, hl1, hb1⟩ := lies_bytes (P := Try.prog) wr y 9 40 5 Try.underlying9 Try.underlying40 Try.underlying5
          have hys : y.size = su := by rw [← hy, ByteArray.size_extract]; omega
          have hyl : y.data.toList = torn (c'.A i) su n t := by
            rw [← hy, ByteArray.data_extract, Array.toList_extract, List.extract_eq_take_drop, HT.out, hn0]
            simp [torn]
          rw [hys] at hcv
          have hcv2 := hl1.conv (P := Try.prog) su cap (by rw [← hys]; simp) 40 9 5 Try.underlying40 Try.underlying5 Try.underlying9
          rw [show (⟨y.data.toList.toArray⟩ : ByteArray) = y from rfl] at hcv2
          have hg1 := hgs.out.below hb1
          have d0 := hg1.ga.x0
          have d1 := hg1.ga.x1
          have d2 := hg1.ga.x2
          obtain ⟨e1, e2, e3⟩ := HX.out y hyl
          rw [hn0, show su + 0 = su from rfl] at e3
          have HW : Hid _ := hg1.with_ i hlt y su
          rw [← e2, ← e3] at HW
          have HKN : Hid _ := e1
          clear hg1 e1 e2 e3 hb1 hl1 hyl hys
          have hsl : su ≤ st.size := hf1
          rcases hway with ⟨hge, _⟩ | ⟨hh, hway⟩
          · clear x0 x1 x2
            have x1 := hgs.out.ga.x1
            have x2 := hgs.out.ga.x2
            go_wp2_with fail
            refine Calls.mono HW.out ?_
            rintro e w6 ⟨r1, r2, q1, q2, rfl, hg6, z0, z1, z2, ff, hr1, hr2⟩
            have f0 := ff 0 (by omega)
            have f1 := ff 1 (by omega)
            have f2 := ff 2 (by omega)
            have HG6 : Hid _ := hg6
            have HR : Hid ((r1 = g1 ∨ w.heap.size ≤ r1) ∧ (r2 = g2 ∨ w.heap.size ≤ r2)) := by
              have q' := hg6.at_
              exact ⟨.inr (by omega), .inr (by omega)⟩
            clear hg6 ff hr1 hr2
            go_wp2
            go_roundw
            case rel => exact ⟨i + 1, kk + 1, r1, r2, q1, q2, by omega, by omega, by go_num, by go_num, HG6, HKN, HR⟩
            case measure => simp [intOf]; omega
          · obtain ⟨o, hao, hck⟩ := HKC.out kk hh wr hgs.out.ga.bel
            subst hao
            obtain ⟨kx, hkx⟩ : ∃ kx, kx = K[kk] := ⟨_, rfl⟩
            have hkb : kx ≤ 9223372036854775807 := by rw [hkx]; exact HK3.out _ (List.getElem_mem hh)
            rw [← hkx] at hck hway
            clear hkx x0 x1 x2
            rcases hway with ⟨hneg, _⟩ | ⟨hpos, hrem⟩
            · have u1 : decide (0 < kx) = false := decide_eq_false (by omega)
              have x1 := hgs.out.ga.x1
              have x2 := hgs.out.ga.x2
              go_wp2_with fail
              refine Calls.mono HW.out ?_
              rintro e w6 ⟨r1, r2, q1, q2, rfl, hg6, z0, z1, z2, ff, hr1, hr2⟩
              have f0 := ff 0 (by omega)
              have f1 := ff 1 (by omega)
              have f2 := ff 2 (by omega)
              have HG6 : Hid _ := hg6
              have HR : Hid ((r1 = g1 ∨ w.heap.size ≤ r1) ∧ (r2 = g2 ∨ w.heap.size ≤ r2)) := by
                have q' := hg6.at_
                exact ⟨.inr (by omega), .inr (by omega)⟩
              clear hg6 ff hr1 hr2
              go_wp2
              go_roundw
              case rel => exact ⟨i + 1, kk + 1, r1, r2, q1, q2, by omega, by omega, by go_num, by go_num, HG6, HKN, HR⟩
              case measure => simp [intOf]; omega
            · rw [hn0] at hrem
              have u1 : decide (0 < kx) = true := decide_eq_true hpos
              have x1 := hgs.out.ga.x1
              have x2 := hgs.out.ga.x2
              go_wp2_with fail
              refine Calls.mono HW.out ?_
              rintro e w6 ⟨r1, r2, q1, q2, rfl, hg6, z0, z1, z2, ff, hr1, hr2⟩
              have f0 := ff 0 (by omega)
              have f1 := ff 1 (by omega)
              have f2 := ff 2 (by omega)
              have HG6 : Hid _ := hg6
              have HR : Hid ((r1 = g1 ∨ w.heap.size ≤ r1) ∧ (r2 = g2 ∨ w.heap.size ≤ r2)) := by
                have q' := hg6.at_
                exact ⟨.inr (by omega), .inr (by omega)⟩
              clear hg6 ff hr1 hr2
              go_wp2
              go_roundw
              case rel => exact ⟨i + 1, kk + 1, r1, r2, q1, q2, by omega, by omega, by go_num, by go_num, HG6, HKN, HR⟩
              case measure => simp [intOf]; omega
        · rcases hway with ⟨_, e⟩ | ⟨hh, ⟨_, e⟩ | ⟨hpos, hrem⟩⟩
          · exact absurd e hn0
          · exact absurd e hn0
          obtain ⟨j, hj⟩ : ∃ j, su + n = j + 1 := ⟨su + n - 1, by omega⟩
          obtain ⟨y, hy⟩ : ∃ y, st.extract 0 (j + 1) = y := ⟨_, rfl⟩
          obtain ⟨cap, w1, hcv, hl1, hb1⟩ := lies_bytes (P := Try.prog) wr y 9 40 5 Try.underlying9 Try.underlying40 Try.underlying5
          have hys : y.size = j + 1 := by rw [← hy, ByteArray.size_extract]; omega
          have hyd : y.data.toList = (c'.A i).take (j + 1) := by
            rw [← hy, ByteArray.data_extract, Array.toList_extract, List.extract_eq_take_drop, HT.out]
            simp
          have hyn : y.data.toList.length = j + 1 := by rw [← hys]; simp
          have hjl : j < (c'.A i).length := by rw [← HSZ.out]; omega
          obtain ⟨x, hx⟩ : ∃ x, x = (c'.A i)[j] := ⟨_, rfl⟩
          have hce := (hl1.2 j (by omega)).1
          have hfr := (hl1.2 j (by omega)).2
          rw [show y.data.toList[j]'(by omega) = x from by simp only [hyd, hx]; rw [List.getElem_take]] at hce
          have hxor : bits BinOp.xor IntKind.u8 (x.toNat : Int) (tc : Int) = ((x ^^^ t).toNat : Int) := by
            rw [HTC.out, xor8 _ _ x.toNat_lt t.toNat_lt, UInt8.toNat_xor]
          obtain ⟨b, hb⟩ : ∃ b, b = x ^^^ t := ⟨_, rfl⟩
          rw [← hb] at hxor
          obtain ⟨Z, hZ⟩ : ∃ Z : ByteArray, Z = ⟨(y.data.toList.set j b).toArray⟩ := ⟨_, rfl⟩
          have hZl : Z.data.toList = torn (c'.A i) su n t := by
            rw [hZ]
            unfold torn
            rw [if_neg hn0, hj, Nat.add_sub_cancel, hb, hx]
            show y.data.toList.set j _ = _
            rw [hyd]
            simp [hjl]
          rw [hys] at hcv
          have hl2 : Lies (w1.setCell ⟨wr.heap.size, j, none⟩ (.int .u8 (b.toNat : Int))) wr.heap.size (y.data.toList.set j b) := hl1.set j b
          have hcv2 := hl2.conv (P := Try.prog) (j + 1) cap (by rw [List.length_set, hyn]) 40 9 5 Try.underlying40 Try.underlying5 Try.underlying9
          rw [← hZ] at hcv2
          have hb2 : Below wr.heap.size wr (w1.setCell ⟨wr.heap.size, j, none⟩ (.int .u8 (b.toNat : Int))) := hb1.setCell (Nat.le_refl _) _
          have hg1 := hgs.out.below hb2
          have d0 := hg1.ga.x0
          have d1 := hg1.ga.x1
          have d2 := hg1.ga.x2
          obtain ⟨e1, e2, e3⟩ := HX.out Z hZl
          rw [hj] at e3
          have hw := hg1.with_ i hlt Z (j + 1)
          rw [← e2, ← e3, show (((j + 1 : Nat)) : Int) = (j : Int) + 1 by omega] at hw
          have HW : Hid _ := hw
          have HKN : Hid _ := e1
          have hsum : (su : Int) + (n : Int) = (j : Int) + 1 := by omega
          have hj1 : j + 1 ≤ st.size := by omega
          have hn1 : decide ((0 : Int) < (n : Int)) = true := decide_eq_true (by omega)
          obtain ⟨o, hao, hck⟩ := HKC.out kk hh wr hgs.out.ga.bel
          subst hao
          obtain ⟨kx, hkx⟩ : ∃ kx, kx = K[kk] := ⟨_, rfl⟩
          have hkb : kx ≤ 9223372036854775807 := by rw [hkx]; exact HK3.out _ (List.getElem_mem hh)
          rw [← hkx] at hck hpos hrem
          have u1 : decide (0 < kx) = true := decide_eq_true hpos
          clear hw hg1 e1 e2 e3 hb1 hl1 hl2 hb2 hys hyd hyn hjl hx hb hZ hZl hkx hj x0 x1 x2
          have x1 := hgs.out.ga.x1
          have x2 := hgs.out.ga.x2
          go_wp2_with fail
          refine Calls.mono HW.out ?_
          rintro e w6 ⟨r1, r2, q1, q2, rfl, hg6, z0, z1, z2, ff, hr1, hr2⟩
          have f0 := ff 0 (by omega)
          have f1 := ff 1 (by omega)
          have f2 := ff 2 (by omega)
          have HG6 : Hid _ := hg6
          have HR : Hid ((r1 = g1 ∨ w.heap.size ≤ r1) ∧ (r2 = g2 ∨ w.heap.size ≤ r2)) := by
            have q' := hg6.at_
            exact ⟨.inr (by omega), .inr (by omega)⟩
          clear hg6 ff hr1 hr2
          go_wp2
          go_roundw
          case rel => exact ⟨i + 1, kk + 1, r1, r2, q1, q2, by omega, by omega, by go_num, by go_num, HG6, HKN, HR⟩
          case measure => simp [intOf]; omega
    · obtain rfl : i = 256 := by omega
      have x0 := hgs.out.ga.x0
      have x1 := hgs.out.ga.x1
      have x2 := hgs.out.ga.x2
      have z0 := hgs.out.ga.z0
      have z1 := hgs.out.ga.z1
      have z2 := hgs.out.ga.z2
      have f0 := hgs.out.ga.f 0 (by omega)
      have f1 := hgs.out.ga.f 1 (by omega)
      have f2 := hgs.out.ga.f 2 (by omega)
      go_wp2
      refine bodyPost_ret (v := .agg #[.int .i64 (room : Int), .slice (some ⟨p1, 0, none⟩) 256 k1, .slice (some ⟨p2, 0, none⟩) 256 k2]) ?qres rfl ?qpost
      case qres => simp [results, Try.results22, go_sem, z0, z1, z2]
      case qpost =>
        have e := Ha.out
        have h1 := hgs.out.n1
        have h2 := hgs.out.n2
        exact ⟨_, p1, p2, k1, k2, rfl, hgs.out.ga.rf.set3 _ _ _ h1.2 h2.2, hpp.out.1, hpp.out.2, set3_below hgs.out.ga.bel (by omega) _ _ _⟩

end Go.Proofs.Ytncchapgoedncaa
