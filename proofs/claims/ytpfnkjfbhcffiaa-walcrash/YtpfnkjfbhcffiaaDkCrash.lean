/-
  What Crash leaves: of each file that has loose bytes a beginning of them, as many as keep says; all bytes are sure.
-/
import Derived.Test.YtpfnkjfbhcffiaaDkTear
namespace Go.Proofs.Ytpfnkjfbhcffiaa
open Go.RowKit

theorem Crash_no (w : World) (d kv : Value) (m : Int) (h : NotMade w d) : Calls Try.prog 20 #[d, kv, .int .i64 m] w fun e w' => e = .returned (.int .i64 1) ∧ w' = w := by
  have hm := made_no w d h
  clear h
  go_enter Try.func20, Try.ntmps20
  go_wp2_with fail
  refine hm.mono ?_
  rintro e w' ⟨rfl, rfl⟩
  go_wp2
  go_ret
  exact ⟨rfl, rfl⟩

/-- A number's lowest eight bits. -/
def lowByte (n : Int) : UInt8 := (n % 256).toNat.toUInt8
theorem lowByte_toNat (n : Int) : ((lowByte n).toNat : Int) = n % 256 := by
  unfold lowByte
  rw [byte_toNat (by omega)]
  omega

/-- The files, and what is left of keep. -/
structure Cr where
  A : Nat → List UInt8
  S : Nat → Nat
  K : List Int
/-- What the power's end leaves of file i. -/
def crStep (t : UInt8) (i : Nat) (c : Cr) : Cr :=
  if (c.A i).length = c.S i then c
  else ⟨upd c.A i (torn (c.A i) (c.S i) (keeps (c.K.headD 0) ((c.A i).length - c.S i)) t), upd c.S i (c.S i + keeps (c.K.headD 0) ((c.A i).length - c.S i)), c.K.tail⟩
/-- What it leaves of the first n files. -/
def crTo (t : UInt8) (c : Cr) : Nat → Cr
  | 0 => c
  | n + 1 => crStep t n (crTo t c n)

/-- The slice v holds the numbers K, in block g. -/
def Ints (w : World) (g : Nat) (v : Value) (K : List Int) : Prop :=
  ∃ ao c, v = .slice ao K.length c ∧ K.length ≤ c ∧ c ≤ 9223372036854775807 ∧ (∀ x ∈ K, x ≤ 9223372036854775807) ∧ (K = [] ∨ ∃ o, ao = some ⟨g, o, none⟩ ∧ ∀ j (h : j < K.length), w.cell? ⟨g, o + j, none⟩ = some (.int .i64 K[j]))

theorem Ints.carry {w w' : World} {g : Nat} {v : Value} {K : List Int} (h : Ints w g v K) (hg : K ≠ [] → w'.heap[g]? = w.heap[g]?) : Ints w' g v K := by
  obtain ⟨ao, c, h1, h2, h3, h4, h5 | ⟨o, h6, h7⟩⟩ := h
  · exact ⟨ao, c, h1, h2, h3, h4, .inl h5⟩
  · refine ⟨ao, c, h1, h2, h3, h4, ?_⟩
    by_cases e : K = []
    · exact .inl e
    · exact .inr ⟨o, h6, fun j hj => by rw [World.cell?_of_block (a := ⟨g, o + j, none⟩) (hg e)]; exact h7 j hj⟩

set_option maxHeartbeats 800000 in
set_option maxRecDepth 20000 in
theorem Crash_yes {w : World} {b room : Nat} {A : Nat → List UInt8} {S : Nat → Nat} {own : Nat → Prop} (h : Dk w b room A S own) (g : Nat) (kv : Value) (K : List Int) (turn : Int) (hK : Ints w g kv K) (hg : K ≠ [] → g < w.heap.size ∧ g ≠ b ∧ ¬ own g) :
    Calls Try.prog 20 #[.pointer (some ⟨b, 0, none⟩), kv, .int .i64 turn] w fun e w' => e = .returned (.int .i64 0) ∧
      Dk w' b room (crTo (lowByte turn) ⟨A, S, K⟩ 256).A (crTo (lowByte turn) ⟨A, S, K⟩ 256).S (since own w) ∧ Kept b own w w' := by
  have hm := made_yes h
  have HD : Hid (Dk w b room A S own) := h
  have Hb : Hid (∀ wr, Kept b own w wr → K ≠ [] → wr.heap[g]? = w.heap[g]?) := fun wr hk e => hk.block g (hg e).1 (hg e).2.1 (hg e).2.2
  have HI : Hid (Ints w g kv K) := hK
  obtain ⟨t, ht⟩ : ∃ t, t = lowByte turn := ⟨_, rfl⟩
  have hturn : turn % 256 = (t.toNat : Int) := by rw [ht, lowByte_toNat]
  rw [← ht]
  obtain ⟨ao0, c0, hkv, hkx⟩ := hK
  clear hkx
  obtain ⟨n0, hn0⟩ : ∃ n0, n0 = K.length := ⟨_, rfl⟩
  rw [← hn0] at hkv
  subst hkv
  have HN0 : Hid (n0 = K.length) := hn0
  clear h ht hg hn0
  go_enter Try.func20, Try.ntmps20
  go_wp2_with fail
  refine hm.mono ?_
  rintro e w0 ⟨rfl, rfl⟩
  clear hm
  go_wp2
  go_loopw [1, 13] (fun kv i wr => ∃ (k : Nat) (ao : Option Addr) (n c : Nat) (st : Cr), k ≤ 256 ∧ i = .int .i64 (k : Int) ∧ kv = .slice ao n c ∧ Hid (n = st.K.length) ∧ Hid (Ints w0 g (.slice ao n c) st.K) ∧ Hid (st = crTo t ⟨A, S, K⟩ k ∧ (st.K ≠ [] → K ≠ [])) ∧ Hid (Dk wr b room st.A st.S (since own w0)) ∧ Hid (Kept b own w0 wr)) (fun _ i _ => 256 - (intOf i).toNat)
  case atStart => exact ⟨0, ao0, n0, c0, ⟨A, S, K⟩, by omega, rfl, rfl, HN0, HI, ⟨rfl, fun e => e⟩, Dk.wider HD.out (fun _ _ e => .inl e), Kept.refl _ _ _⟩
  case round =>
    clear HD HI HN0
    obtain ⟨k, ao, n, c, st, hk, rfl, rfl, HN, HI, HS, HD, HP⟩ := hrel
    by_cases hlt : k < 256
    · obtain ⟨V, hV⟩ := HD.out
      have h0 := hV.bytes k hlt
      have h1 := hV.sure k hlt
      obtain ⟨av, cv, hv⟩ := (hV.row k hlt).form
      rw [hv] at h0
      have hlen := hV.len hlt
      have hlo := loose_any wr b (2 + k * 2) _ cv av (st.S k) h0 h1 (hV.leSure k hlt) (by omega)
      have hle := hV.leSure k hlt
      obtain ⟨x, hx⟩ : ∃ x, x = (st.A k).length - st.S k := ⟨_, rfl⟩
      rw [← hx] at hlo
      have HLo : Hid _ := hlo
      have HX : Hid (x = (st.A k).length - st.S k ∧ st.S k ≤ (st.A k).length) := ⟨hx, hle⟩
      clear hV h0 h1 hv hlen hlo hle hx
      by_cases ex : x = 0
      · have t0 : ((x : Int) == 0) = true := by simp [ex]
        have t1 : (x == 0) = true := by simp [ex]
        subst ex
        clear t0 t1
        go_wp2_with fail
        refine Calls.mono HLo.out ?_
        rintro e w1 ⟨rfl, rfl⟩
        go_wp2
        go_roundw
        case rel =>
          refine ⟨k + 1, ao, n, c, st, by omega, by go_num, rfl, HN, HI, ⟨?_, HS.out.2⟩, HD.out.drew, HP.out.drew⟩
          rw [crTo, ← HS.out.1, crStep, if_pos (by have := HX.out; omega)]
        case measure => simp [intOf]; omega
      · have t0 : ((x : Int) == 0) = false := by simp [ex]
        have HT : ∀ (W : World) (most : Int), Dk W b room st.A st.S (since own w0) → Kept b own w0 W → most = st.K.headD 0 → most ≤ 9223372036854775807 → Hid (Calls Try.prog 43 #[.pointer (some ⟨b, 0, none⟩), .pointer (some ⟨b, 2 + k * 2, none⟩), .int .i64 most, .int .u8 (t.toNat : Int)] W fun e w' => e = .returned (.tuple #[]) ∧ Dk w' b room (crStep t k st).A (crStep t k st).S (since own w0) ∧ Kept b own w0 w') := by
          intro W most hW hP hmo hmx
          refine (tear_yes hW k hlt most hmx t).mono ?_
          rintro e w' ⟨rfl, h1, h2⟩
          have hst : crStep t k st = ⟨upd st.A k (torn (st.A k) (st.S k) (keeps most ((st.A k).length - st.S k)) t), upd st.S k (st.S k + keeps most ((st.A k).length - st.S k)), st.K.tail⟩ := by
            rw [crStep, if_neg (by have := HX.out; omega), hmo]
          rw [hst]
          exact ⟨rfl, Dk.wider h1 (since_since hP.size), hP.trans h2 (since_old _)⟩
        have HX2 : Hid (¬ (st.A k).length = st.S k) := by show ¬ _; have := HX.out; omega
        clear HX
        by_cases en : n = 0
        · subst en
          have eK : st.K = [] := List.eq_nil_of_length_eq_zero HN.out.symm
          have HT0 := HT wr.drew 0 HD.out.drew HP.out.drew (by rw [eK]; rfl) (by omega)
          have HE : Hid (st.K = []) := eK
          clear HT eK
          go_wp2_with fail
          refine Calls.mono HLo.out ?_
          rintro e w1 ⟨rfl, rfl⟩
          go_wp2_with fail
          refine Calls.mono HT0.out ?_
          rintro e w1 ⟨rfl, h1, h2⟩
          have H1 : Hid _ := h1
          have H2 : Hid _ := h2
          clear h1 h2
          go_wp2
          go_roundw
          case rel =>
            have eT : (crStep t k st).K = [] := by rw [crStep, if_neg HX2.out]; show st.K.tail = []; rw [HE.out]; rfl
            refine ⟨k + 1, ao, 0, c, crStep t k st, by omega, by go_num, rfl, by rw [eT]; rfl, ?_, ⟨by rw [crTo, ← HS.out.1], fun e => absurd eT e⟩, H1.out, H2.out⟩
            rw [eT]
            obtain ⟨a1, c1, q1, q2, q3, _⟩ := HI.out
            injection q1 with q4 q5 q6
            subst q6
            exact ⟨ao, c, rfl, Nat.zero_le _, q3, by simp, .inl rfl⟩
          case measure => simp [intOf]; omega
        · obtain ⟨y, ys, eK⟩ : ∃ y ys, st.K = y :: ys := by
            cases hq : st.K with
            | nil => exfalso; apply en; rw [HN.out, hq]; rfl
            | cons y ys => exact ⟨y, ys, rfl⟩
          have eN : n = ys.length + 1 := by rw [HN.out, eK]; rfl
          obtain ⟨a1, c1, q1, q2, q3, q4, q5 | ⟨o, q6, q7⟩⟩ := HI.out
          · exfalso; rw [eK] at q5; cases q5
          injection q1 with r1 r2 r3
          subst r3
          rw [← r1] at q6
          subst q6
          have hcell0 : wr.cell? ⟨g, o, none⟩ = some (.int .i64 y) := by
            have e0 := q7 0 (by rw [eK]; simp)
            rw [World.cell?_of_block (a := ⟨g, o, none⟩) (Hb.out wr HP.out (HS.out.2 (by rw [eK]; simp)))]
            have e1 : st.K[0]'(by rw [eK]; simp) = y := by simp [eK]
            rw [e1] at e0
            simpa using e0
          have hy : y ≤ 9223372036854775807 := q4 y (by rw [eK]; simp)
          have HT0 := HT wr.drew.drew y HD.out.drew.drew HP.out.drew.drew (by rw [eK]; rfl) hy
          have hcn : n ≤ c := by rw [HN.out]; exact q2
          obtain ⟨n', hn'⟩ : ∃ n', n' = ys.length := ⟨_, rfl⟩
          rw [← hn'] at eN
          subst eN
          have HNn : Hid (n' = ys.length) := hn'
          have HE : Hid (st.K = y :: ys) := eK
          have HQ : Hid (∀ j (h : j < st.K.length), w0.cell? ⟨g, o + j, none⟩ = some (.int .i64 st.K[j])) := q7
          have HQ4 : Hid (∀ x ∈ st.K, x ≤ 9223372036854775807) := q4
          have eT : Hid ((crStep t k st).K = ys) := by show _ = _; rw [crStep, if_neg HX2.out]; show st.K.tail = ys; rw [eK]; rfl
          have hnx : Hid (Ints w0 g (.slice (if c = 1 then some ⟨g, o, none⟩ else some ⟨g, o + 1, none⟩) n' (c - 1)) ys) := by
            refine ⟨_, c - 1, by rw [hn'], by omega, by omega, fun x hx => q4 x (by rw [eK]; exact List.mem_cons_of_mem _ hx), ?_⟩
            by_cases e1 : c = 1
            · exact .inl (List.eq_nil_of_length_eq_zero (by omega))
            · refine .inr ⟨o + 1, by rw [if_neg e1], fun j hj => ?_⟩
              have e2 := q7 (j + 1) (by rw [eK]; simpa using hj)
              have e3 : st.K[j + 1]'(by rw [eK]; simpa using hj) = ys[j] := by simp [eK]
              rw [e3] at e2
              rw [← e2]
              congr 2
              omega
          clear HT eK q2 q4 q7 r1 r2 hy hn' en HI
          have e9 : n' + 1 - 1 = n' := by omega
          by_cases ec : c = 1
          · subst ec
            rw [if_pos rfl] at hnx
            go_wp2_with fail
            refine Calls.mono HLo.out ?_
            rintro e w1 ⟨rfl, rfl⟩
            go_wp2
            go_region
            go_wp2_with fail
            refine Calls.mono HT0.out ?_
            rintro e w1 ⟨rfl, h1, h2⟩
            have H1 : Hid _ := h1
            have H2 : Hid _ := h2
            clear h1 h2
            go_wp2
            go_roundw
            case rel => exact ⟨k + 1, some ⟨g, o, none⟩, n', 0, crStep t k st, by omega, by go_num, rfl, by rw [eT.out]; exact HNn, by rw [eT.out]; exact hnx, ⟨by rw [crTo, ← HS.out.1], fun _ => HS.out.2 (by rw [HE.out]; simp)⟩, H1.out, H2.out⟩
            case measure => simp [intOf]; omega
          · rw [if_neg ec] at hnx
            go_wp2_with fail
            refine Calls.mono HLo.out ?_
            rintro e w1 ⟨rfl, rfl⟩
            go_wp2
            go_region
            go_wp2_with fail
            refine Calls.mono HT0.out ?_
            rintro e w1 ⟨rfl, h1, h2⟩
            have H1 : Hid _ := h1
            have H2 : Hid _ := h2
            clear h1 h2
            go_wp2
            go_roundw
            case rel => exact ⟨k + 1, some ⟨g, o + 1, none⟩, n', c - 1, crStep t k st, by omega, by go_num, rfl, by rw [eT.out]; exact HNn, by rw [eT.out]; exact hnx, ⟨by rw [crTo, ← HS.out.1], fun _ => HS.out.2 (by rw [HE.out]; simp)⟩, H1.out, H2.out⟩
            case measure => simp [intOf]; omega
    · have e : k = 256 := by omega
      subst e
      go_wp2
      go_ret
      rw [← HS.out.1]
      exact ⟨rfl, HD.out, HP.out⟩

end Go.Proofs.Ytpfnkjfbhcffiaa
