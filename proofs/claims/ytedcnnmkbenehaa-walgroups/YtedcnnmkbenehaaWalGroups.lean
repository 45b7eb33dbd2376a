/-
  For every limit and every script: WalGroups answers true: groups do not know of one another; the arguments read afterwards as before. No condition.
-/
import Derived.Test.YtedcnnmkbenehaaWlFam
import Derived.Test.YtedcnnmkbenehaaWlSame
import Derived.Test.YtedcnnmkbenehaaDkMask
import Derived.ProofKit
import Derived.OpenShut
import Derived.ShutString
import Derived.SizedLaws
import Derived.Deep.RegionHeld
namespace Go.Proofs.Ytedcnnmkbenehaa.walGroups
open Go.ChangeShapes Go.WideShapes Go.ChangeAt Go.RowKit
open Go.ChangeMaps (open_string shut_string)

set_option maxHeartbeats 8000000 in
set_option maxRecDepth 20000 in
theorem walk (a0 : Int) (v1 : Value) (a1 : List Op5) (w : World) (_b0 : -9223372036854775808 ≤ a0 ∧ a0 ≤ 9223372036854775807) (b1 : Scr w v1 a1) :
    Calls Try.prog 8 #[.int .i64 a0, v1] w fun e w' => e = .returned (.bool true) ∧ Below w.heap.size w w' := by
  have HA : Hid (∀ u : World, Calls Try.prog 10 #[] u fun e w' => e = .returned (.bool true) ∧ Below u.heap.size u w') := awake_c
  have HF : Hid _ := fine_c b1
  have HBg : Hid (∀ (lim : Nat), 1 ≤ lim ∧ lim ≤ 16777216 → ∀ u, Calls Try.prog 13 #[.int .i64 (lim : Int)] u fun e w' => ∃ p s own, e = .returned (.tuple #[.pointer (some ⟨p.b, 0, none⟩), .pointer (some ⟨p.L, 0, none⟩), .bool true]) ∧ p.limit = lim ∧ Fresh u w' p s own) := begun_c
  have HS : Hid (Scr w v1 a1) := b1
  obtain ⟨ao, c, hv1, hc1, hc2, hc3⟩ := b1
  obtain ⟨n, hn⟩ : ∃ n, n = a1.length := ⟨_, rfl⟩
  have HN : Hid (n = a1.length) := hn
  rw [← hn] at hv1 hc1
  subst hv1
  have hb : n < 9223372036854775808 := by unfold maxLen at hc2; omega
  clear hn hc1 hc2 hc3
  obtain ⟨m, hm⟩ : ∃ m : Nat, a0 % 1024 = (m : Int) := ⟨(a0 % 1024).toNat, by omega⟩
  have hand : bits BinOp.and IntKind.i64 a0 1023 = (m : Int) := by rw [and_1023, hm]
  have hm4 : m ≤ 1023 := by omega
  have hcast : ((1 + m : Nat) : Int) = 1 + (m : Int) := by omega
  have HB1 : Hid _ := HBg.out (1 + m) (by omega) w
  have HB2 : Hid (∀ u, Calls Try.prog 13 #[.int .i64 65536] u fun e w' => ∃ p s own, e = .returned (.tuple #[.pointer (some ⟨p.b, 0, none⟩), .pointer (some ⟨p.L, 0, none⟩), .bool true]) ∧ p.limit = 65536 ∧ Fresh u w' p s own) := HBg.out 65536 (by omega)
  rw [hcast] at HB1
  clear _b0 hm HBg hcast
  go_enter Try.func8, Try.ntmps8
  go_wp2_with fail
  refine Calls.mono HF.out ?_
  rintro e w1 ⟨fb, rfl, hfb, hw⟩
  subst w1
  cases fb
  case false =>
    go_wp2_with fail
    refine (HA.out _).mono ?_
    rintro e w3 ⟨rfl, hb3⟩
    have HB3 : Hid _ := hb3
    clear hb3
    go_wp2
    go_ret
    exact ⟨rfl, HB3.out⟩
  have HSh : Hid (Short a1) := hfb rfl
  clear hfb HF
  go_wp2_with fail
  refine Calls.mono HB1.out ?_
  rintro e w2 ⟨p, s, own, rfl, _, hf⟩
  have HM : Hid (∃ P T, Mk w w2 1 0 (.slice none 0 0) P T ∧ Zs 1 P T ∧ (P 0).L = p.L) := by
    have h0 := (Fam.nil w (fun _ => p) (fun _ => s) (fun _ => own)).snoc hf
    have e1 : upd (fun _ => p) 0 p = fun _ => p := by funext i; by_cases q : i = 0; (subst q; rw [upd_same]); rw [upd_other _ _ q]
    have e2 : upd (fun _ => s) 0 s = fun _ => s := by funext i; by_cases q : i = 0; (subst q; rw [upd_same]); rw [upd_other _ _ q]
    rw [e1, e2] at h0
    exact ⟨_, _, ⟨⟨_, h0, fun q hq => by simp [rowBlk] at hq⟩, RowV.nil _ _ _ _⟩, fun i _ => ⟨hf.gs, tot_nil hf.A, hf.n, hf.room⟩, rfl⟩
  obtain ⟨L, hL⟩ : ∃ L, L = p.L := ⟨_, rfl⟩
  obtain ⟨b, hb⟩ : ∃ b, b = p.b := ⟨_, rfl⟩
  rw [← hL] at HM ⊢
  rw [← hb]
  clear hf HB1 hL hb
  go_wp2
  go_loopw [8, 9] (fun av x wr => ∃ (k : Nat) (q : Option Addr) (c' : Nat) (P : Nat → Pl) (T : Nat → St), x = .int .i64 (k : Int) ∧ k ≤ 9 ∧ av = .slice q k c' ∧ Hid (Mk w wr (k + 1) k (.slice q k c') P T ∧ Zs (k + 1) P T ∧ (P 0).L = L)) (fun _ x _ => 9 - (intOf x).toNat)
  case atStart =>
    obtain ⟨P, T, h⟩ := HM.out
    exact ⟨0, none, 0, P, T, rfl, by omega, rfl, h⟩
  case round =>
    clear HM
    obtain ⟨k, q, c', P, T, rfl, hk, rfl, HM⟩ := hrel
    by_cases hlt : k < 9
    · have hk1 : (k : Int) < 9 := by omega
      go_wp2_with fail
      refine Calls.mono (HB2.out _) ?_
      rintro e w3 ⟨p', s', own', rfl, _, hf⟩
      have HM2 : Hid (Mk w w3 (k + 1 + 1) k (.slice q k c') (upd P (k + 1) p') (upd T (k + 1) s')) := HM.out.1.fresh (by omega) hf
      have HZ2 : Hid (Zs (k + 1 + 1) (upd P (k + 1) p') (upd T (k + 1) s')) := HM.out.2.1.snoc hf
      have HL2 : Hid ((upd P (k + 1) p' 0).L = L) := by rw [upd_other _ _ (by omega)]; exact HM.out.2.2
      have HP : Hid ((upd P (k + 1) p' (k + 1)).L = p'.L) := by rw [upd_same]; rfl
      obtain ⟨P', hP'⟩ : ∃ P', P' = upd P (k + 1) p' := ⟨_, rfl⟩
      obtain ⟨T', hT'⟩ : ∃ T', T' = upd T (k + 1) s' := ⟨_, rfl⟩
      rw [← hP', ← hT'] at HM2 HZ2
      rw [← hP'] at HL2 HP
      obtain ⟨Lk, hLk⟩ : ∃ Lk, Lk = p'.L := ⟨_, rfl⟩
      obtain ⟨bk, hbk⟩ : ∃ bk, bk = p'.b := ⟨_, rfl⟩
      rw [← hLk] at HP ⊢
      rw [← hbk]
      clear hf hP' hT' hLk hbk HM
      have HMa : Hid (Mk w (w3.alloc (.cells #[.pointer (some ⟨Lk, 0, none⟩)] 29)) (k + 1 + 1) k (.slice q k c') P' T') := HM2.out.below (below_alloc _ _)
      have HSrc : Hid (Src Try.prog 1 67 (.slice (some ⟨w3.heap.size, 0, none⟩) 1 1) 1 [.pointer (some ⟨Lk, 0, none⟩)] (w3.alloc (.cells #[.pointer (some ⟨Lk, 0, none⟩)] 29))) := src_new w3 1 67 29 29 Try.underlying67 [.pointer (some ⟨Lk, 0, none⟩)] rfl (by simp [Value.oneCell'])
      have hmx : Hid (k + 1 ≤ maxLen) := by unfold maxLen; show _ ≤ _; omega
      clear HM2
      go_wp2_with (at_builtin; refine wpList_append_row rfl (.tmp 45) (.tmp 47) 67 67 29 rfl Try.underlying67 _ 1 8 infoPtr rfl (.slice q k c') k (ptrs P' k) rfl HMa.out.row _ 1 _ rfl HSrc.out (by omega) hmx.out ?qnext)
      case qnext =>
        intro v' w4 ho hg hl
        have HM4 : Hid (Mk w w4 (k + 1 + 1) (k + 1) v' P' T') := by
          rw [← HP.out] at ho
          refine HMa.out.push ho hg (fun q1 h1 => ?_)
          rcases hl q1 h1 with z | z
          · exact .inl z
          · exact .inr (by simpa using z)
        obtain ⟨q', c4, hv', _⟩ := ho.form
        subst hv'
        clear ho hg hl HMa HSrc hmx
        go_wp2
        go_roundw
        case rel => exact ⟨k + 1, q', c4, P', T', by go_num, by omega, rfl, HM4.out, HZ2.out, HL2.out⟩
        case measure => simp [intOf]; omega
    · obtain rfl : k = 9 := by omega
      have HAl : Hid (Mk w wr 10 9 (.slice q 9 c') P T ∧ Alike 0 P T ∧ (P 0).L = L) := by
        obtain ⟨h1, h2, h3⟩ := HM.out
        refine ⟨h1, ⟨fun j hj => (h2 j hj).2.2.2, fun j hj => by rw [(h2 j hj).2.1]; omega, fun j hj => by rw [(h2 j hj).2.2.1]; omega, fun j hj => ?_, fun g hg => by rw [(h2 (g + 1) (by omega)).1, (h2 0 (by omega)).1]⟩, h3⟩
        obtain ⟨O, f, _⟩ := h1.ex
        exact (f.lg j hj).tt
      have HL : Hid ((P 0).L = L) := HAl.out.2.2
      have HMA : Hid (Mk w wr 10 9 (.slice q 9 c') P T ∧ Alike 0 P T) := ⟨HAl.out.1, HAl.out.2.1⟩
      obtain ⟨ga, c2, e2, hrb, hzz⟩ := HAl.out.1.row.cells (by omega)
      injection e2 with e2 e3 e4
      subst e2
      have HRB : Hid (rowBlk (.slice (some ⟨ga, 0, none⟩) 9 c') = some ga) := hrb
      clear HM HB2 HAl hrb hzz e3 e4 c2
      go_wp2
      go_loopw [13] (fun x wr => ∃ (i : Nat) (T : Nat → St), x = .int .i64 (i : Int) ∧ i ≤ n ∧ i ≤ 60 ∧ Hid (Mk w wr 10 9 (.slice (some ⟨ga, 0, none⟩) 9 c') P T ∧ Alike i P T)) (fun x _ => n - (intOf x).toNat)
      case atStart => exact ⟨0, T, rfl, by omega, by omega, HMA⟩
      case round =>
        clear HMA
        obtain ⟨i, T, rfl, hin, hi6, HM⟩ := hrel
        by_cases hlt : i < n ∧ i < 60
        · obtain ⟨hi1, hi2⟩ := hlt
          obtain ⟨x, hx⟩ : ∃ x, a1[i]? = some x := ⟨_, List.getElem?_eq_getElem (by have := HN.out; omega)⟩
          have hw1 : Below w.heap.size w wr := by obtain ⟨O, f, _⟩ := HM.out.1.ex; exact f.old
          obtain ⟨g, o, rfl, q0, q1, q2, q3, q4, q5, q6, q7⟩ : ∃ g o, ao = some ⟨g, o, none⟩ ∧ OpAt5 wr g (o + i * 8) x := by
            obtain ⟨ao', c'', e1, _, _, _, e2⟩ := HS.out.below hw1
            injection e1 with e1
            subst e1
            rcases e2 with e | ⟨g, o, e1, _, e2⟩
            · rw [e] at hx; simp at hx
            · exact ⟨g, o, e1, e2 i x hx⟩
          have HD : Hid (x.r.data.size ≤ 200) := HSh.out.2 x (List.mem_of_getElem? hx)
          clear hx hw1 q0 q7
          obtain ⟨kd, ⟨rg, rk, ri, rt, rv, d⟩, nx⟩ := x
          dsimp only at q1 q2 q3 q4 q5 q6 HD
          have hi0 : (0 : Int) ≤ (i : Int) := by omega
          have hin' : (i : Int) < (n : Int) := by omega
          have hi6' : (i : Int) < 60 := by omega
          by_cases hg0 : rg < 0
          · go_wp2
            go_roundw
            case rel => exact ⟨i + 1, T, by go_num, by omega, by omega, HM.out.1.below (below_alloc _ _), HM.out.2.more⟩
            case measure => simp [intOf]; omega
          by_cases hg8 : 8 < rg
          · go_wp2
            go_roundw
            case rel => exact ⟨i + 1, T, by go_num, by omega, by omega, HM.out.1.below (below_alloc _ _), HM.out.2.more⟩
            case measure => simp [intOf]; omega
          obtain ⟨gg, rfl⟩ : ∃ gg : Nat, rg = (gg : Int) := ⟨rg.toNat, by omega⟩
          have hg9 : gg < 9 := by omega
          have hgi : (gg : Int) < 9 := by omega
          have hgi0 : (0 : Int) ≤ (gg : Int) := by omega
          go_wp2_with fail
          obtain ⟨u, hu⟩ : ∃ u, u = wr.alloc (.cells #[.int .i64 (gg : Int), .int .i64 rk, .int .i64 ri, .int .i64 rt, .int .i64 rv, .string d] 37) := ⟨_, rfl⟩
          obtain ⟨bx, hbx⟩ : ∃ bx, bx = wr.heap.size := ⟨_, rfl⟩
          rw [← hu, ← hbx]
          obtain ⟨La, hLa⟩ : ∃ La, La = (P (gg + 1)).L := ⟨_, rfl⟩
          obtain ⟨cd, hcd⟩ : ∃ cd, cd = W.chk (T 0).gs ⟨(gg : Int), rk, ri, rt, rv, d⟩ := ⟨_, rfl⟩
          obtain ⟨R0, R1, R2, hR0, hK, hA0, hA1, hA2⟩ : ∃ R0 R1 R2 : World → Prop, R0 u.drew ∧
              (∀ X, R0 X ∨ R1 X ∨ R2 X → X.cell? ⟨ga, gg, none⟩ = some (.pointer (some ⟨La, 0, none⟩)) ∧ X.cell? ⟨bx, 0, none⟩ = some (.int .i64 (gg : Int)) ∧ X.cell? ⟨bx, 1, none⟩ = some (.int .i64 rk) ∧ X.cell? ⟨bx, 2, none⟩ = some (.int .i64 ri) ∧ X.cell? ⟨bx, 3, none⟩ = some (.int .i64 rt) ∧ X.cell? ⟨bx, 4, none⟩ = some (.int .i64 rv) ∧ X.cell? ⟨bx, 5, none⟩ = some (.string d)) ∧
              (∀ X, R0 X → Calls Try.prog 17 #[.pointer (some ⟨L, 0, none⟩), .agg #[.int .i64 (gg : Int), .int .i64 rk, .int .i64 ri, .int .i64 rt, .int .i64 rv, .string d]] X fun e w' => e = .returned (.int .i64 cd) ∧ R1 w') ∧
              (∀ X, R1 X → Calls Try.prog 17 #[.pointer (some ⟨La, 0, none⟩), .agg #[.int .i64 (gg : Int), .int .i64 rk, .int .i64 ri, .int .i64 rt, .int .i64 rv, .string d]] X fun e w' => e = .returned (.int .i64 cd) ∧ R2 w') ∧
              (∀ X, R2 X → ∃ T', Mk w X 10 9 (.slice (some ⟨ga, 0, none⟩) 9 c') P T' ∧ Alike (i + 1) P T') := by
            have hal := HM.out.2
            have hmz : Mk w u.drew 10 9 (.slice (some ⟨ga, 0, none⟩) 9 c') P T := HM.out.1.below (by rw [hu]; exact (below_alloc _ _).drew)
            obtain ⟨O, f, hO⟩ := HM.out.1.ex
            have fz : Fam w u.drew 10 P T O := f.below (by rw [hu]; exact (below_alloc _ _).drew)
            have hUa : ¬ ∃ j, j < 10 ∧ O j ga := fun ⟨j, hj, e⟩ => (hO ga HRB.out).2 j hj e
            have hUx : ¬ ∃ j, j < 10 ∧ O j bx := fun ⟨j, hj, e⟩ => by have := (f.lg j hj).here bx e; omega
            have hax : ga < u.drew.heap.size := hmz.row.lt HRB.out
            have hbxu : bx < u.drew.heap.size := by rw [hu, hbx]; simp
            have crow := hmz.row.cellAt gg (by omega)
            rw [ptrs_at P hg9] at crow
            have crec : ∀ j, u.drew.cell? ⟨bx, j, none⟩ = (#[.int .i64 (gg : Int), .int .i64 rk, .int .i64 ri, .int .i64 rt, .int .i64 rv, .string d] : Array Value)[j]? := by
              intro j
              rw [hu, hbx]
              exact World.cell?_alloc_mark wr _ _ _ j
            have hS : ∀ T' X, Reach w u.drew X 10 P T' (fun k => ∃ j, j < 10 ∧ O j k) → X.cell? ⟨ga, gg, none⟩ = some (.pointer (some ⟨La, 0, none⟩)) ∧ X.cell? ⟨bx, 0, none⟩ = some (.int .i64 (gg : Int)) ∧ X.cell? ⟨bx, 1, none⟩ = some (.int .i64 rk) ∧ X.cell? ⟨bx, 2, none⟩ = some (.int .i64 ri) ∧ X.cell? ⟨bx, 3, none⟩ = some (.int .i64 rt) ∧ X.cell? ⟨bx, 4, none⟩ = some (.int .i64 rv) ∧ X.cell? ⟨bx, 5, none⟩ = some (.string d) := by
              intro T' X hX
              have e := fun j => (hX.cell hbxu hUx j).trans (crec j)
              exact ⟨by rw [hLa]; exact (hX.cell hax hUa gg).trans crow, e 0, e 1, e 2, e 3, e 4, e 5⟩
            have t0 := hal.tots 0 (by omega)
            have t1 := hal.tots (gg + 1) (by omega)
            have m0 := hal.ns 0 (by omega)
            have m1 := hal.ns (gg + 1) (by omega)
            have r0 := hal.room 0 (by omega)
            have r1 := hal.room (gg + 1) (by omega)
            have hcd1 : W.chk (T (gg + 1)).gs ⟨(gg : Int), rk, ri, rt, rv, d⟩ = cd := by
              rw [hcd]
              refine chk_local ?_
              show (T (gg + 1)).gs ((gg : Int).toNat) = (T 0).gs ((gg : Int).toNat)
              rw [Int.toNat_natCast]
              exact hal.same gg hg9
            refine ⟨fun X => Reach w u.drew X 10 P T (fun k => ∃ j, j < 10 ∧ O j k), fun X => Reach w u.drew X 10 P (upd T 0 (app1 (P 0).limit (T 0) ⟨(gg : Int), rk, ri, rt, rv, d⟩)) (fun k => ∃ j, j < 10 ∧ O j k), fun X => Reach w u.drew X 10 P (upd (upd T 0 (app1 (P 0).limit (T 0) ⟨(gg : Int), rk, ri, rt, rv, d⟩)) (gg + 1) (app1 (P (gg + 1)).limit (T (gg + 1)) ⟨(gg : Int), rk, ri, rt, rv, d⟩)) (fun k => ∃ j, j < 10 ∧ O j k), Reach.start fz, ?_, ?_, ?_, ?_⟩
            · rintro X (h | h | h) <;> exact hS _ X h
            · intro X hX
              have := hX.app (i := 0) (by omega) ⟨(gg : Int), rk, ri, rt, rv, d⟩ HD.out (by omega) (by omega)
              rw [HL.out, ← hcd] at this
              exact this
            · intro X hX
              have e0 : upd T 0 (app1 (P 0).limit (T 0) ⟨(gg : Int), rk, ri, rt, rv, d⟩) (gg + 1) = T (gg + 1) := upd_other _ _ (by omega)
              have := hX.app (i := gg + 1) (by omega) ⟨(gg : Int), rk, ri, rt, rv, d⟩ HD.out (by rw [e0]; omega) (by rw [e0]; omega)
              rw [e0, ← hLa, hcd1] at this
              exact this
            · intro X hX
              refine ⟨_, hX.held hmz (fun z hz => ?_), hal.step hi2 hg9 (by exact Int.toNat_natCast gg) HD.out⟩
              rw [HRB.out] at hz
              injection hz with hz
              subst hz
              exact hUa
          have HK : Hid _ := hK
          have KA0 : Hid _ := hA0
          have KA1 : Hid _ := hA1
          have HA2 : Hid _ := hA2
          clear hK hA0 hA1 hA2 hu hbx hLa hcd q1 q2 q3 q4 q5 q6 HM
          go_region_held (fun X => X.cell? ⟨ga, gg, none⟩ = some (.pointer (some ⟨La, 0, none⟩)) ∧ X.cell? ⟨bx, 0, none⟩ = some (.int .i64 (gg : Int)) ∧ X.cell? ⟨bx, 1, none⟩ = some (.int .i64 rk) ∧ X.cell? ⟨bx, 2, none⟩ = some (.int .i64 ri) ∧ X.cell? ⟨bx, 3, none⟩ = some (.int .i64 rt) ∧ X.cell? ⟨bx, 4, none⟩ = some (.int .i64 rv) ∧ X.cell? ⟨bx, 5, none⟩ = some (.string d))
            (first | exact HK.out _ (.inl (by assumption)) | exact HK.out _ (.inr (.inl (by assumption))) | exact HK.out _ (.inr (.inr (by assumption))))
            (first
              | (go_at_call_of 17 L; refine (KA0.out _ ?_).mono ?_; assumption; rintro e w6 ⟨rfl, hg6⟩)
              | (go_at_call_of 17 La; refine (KA1.out _ ?_).mono ?_; assumption; rintro e w7 ⟨rfl, hg7⟩))
          all_goals
            have HG7 : Hid _ := HA2.out _ hg7
            clear hg7
            go_wp2
            refine And.intro ?_ ?_
            · obtain ⟨T', hT'⟩ := HG7.out
              (repeat apply Exists.intro)
              refine And.intro ?_ rfl
              exact ⟨i + 1, T', by go_num, by omega, by omega, hT'⟩
            · simp [intOf]; omega
        · have HMT : Hid (Mk w wr 10 9 (.slice (some ⟨ga, 0, none⟩) 9 c') P T) := HM.out.1
          have HSm : Hid (∀ g, g < 9 → (T (g + 1)).gs g = (T 0).gs g) := HM.out.2.same
          clear HM HN HS HSh
          have hcond : (n : Int) ≤ (i : Int) ∨ ((i : Int) < (n : Int) ∧ 60 ≤ (i : Int)) := by omega
          clear hlt
          rcases hcond with h1 | ⟨h1, h2⟩
          all_goals
            go_wp2
            go_loopw [15] (fun x wr => ∃ (g : Nat), x = .int .i64 (g : Int) ∧ g ≤ 9 ∧ Hid (Mk w wr 10 9 (.slice (some ⟨ga, 0, none⟩) 9 c') P T)) (fun x _ => 9 - (intOf x).toNat)
            case atStart => exact ⟨0, rfl, by omega, HMT⟩
            case round =>
              clear HMT
              obtain ⟨g, rfl, hg, HM⟩ := hrel
              by_cases hlt : g < 9
              · have hg0 : (0 : Int) ≤ (g : Int) := by omega
                have hg1 : (g : Int) < 9 := by omega
                obtain ⟨La, hLa⟩ : ∃ La, La = (P (g + 1)).L := ⟨_, rfl⟩
                obtain ⟨sv, hsv⟩ : ∃ sv, sv = (T 0).gs g := ⟨_, rfl⟩
                have hsv1 : sv = (T (g + 1)).gs g := by rw [hsv]; exact (HSm.out g hlt).symm
                have HC : Hid (∀ X, Mk w X 10 9 (.slice (some ⟨ga, 0, none⟩) 9 c') P T → X.cell? ⟨ga, g, none⟩ = some (.pointer (some ⟨La, 0, none⟩)) ∧ ga < X.heap.size) := by
                  intro X hX
                  have q := hX.row.cellAt g (by omega)
                  rw [ptrs_at P hlt] at q
                  exact ⟨by rw [hLa]; exact q, hX.row.lt HRB.out⟩
                obtain ⟨t, vt, bs, bt, dd, en⟩ := sv
                obtain ⟨ne, hne⟩ : ∃ ne, ne = en.length := ⟨_, rfl⟩
                have hSv : ∀ j, j < 10 → W.Sv.mk t vt bs bt dd en = (T j).gs g → ∀ X, Mk w X 10 9 (.slice (some ⟨ga, 0, none⟩) 9 c') P T → Calls Try.prog 25 #[.pointer (some ⟨(P j).L, 0, none⟩), .int .i64 (g : Int)] X fun e w' => ∃ pa ca, e = .returned (.tuple #[.agg #[.int .i64 t, .int .i64 vt, .int .i64 bs, .int .i64 bt, .string dd, .slice pa ne ca], .int .i64 0]) ∧ EntR w' (.slice pa ne ca) en ∧ Below X.heap.size X w' := by
                  intro j hj hs X hX
                  obtain ⟨O, f, _⟩ := hX.ex
                  refine (Saved_c (f.lg j hj) g hlt).mono ?_
                  rintro e w' ⟨v', rfl, h4, h5, _⟩
                  rw [← hs] at h4 ⊢
                  obtain ⟨pa, ca, hv, _⟩ := RowV.form h4
                  rw [← hne] at hv
                  subst hv
                  exact ⟨pa, ca, rfl, h4.read, h5⟩
                have HS0 : Hid _ := hSv 0 (by omega) hsv wr HM.out
                have HS1 : Hid _ := hSv (g + 1) (by omega) hsv1
                rw [HL.out] at HS0
                rw [← hLa] at HS1
                have KM : Hid (∀ X p1 c1 p2 c2, EntR X (.slice p1 ne c1) en → EntR X (.slice p2 ne c2) en → Calls Try.prog 26 #[.agg #[.int .i64 t, .int .i64 vt, .int .i64 bs, .int .i64 bt, .string dd, .slice p1 ne c1], .agg #[.int .i64 t, .int .i64 vt, .int .i64 bs, .int .i64 bt, .string dd, .slice p2 ne c2]] X fun e w' => e = .returned (.bool true) ∧ Below X.heap.size X w') := by
                  intro X p1 c1 p2 c2 h1 h2
                  have := Same_c (w := X) (a := ⟨t, vt, bs, bt, dd, en⟩) (b := ⟨t, vt, bs, bt, dd, en⟩) h1 h2
                  rw [svSame_iff.2 rfl] at this
                  exact this
                clear hsv hsv1 hSv hLa hne
                go_wp2_with fail
                refine Calls.mono HS0.out ?_
                rintro e w3 ⟨pa, ca, rfl, he3, hb3⟩
                have HM3 : Hid _ := HM.out.below hb3
                have HE3 : Hid (EntR w3 (.slice pa ne ca) en) := he3
                have c3 := (HC.out _ HM3.out).1
                have g3 := (HC.out _ HM3.out).2
                clear he3 hb3
                go_wp2_with fail
                obtain ⟨u, hu⟩ : ∃ u, u = w3.alloc (.cells #[.int .i64 t, .int .i64 vt, .int .i64 bs, .int .i64 bt, .string dd, .slice pa ne ca] 45) := ⟨_, rfl⟩
                obtain ⟨bx, hbx⟩ : ∃ bx, bx = w3.heap.size := ⟨_, rfl⟩
                have hB : Below w3.heap.size w3 u := by rw [hu]; exact below_alloc _ _
                have HMu : Hid (Mk w u 10 9 (.slice (some ⟨ga, 0, none⟩) 9 c') P T) := HM3.out.below hB
                have HEu : Hid (EntR u (.slice pa ne ca) en) := EntR.below HE3.out hB
                have hbu : bx < u.heap.size := by rw [hu, hbx]; simp
                have ub : ∀ j, u.cell? ⟨bx, j, none⟩ = (#[.int .i64 t, .int .i64 vt, .int .i64 bs, .int .i64 bt, .string dd, .slice pa ne ca] : Array Value)[j]? := by intro j; rw [hu, hbx]; exact World.cell?_alloc_mark w3 _ _ _ j
                rw [← hu, ← hbx]
                clear hu hbx hB c3 g3 HM3 HE3
                refine Calls.mono (HS1.out u HMu.out) ?_
                rintro e w5 ⟨pb, cb, rfl, he5, hb5⟩
                have HM5 : Hid _ := HMu.out.below hb5
                have HEa : Hid (EntR w5 (.slice pa ne ca) en) := EntR.below HEu.out hb5
                have HEb : Hid (EntR w5 (.slice pb ne cb) en) := he5
                have hbx5 : bx < w5.heap.size := Nat.lt_of_lt_of_le hbu hb5.size
                have y0 : w5.cell? ⟨bx, 0, none⟩ = some (.int .i64 t) := (hb5.cell (p := ⟨bx, 0, none⟩) hbu).trans (ub 0)
                have y1 : w5.cell? ⟨bx, 1, none⟩ = some (.int .i64 vt) := (hb5.cell (p := ⟨bx, 1, none⟩) hbu).trans (ub 1)
                have y2 : w5.cell? ⟨bx, 2, none⟩ = some (.int .i64 bs) := (hb5.cell (p := ⟨bx, 2, none⟩) hbu).trans (ub 2)
                have y3 : w5.cell? ⟨bx, 3, none⟩ = some (.int .i64 bt) := (hb5.cell (p := ⟨bx, 3, none⟩) hbu).trans (ub 3)
                have y4 : w5.cell? ⟨bx, 4, none⟩ = some (.string dd) := (hb5.cell (p := ⟨bx, 4, none⟩) hbu).trans (ub 4)
                have y5 : w5.cell? ⟨bx, 5, none⟩ = some (.slice pa ne ca) := (hb5.cell (p := ⟨bx, 5, none⟩) hbu).trans (ub 5)
                clear he5 hb5 ub hbu HMu HEu
                go_wp2_with fail
                refine Calls.mono (KM.out _ _ _ _ _ (EntR.below HEa.out (below_alloc _ _)) (EntR.below HEb.out (below_alloc _ _))) ?_
                rintro e w6 ⟨rfl, hb6⟩
                have HM6 : Hid _ := (HM5.out.below (below_alloc _ _)).below hb6
                clear hb6
                go_wp2
                first
                  | exact And.intro ⟨g + 1, by go_num, by omega, HM6⟩ (by simp [intOf]; omega)
                  | (refine And.intro ?_ (by simp [intOf]; omega)
                     (repeat apply Exists.intro)
                     refine And.intro ?_ rfl
                     exact ⟨g + 1, by go_num, by omega, HM6⟩)
              · obtain rfl : g = 9 := by omega
                go_wp2_with fail
                refine (HA.out _).mono ?_
                rintro e w3 ⟨rfl, hb3⟩
                have HB3 : Hid _ := hb3
                clear hb3
                go_wp2
                go_ret
                obtain ⟨O, f, _⟩ := HM.out.ex
                exact ⟨rfl, f.old.trans (HB3.out.mono f.old.size)⟩

theorem laidOut : laidOutB Try.prog = true := by kernel_rfl

theorem own : ownKnob Try.prog.godebug = none := by kernel_rfl

set_option maxRecDepth 100000 in
theorem lifted (os : Os) (started : os.Started) (H : Type) (enc : TypeId × Value → H) :
    ReturnsInHanded {} Try.checked os 8 .any (Rows.walGroupsSpec.pre6 enc Try.prog Try.f8 Rows.walGroupsRow.domain false) (Rows.walGroupsSpec.post enc Try.prog Try.f8 false true false false) := by
  refine returnsInHanded_of_change_sized (C := Try.checked) own started (by kernel_rfl) Try.func8
    (ChangeSpec.witness6 (enc := enc) (C := Try.checked) false ⟨#[], #[.int .i64 0, .slice none 0 0], []⟩ 8 (by kernel_rfl) (by kernel_rfl) (by kernel_rfl) (by kernel_rfl)) ?_
  intro W base args ds gs before hval0 hW _ hsz0 _
  have hsz : (DataW.weightsEach Try.prog (Try.f8.params.toList ++ Rows.walGroupsSpec.plain.varTypes Try.prog) (ds ++ gs)).all (· ≤ reachBytes) = true := hsz0
  have hval : ∀ (j : Nat) t v, Try.f8.params[j]? = some t → args[j]? = some v → Value.okWide Try.prog W .any base t v := hval0
  have hW' := hW
  obtain ⟨p, q, hA0, hV, rfl, hfz, hnd⟩ := hW
  have hA : DataW.TrodAll enc Try.prog W 0 (fun _ => true) true Try.f8.params.toList args.toList ds p := hA0
  rw [Try.params8] at hA hval hsz
  obtain ⟨v0, vs0, d0, ds0, p0, q0, hargs, rfl, rfl, h0, r0⟩ := trodAll_cons hA
  obtain ⟨v1, vs1, d1, ds1, p1, q1, rfl, rfl, rfl, h1, r1⟩ := trodAll_cons r0
  obtain ⟨rfl, rfl, rfl⟩ := trodAll_nil r1
  obtain rfl : args = #[v0, v1] := by cases args; simp_all
  obtain ⟨rfl, rfl⟩ := trodVars_none hV
  obtain ⟨a0, rfl, rfl, rfl, w0⟩ := open_int Try.underlying3 (hval 0 3 v0 rfl rfl) h0
  have b0 : -9223372036854775808 ≤ a0 ∧ a0 ≤ 9223372036854775807 := by simpa [Lit.wf, IntKind.min, IntKind.max, IntKind.signed, IntKind.bits] using w0
  have k1 := h1
  have lt1 : ∀ x ∈ p1, x.block < W.heap.size := by obtain ⟨m, hm⟩ := k1; exact DataW.trod_lt m _ _ _ hm
  obtain ⟨a1, b1⟩ := open_ops5 (hval 1 22 v1 rfl rfl) h1
  clear hA0 hval0 hsz0
  refine (walk a0 v1 a1 W b0 b1).mono fun e W' ⟨he, bel⟩ => ?_
  subst he
  exact ⟨_, rfl, _, _, _, [], _, [], hW', trodAll_mk1 (shut_bool Try.underlying4 _), (trodAll_cons_mk (shut_int Try.underlying3 w0) (trodAll_cons_mk (Below.trod laidOut (by kernel_rfl) (of_decide_eq_true (by kernel_rfl)) k1 bel lt1) trodAll_mk0)), rfl, bel.frame _, fun h => by cases h⟩

theorem over : Rows.walGroupsRow.holds Try.pinned (OpenSpec.ofChange Rows.walGroupsSpec) :=
  OpenClaim.holds_of_wide 8 Try.f8 rfl rfl rfl rfl rfl rfl rfl ⟨rfl, rfl, rfl, rfl, rfl⟩ rfl rfl rfl rfl rfl (by kernel_rfl) Try.func8 (by kernel_rfl)
    (of_decide_eq_true (by kernel_rfl)) (by unfold Func.isWrapper; first | (rw [if_pos (by decide +kernel)]; kernel_rfl) | (rw [if_neg (by decide +kernel)]; exact ⟨rfl, rfl⟩))
    (fun os started H enc _ => lifted os started H enc)


end Go.Proofs.Ytedcnnmkbenehaa.walGroups
namespace Go.Proofs.Ytedcnnmkbenehaa
/-- The statement. -/
theorem walGroups_holds : Rows.WalGroupsSaid := walGroups.over
end Go.Proofs.Ytedcnnmkbenehaa
