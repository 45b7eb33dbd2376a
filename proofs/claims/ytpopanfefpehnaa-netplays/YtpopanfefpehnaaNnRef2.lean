/-
  The document's net: Put.
-/
import Derived.Test.YtpopanfefpehnaaNnRef
namespace Go.Proofs.Ytpopanfefpehnaa
open Go.RowKit

/-- What a call of the document's net leaves of its list. -/
def ROut (w : World) (v : Value) (w' : World) (v' : Value) (ls' : List Q.Lt) : Prop := Ls w' v' ls' ∧ Below w.heap.size w w' ∧ ∀ k, cBlk v' = some k → cBlk v = some k ∨ w.heap.size ≤ k

theorem ROut.same {w w' : World} {v : Value} {ls : List Q.Lt} (h : Ls w v ls) (hb : Below w.heap.size w w') : ROut w v w' v ls := ⟨h.below hb, hb, fun _ hk => .inl hk⟩

/-- Three boxes. -/
structure B3 (u : World) (bn bl br : Nat) (most : Int) (v : Value) (l : Q.Lt) (r0 r1 : Value) (X : World) : Prop where
  n0 : X.cell? ⟨bn, 0, none⟩ = some (.int .i64 most)
  n1 : X.cell? ⟨bn, 1, none⟩ = some v
  l0 : X.cell? ⟨bl, 0, none⟩ = some (.int .i64 l.fr)
  l1 : X.cell? ⟨bl, 1, none⟩ = some (.int .i64 l.tt)
  l2 : X.cell? ⟨bl, 2, none⟩ = some (.string l.tx)
  r0 : X.cell? ⟨br, 0, none⟩ = some r0
  r1 : X.cell? ⟨br, 1, none⟩ = some r1
  fn : X.frozen? ⟨bn, 1, none⟩ = false
  f0 : X.frozen? ⟨br, 0, none⟩ = false
  f1 : X.frozen? ⟨br, 1, none⟩ = false

theorem B3.below {u X Y : World} {bn bl br : Nat} {most : Int} {v : Value} {l : Q.Lt} {r0 r1 : Value} (h : B3 u bn bl br most v l r0 r1 X) (hb : Below X.heap.size X Y) : B3 u bn bl br most v l r0 r1 Y := by
  have hn := World.block_lt_of_cell? _ _ h.n0
  have hl := World.block_lt_of_cell? _ _ h.l0
  have hr := World.block_lt_of_cell? _ _ h.r0
  exact ⟨(hb.cell (p := ⟨bn, 0, none⟩) hn).trans h.n0, (hb.cell (p := ⟨bn, 1, none⟩) hn).trans h.n1, (hb.cell (p := ⟨bl, 0, none⟩) hl).trans h.l0, (hb.cell (p := ⟨bl, 1, none⟩) hl).trans h.l1, (hb.cell (p := ⟨bl, 2, none⟩) hl).trans h.l2, (hb.cell (p := ⟨br, 0, none⟩) hr).trans h.r0, (hb.cell (p := ⟨br, 1, none⟩) hr).trans h.r1,
    (hb.frozen (p := ⟨bn, 1, none⟩) hn).trans h.fn, (hb.frozen (p := ⟨br, 0, none⟩) hr).trans h.f0, (hb.frozen (p := ⟨br, 1, none⟩) hr).trans h.f1⟩

section
variable {w : World} {v : Value} {ls : List Q.Lt}

set_option maxHeartbeats 1600000 in
theorem rPut_c (h : Ls w v ls) (hn : ls.length ≤ 1099511627775) (most : Int) (l : Q.Lt) (hsz : l.tx.size ≤ 9223372036854775807) :
    Calls Try.prog 31 #[.agg #[.int .i64 most, v], .agg #[.int .i64 l.fr, .int .i64 l.tt, .string l.tx]] w fun e w' => ∃ v', e = .returned (.tuple #[.agg #[.int .i64 most, v'], .int .i64 (Q.putE ⟨most, ls⟩ l)]) ∧ ROut w v w' v' (Q.put ⟨most, ls⟩ l).ls := by
  obtain ⟨u, hu⟩ : ∃ u, u = ((w.alloc (.cells #[.int .i64 most, v] 29)).alloc (.cells #[.int .i64 l.fr, .int .i64 l.tt, .string l.tx] 82)).alloc (.cells #[.int .i64 0, .slice none 0 0] 29) := ⟨_, rfl⟩
  obtain ⟨bn, hbn⟩ : ∃ bn, bn = w.heap.size := ⟨_, rfl⟩
  obtain ⟨bl, hbl⟩ : ∃ bl, bl = w.heap.size + 1 := ⟨_, rfl⟩
  obtain ⟨br, hbr⟩ : ∃ br, br = w.heap.size + 1 + 1 := ⟨_, rfl⟩
  have hbu : Below w.heap.size w u := by rw [hu]; exact ((below_alloc _ _).trans ((below_alloc _ _).mono (by simp))).trans ((below_alloc _ _).mono (by simp; omega))
  have hB3 : B3 u bn bl br most v l (.int .i64 0) (.slice none 0 0) u := by
    have en : ∀ j, u.cell? ⟨bn, j, none⟩ = (#[.int .i64 most, v] : Array Value)[j]? := fun j => by
      rw [hu, hbn, World.cell?_alloc_lt _ _ _ (by simp; omega), World.cell?_alloc_lt _ _ _ (by simp)]
      exact World.cell?_alloc_mark w _ _ _ j
    have el : ∀ j, u.cell? ⟨bl, j, none⟩ = (#[.int .i64 l.fr, .int .i64 l.tt, .string l.tx] : Array Value)[j]? := fun j => by
      have e := World.cell?_alloc_mark (w.alloc (.cells #[.int .i64 most, v] 29)) #[.int .i64 l.fr, .int .i64 l.tt, .string l.tx] 82 (0, 0) j
      rw [hu, hbl, World.cell?_alloc_lt _ _ _ (by simp), ← e]
      simp
    have er : ∀ j, u.cell? ⟨br, j, none⟩ = (#[.int .i64 0, .slice none 0 0] : Array Value)[j]? := fun j => by
      have e := World.cell?_alloc_mark ((w.alloc (.cells #[.int .i64 most, v] 29)).alloc (.cells #[.int .i64 l.fr, .int .i64 l.tt, .string l.tx] 82)) #[.int .i64 0, .slice none 0 0] 29 (0, 0) j
      rw [hu, hbr, ← e]
      simp
    have fr : ∀ j, u.frozen? ⟨br, j, none⟩ = false := fun j => by
      have e := World.frozen?_alloc_mark ((w.alloc (.cells #[.int .i64 most, v] 29)).alloc (.cells #[.int .i64 l.fr, .int .i64 l.tt, .string l.tx] 82)) #[.int .i64 0, .slice none 0 0] 29 0 0 j
      have e2 : ((w.alloc (.cells #[.int .i64 most, v] 29)).alloc (.cells #[.int .i64 l.fr, .int .i64 l.tt, .string l.tx] 82)).heap.size = w.heap.size + 1 + 1 := by simp
      rw [e2] at e
      rw [hu, hbr, e]
      simp
    have fn : u.frozen? ⟨bn, 1, none⟩ = false := by
      have b1 : Below (w.alloc (.cells #[.int .i64 most, v] 29)).heap.size (w.alloc (.cells #[.int .i64 most, v] 29)) u := by rw [hu]; exact (below_alloc _ _).trans ((below_alloc _ _).mono (by simp))
      rw [b1.frozen (p := ⟨bn, 1, none⟩) (by rw [hbn]; simp), hbn, World.frozen?_alloc_mark]
      simp
    exact ⟨en 0, en 1, el 0, el 1, el 2, er 0, er 1, fn, fr 0, fr 1⟩
  have HB3 : Hid (B3 u bn bl br most v l (.int .i64 0) (.slice none 0 0) u) := hB3
  have HBu : Hid (Below w.heap.size w u) := hbu
  have HLs : Hid (Ls w v ls) := h
  have HNe : Hid (bn = w.heap.size ∧ br = w.heap.size + 1 + 1) := ⟨hbn, hbr⟩
  -- what is left where nothing was put
  have HSame : Hid (∀ X, B3 u bn bl br most v l (.int .i64 0) (.slice none 0 0) X → Below w.heap.size w X → ROut w v ((X.setCell ⟨br, 0, none⟩ (.int .i64 most)).setCell ⟨br, 1, none⟩ v) v ls) := fun X _ hX =>
    ROut.same HLs.out ((hX.setCell (p := ⟨br, 0, none⟩) (by show _ ≤ br; rw [HNe.out.2]; omega) _).setCell (p := ⟨br, 1, none⟩) (by show _ ≤ br; rw [HNe.out.2]; omega) _)
  obtain ⟨p, c, hv, hc1, hc2⟩ := RowC.form h
  obtain ⟨m, hm⟩ : ∃ m, m = ls.length := ⟨_, rfl⟩
  rw [← hm] at hv hc1
  have HV : Hid (v = .slice p m c) := hv
  have HM : Hid (m = ls.length) := hm
  have HBa : Hid (∀ o o' o'', Below w.heap.size w (((w.alloc o).alloc o').alloc o'')) := fun o o' o'' => ((below_alloc _ _).trans ((below_alloc _ _).mono (by simp))).trans ((below_alloc _ _).mono (by simp; omega))
  by_cases t1 : l.fr < 0
  · rw [hv]
    have HE : Hid (Q.putE ⟨most, ls⟩ l = 1 ∧ (Q.put ⟨most, ls⟩ l).ls = ls) := by
      have : Q.putE ⟨most, ls⟩ l = 1 := by unfold Q.putE; rw [if_pos (by omega)]
      exact ⟨this, by unfold Q.put; rw [this]; rfl⟩
    have HQ : Hid (∀ X, Below w.heap.size w X → ∃ v', Ending.returned (.tuple #[.agg #[.int .i64 most, .slice p m c], .int .i64 1]) = .returned (.tuple #[.agg #[.int .i64 most, v'], .int .i64 (Q.putE ⟨most, ls⟩ l)]) ∧ ROut w (.slice p m c) X v' (Q.put ⟨most, ls⟩ l).ls) := fun X hX => ⟨.slice p m c, by rw [HE.out.1], by rw [HE.out.2, ← HV.out]; exact ROut.same HLs.out hX⟩
    obtain ⟨fr, tt, tx⟩ := l
    dsimp only at *
    clear hu hbn hbl hbr hbu HB3 HBu HNe HSame hB3 HE h hv hm
    go_enter Try.func31, Try.ntmps31
    go_wp2
    refine bodyPost_ret (v := .tuple #[.agg #[.int .i64 most, .slice p m c], .int .i64 1]) ?qres rfl ?qpost
    case qres => simp [results, Try.results31, go_sem]
    case qpost => exact HQ.out _ (HBa.out _ _ _)
  · by_cases t2 : l.fr > 255
    · rw [hv]
      have HE : Hid (Q.putE ⟨most, ls⟩ l = 1 ∧ (Q.put ⟨most, ls⟩ l).ls = ls) := by
        have : Q.putE ⟨most, ls⟩ l = 1 := by unfold Q.putE; rw [if_pos (by omega)]
        exact ⟨this, by unfold Q.put; rw [this]; rfl⟩
      have HQ : Hid (∀ X, Below w.heap.size w X → ∃ v', Ending.returned (.tuple #[.agg #[.int .i64 most, .slice p m c], .int .i64 1]) = .returned (.tuple #[.agg #[.int .i64 most, v'], .int .i64 (Q.putE ⟨most, ls⟩ l)]) ∧ ROut w (.slice p m c) X v' (Q.put ⟨most, ls⟩ l).ls) := fun X hX => ⟨.slice p m c, by rw [HE.out.1], by rw [HE.out.2, ← HV.out]; exact ROut.same HLs.out hX⟩
      obtain ⟨fr, tt, tx⟩ := l
      dsimp only at *
      clear hu hbn hbl hbr hbu HB3 HBu HNe HSame hB3 HE h hv hm
      go_enter Try.func31, Try.ntmps31
      go_wp2
      refine bodyPost_ret (v := .tuple #[.agg #[.int .i64 most, .slice p m c], .int .i64 1]) ?qres rfl ?qpost
      case qres => simp [results, Try.results31, go_sem]
      case qpost => exact HQ.out _ (HBa.out _ _ _)
    · by_cases t3 : l.tt < 0
      · rw [hv]
        have HE : Hid (Q.putE ⟨most, ls⟩ l = 1 ∧ (Q.put ⟨most, ls⟩ l).ls = ls) := by
          have : Q.putE ⟨most, ls⟩ l = 1 := by unfold Q.putE; rw [if_pos (by omega)]
          exact ⟨this, by unfold Q.put; rw [this]; rfl⟩
        have HQ : Hid (∀ X, Below w.heap.size w X → ∃ v', Ending.returned (.tuple #[.agg #[.int .i64 most, .slice p m c], .int .i64 1]) = .returned (.tuple #[.agg #[.int .i64 most, v'], .int .i64 (Q.putE ⟨most, ls⟩ l)]) ∧ ROut w (.slice p m c) X v' (Q.put ⟨most, ls⟩ l).ls) := fun X hX => ⟨.slice p m c, by rw [HE.out.1], by rw [HE.out.2, ← HV.out]; exact ROut.same HLs.out hX⟩
        obtain ⟨fr, tt, tx⟩ := l
        dsimp only at *
        clear hu hbn hbl hbr hbu HB3 HBu HNe HSame hB3 HE h hv hm
        go_enter Try.func31, Try.ntmps31
        go_wp2
        refine bodyPost_ret (v := .tuple #[.agg #[.int .i64 most, .slice p m c], .int .i64 1]) ?qres rfl ?qpost
        case qres => simp [results, Try.results31, go_sem]
        case qpost => exact HQ.out _ (HBa.out _ _ _)
      · by_cases t4 : l.tt > 255
        · rw [hv]
          have HE : Hid (Q.putE ⟨most, ls⟩ l = 1 ∧ (Q.put ⟨most, ls⟩ l).ls = ls) := by
            have : Q.putE ⟨most, ls⟩ l = 1 := by unfold Q.putE; rw [if_pos (by omega)]
            exact ⟨this, by unfold Q.put; rw [this]; rfl⟩
          have HQ : Hid (∀ X, Below w.heap.size w X → ∃ v', Ending.returned (.tuple #[.agg #[.int .i64 most, .slice p m c], .int .i64 1]) = .returned (.tuple #[.agg #[.int .i64 most, v'], .int .i64 (Q.putE ⟨most, ls⟩ l)]) ∧ ROut w (.slice p m c) X v' (Q.put ⟨most, ls⟩ l).ls) := fun X hX => ⟨.slice p m c, by rw [HE.out.1], by rw [HE.out.2, ← HV.out]; exact ROut.same HLs.out hX⟩
          obtain ⟨fr, tt, tx⟩ := l
          dsimp only at *
          clear hu hbn hbl hbr hbu HB3 HBu HNe HSame hB3 HE h hv hm
          go_enter Try.func31, Try.ntmps31
          go_wp2
          refine bodyPost_ret (v := .tuple #[.agg #[.int .i64 most, .slice p m c], .int .i64 1]) ?qres rfl ?qpost
          case qres => simp [results, Try.results31, go_sem]
          case qpost => exact HQ.out _ (HBa.out _ _ _)
        · by_cases t5 : (l.tx.size : Int) > 1048576
          · rw [hv]
            have HE : Hid (Q.putE ⟨most, ls⟩ l = 4 ∧ (Q.put ⟨most, ls⟩ l).ls = ls) := by
              have : Q.putE ⟨most, ls⟩ l = 4 := by unfold Q.putE; rw [if_neg (by omega), if_pos (by omega)]
              exact ⟨this, by unfold Q.put; rw [this]; rfl⟩
            have HQ : Hid (∀ X, Below w.heap.size w X → ∃ v', Ending.returned (.tuple #[.agg #[.int .i64 most, .slice p m c], .int .i64 4]) = .returned (.tuple #[.agg #[.int .i64 most, v'], .int .i64 (Q.putE ⟨most, ls⟩ l)]) ∧ ROut w (.slice p m c) X v' (Q.put ⟨most, ls⟩ l).ls) := fun X hX => ⟨.slice p m c, by rw [HE.out.1], by rw [HE.out.2, ← HV.out]; exact ROut.same HLs.out hX⟩
            obtain ⟨fr, tt, tx⟩ := l
            dsimp only at *
            clear hu hbn hbl hbr hbu HB3 HBu HNe HSame hB3 HE h hv hm
            go_enter Try.func31, Try.ntmps31
            go_wp2
            refine bodyPost_ret (v := .tuple #[.agg #[.int .i64 most, .slice p m c], .int .i64 4]) ?qres rfl ?qpost
            case qres => simp [results, Try.results31, go_sem]
            case qpost => exact HQ.out _ (HBa.out _ _ _)
          · rw [hv]
            obtain ⟨ct, hct⟩ : ∃ ct, ct = Q.cnt ls l.fr l.tt := ⟨_, rfl⟩
            have HBet : Hid (∀ X, Below w.heap.size w X → Calls Try.prog 38 #[.agg #[.int .i64 most, .slice p m c], .int .i64 l.fr, .int .i64 l.tt] X fun e w' => e = .returned (.int .i64 (ct : Int)) ∧ Below w.heap.size w w' ∧ (B3 u bn bl br most v l (.int .i64 0) (.slice none 0 0) X → B3 u bn bl br most v l (.int .i64 0) (.slice none 0 0) w')) := by
              intro X hX
              have := rBetween_c (HLs.out.below hX) (by omega) most l.fr l.tt
              rw [hv, ← hct] at this
              refine this.mono ?_
              rintro e w' ⟨rfl, hb⟩
              exact ⟨rfl, hX.trans (hb.mono hX.size), fun h3 => h3.below hb⟩
            rw [hv] at HB3 HBet
            have HEq : Hid (bn = w.heap.size ∧ bl = w.heap.size + 1 ∧ br = w.heap.size + 1 + 1) := ⟨hbn, hbl, hbr⟩
            by_cases t6 : (ct : Int) ≥ most
            · have HE : Hid (Q.putE ⟨most, ls⟩ l = 2 ∧ (Q.put ⟨most, ls⟩ l).ls = ls) := by
                have : Q.putE ⟨most, ls⟩ l = 2 := by unfold Q.putE; rw [if_neg (by omega), if_neg (by omega), if_pos (by show (Q.cnt ls l.fr l.tt : Int) ≥ most; rw [← hct]; exact t6)]
                exact ⟨this, by unfold Q.put; rw [this]; rfl⟩
              have HQ : Hid (∀ X, Below w.heap.size w X → ∃ v', Ending.returned (.tuple #[.agg #[.int .i64 most, .slice p m c], .int .i64 2]) = .returned (.tuple #[.agg #[.int .i64 most, v'], .int .i64 (Q.putE ⟨most, ls⟩ l)]) ∧ ROut w (.slice p m c) X v' (Q.put ⟨most, ls⟩ l).ls) := fun X hX => ⟨.slice p m c, by rw [HE.out.1], by rw [HE.out.2, ← HV.out]; exact ROut.same HLs.out hX⟩
              have HS : Hid (∀ X, B3 u bn bl br most (.slice p m c) l (.int .i64 0) (.slice none 0 0) X → X.cell? ⟨bn, 0, none⟩ = some (.int .i64 most) ∧ X.cell? ⟨bn, 1, none⟩ = some (.slice p m c) ∧ X.cell? ⟨bl, 0, none⟩ = some (.int .i64 l.fr) ∧ X.cell? ⟨bl, 1, none⟩ = some (.int .i64 l.tt)) := fun X hX => ⟨hX.n0, hX.n1, hX.l0, hX.l1⟩
              have hd3 : B3 u bn bl br most (.slice p m c) l (.int .i64 0) (.slice none 0 0) u.drew := HB3.out.below (Below.refl _ _).drew
              have hdb : Below w.heap.size w u.drew := hbu.drew
              have HBr : Hid (w.heap.size ≤ br ∧ w.heap.size ≤ bn) := ⟨by omega, by omega⟩
              have HU : Hid (u = ((w.alloc (.cells #[.int .i64 most, .slice p m c] 29)).alloc (.cells #[.int .i64 l.fr, .int .i64 l.tt, .string l.tx] 82)).alloc (.cells #[.int .i64 0, .slice none 0 0] 29)) := by rw [← hv]; exact hu
              obtain ⟨fr, tt, tx⟩ := l
              dsimp only at *
              clear hbn hbl hbr hbu HSame hB3 h hm hct hu
              rw [HV.out] at HLs
              clear hv
              go_enter Try.func31, Try.ntmps31
              go_wp2
              rw [← HU.out, ← HEq.out.2.2, ← HEq.out.2.1, ← HEq.out.1]
              go_region_held (fun X => X.cell? ⟨bn, 0, none⟩ = some (.int .i64 most) ∧ X.cell? ⟨bn, 1, none⟩ = some (.slice p m c) ∧ X.cell? ⟨bl, 0, none⟩ = some (.int .i64 fr) ∧ X.cell? ⟨bl, 1, none⟩ = some (.int .i64 tt))
                (exact HS.out _ (by assumption))
                (first | (go_at_call 38; refine (HBet.out _ ?_).mono ?_; assumption; rintro e X ⟨rfl, hbX, h3⟩; have h3 := h3 (by assumption)))
              have HBX : Hid (Below w.heap.size w X) := hbX
              have H3X : Hid (B3 u bn bl br most (.slice p m c) ⟨fr, tt, tx⟩ (.int .i64 0) (.slice none 0 0) X) := h3
              obtain ⟨n0, n1, l0, l1, l2, r0, r1, fn, f0, f1⟩ := h3
              dsimp only at l0 l1 l2
              clear hbX hd3 hdb
              go_wp2
              have HF : Hid (Below w.heap.size w ((X.setCell ⟨br, 0, none⟩ (.int .i64 most)).setCell ⟨br, 1, none⟩ (.slice p m c))) := (HBX.out.setCell (p := ⟨br, 0, none⟩) HBr.out.1 _).setCell (p := ⟨br, 1, none⟩) HBr.out.1 _
              refine bodyPost_ret (v := .tuple #[.agg #[.int .i64 most, .slice p m c], .int .i64 2]) ?qres rfl ?qpost
              case qres => simp [results, Try.results31, go_sem, r0, r1]
              case qpost => exact HQ.out _ HF.out
            · have HE : Hid (Q.putE ⟨most, ls⟩ l = 0 ∧ (Q.put ⟨most, ls⟩ l).ls = ls ++ [l]) := by
                have : Q.putE ⟨most, ls⟩ l = 0 := by unfold Q.putE; rw [if_neg (by omega), if_neg (by omega), if_neg (by show ¬ (Q.cnt ls l.fr l.tt : Int) ≥ most; rw [← hct]; exact t6)]
                exact ⟨this, by unfold Q.put; rw [if_pos this]⟩
              have hL0 : Hid ((0 + m) * 32 ≤ 140737488355328 ∧ 0 + m ≤ maxLen ∧ (0 + m + 1) * 32 ≤ 140737488355328 ∧ 0 + m + 1 ≤ maxLen) := by unfold maxLen; exact ⟨by omega, by omega, by omega, by omega⟩
              obtain ⟨l9, hl9⟩ : ∃ l9, l9 = l := ⟨_, rfl⟩
              have HL9 : Hid (l9 = l) := hl9
              rw [← hl9] at HE
              have HGoal : Hid (∀ X v2, Ls X v2 (ls ++ [l9]) → Below w.heap.size w X → (∀ k, cBlk v2 = some k → w.heap.size ≤ k) → ∃ v', Ending.returned (.tuple #[.agg #[.int .i64 most, v2], .int .i64 0]) = .returned (.tuple #[.agg #[.int .i64 most, v'], .int .i64 (Q.putE ⟨most, ls⟩ l9)]) ∧ ROut w (.slice p m c) X v' (Q.put ⟨most, ls⟩ l9).ls) := fun X v2 h1 h2 h3 => ⟨v2, by rw [HE.out.1], by rw [HE.out.2]; exact ⟨h1, h2, fun k hk => .inr (h3 k hk)⟩⟩
              have HS : Hid (∀ X, B3 u bn bl br most (.slice p m c) l (.int .i64 0) (.slice none 0 0) X → X.cell? ⟨bn, 0, none⟩ = some (.int .i64 most) ∧ X.cell? ⟨bn, 1, none⟩ = some (.slice p m c) ∧ X.cell? ⟨bl, 0, none⟩ = some (.int .i64 l.fr) ∧ X.cell? ⟨bl, 1, none⟩ = some (.int .i64 l.tt)) := fun X hX => ⟨hX.n0, hX.n1, hX.l0, hX.l1⟩
              have hd3 : B3 u bn bl br most (.slice p m c) l (.int .i64 0) (.slice none 0 0) u.drew := HB3.out.below (Below.refl _ _).drew
              have hdb : Below w.heap.size w u.drew := hbu.drew
              have HBr : Hid (w.heap.size ≤ br ∧ w.heap.size ≤ bn) := ⟨by omega, by omega⟩
              have HU : Hid (u = ((w.alloc (.cells #[.int .i64 most, .slice p m c] 29)).alloc (.cells #[.int .i64 l.fr, .int .i64 l.tt, .string l.tx] 82)).alloc (.cells #[.int .i64 0, .slice none 0 0] 29)) := by rw [← hv]; exact hu
              obtain ⟨fr, tt, tx⟩ := l
              dsimp only at *
              rw [← hl9]
              clear hbn hbl hbr hbu HSame hB3 h hm hct hu HE hl9
              rw [HV.out] at HLs
              clear hv
              go_enter Try.func31, Try.ntmps31
              go_wp2
              rw [← HU.out, ← HEq.out.2.2, ← HEq.out.2.1, ← HEq.out.1]
              go_region_held (fun X => X.cell? ⟨bn, 0, none⟩ = some (.int .i64 most) ∧ X.cell? ⟨bn, 1, none⟩ = some (.slice p m c) ∧ X.cell? ⟨bl, 0, none⟩ = some (.int .i64 fr) ∧ X.cell? ⟨bl, 1, none⟩ = some (.int .i64 tt))
                (exact HS.out _ (by assumption))
                (first | (go_at_call 38; refine (HBet.out _ ?_).mono ?_; assumption; rintro e X ⟨rfl, hbX, h3⟩; have h3 := h3 (by assumption)))
              have HBX : Hid (Below w.heap.size w X) := hbX
              have H3X : Hid (B3 u bn bl br most (.slice p m c) ⟨fr, tt, tx⟩ (.int .i64 0) (.slice none 0 0) X) := h3
              obtain ⟨n0, n1, l0, l1, l2, r0, r1, fn, f0, f1⟩ := h3
              dsimp only at l0 l1 l2
              clear hbX hd3 hdb
              have HSrc : Hid (Src Try.prog 3 27 (.slice p m c) m (ltCells ls) X) := by
                have q : Ls X (.slice p m c) ls := HLs.out.below HBX.out
                unfold Ls at q
                rw [← HM.out] at q
                exact RowC.src q _ _ Try.underlying27 (ltCells_one ls)
              go_wp2_with (at_builtin; refine wpList_append_rowC rfl (.tmp 41) (.tmp 43) 27 27 82 rfl Try.underlying27 _ 3 32 infoRL rfl (.slice none 0 0) 0 [] rfl (RowC.nil _ _ _) (.slice p m c) m (ltCells ls) rfl HSrc.out hL0.out.1 hL0.out.2.1 ?qnext)
              case qnext =>
                intro v1 w1 ho hg hloc
                have hb1 : Below X.heap.size X w1 := (Below.refl _ X).grown hg (Nat.le_refl _) (fun k hk => by simp [cBlk] at hk)
                have hR1 : RowC w1 3 v1 m (ltCells ls) := by simpa using ho
                have hk1 : ∀ k, cBlk v1 = some k → X.heap.size ≤ k := fun k hk => by
                  rcases hloc k hk with q | q
                  · simp [cBlk] at q
                  · exact q
                have H31 : Hid (B3 u bn bl br most (.slice p m c) ⟨fr, tt, tx⟩ (.int .i64 0) (.slice none 0 0) w1) := H3X.out.below hb1
                obtain ⟨n0, n1, l0, l1, l2, r0, r1, fn, f0, f1⟩ := H31.out
                dsimp only at l0 l1 l2
                obtain ⟨p1, c1, hv1, _, _⟩ := hR1.form
                subst hv1
                obtain ⟨W, hW⟩ : ∃ W, W = w1.alloc (.cells #[.int .i64 fr, .int .i64 tt, .string tx] 82) := ⟨_, rfl⟩
                have hbW : Below w1.heap.size w1 W := by rw [hW]; exact below_alloc w1 _
                have HR2 : Hid (RowC W 3 (.slice p1 m c1) m (ltCells ls)) := hR1.carry (fun k hk => hbW.block k (hR1.lt (by omega) hk))
                have HSrc2 : Hid (Src Try.prog 3 27 (.slice (some ⟨w1.heap.size, 0, none⟩) 1 1) 1 [.int .i64 fr, .int .i64 tt, .string tx] W) := by
                  refine Src.ofSlice W Try.underlying27 _ _ _ _ rfl (fun j u hu => ?_) (fun u hu => by simp at hu; rcases hu with rfl | rfl | rfl <;> rfl)
                  rw [Addr.add_lit, Nat.zero_add, hW, World.cell?_alloc_mark]
                  simpa using hu
                have HBW : Hid (Below w.heap.size w W ∧ X.heap.size ≤ w1.heap.size ∧ w1.heap.size ≤ W.heap.size) := ⟨(HBX.out.trans (hb1.mono HBX.out.size)).trans (hbW.mono (Nat.le_trans HBX.out.size hb1.size)), hb1.size, hbW.size⟩
                have H3W : Hid (B3 u bn bl br most (.slice p m c) ⟨fr, tt, tx⟩ (.int .i64 0) (.slice none 0 0) W) := H31.out.below hbW
                have HK1 : Hid (∀ k, cBlk (.slice p1 m c1) = some k → X.heap.size ≤ k) := hk1
                have hL3 : Hid ((m + 1) * 32 ≤ 140737488355328 ∧ m + 1 ≤ maxLen) := by have q := hL0.out; exact ⟨by omega, by omega⟩
                have HXs : Hid (w.heap.size ≤ X.heap.size ∧ bn < X.heap.size ∧ br < X.heap.size) := ⟨HBX.out.size, World.block_lt_of_cell? _ _ H3X.out.n0, World.block_lt_of_cell? _ _ H3X.out.r0⟩
                clear ho hg hloc hb1 hR1 hk1 hbW
                subst hW
                go_wp2_with (at_builtin; refine wpList_append_rowC rfl (.tmp 45) (.tmp 47) 27 27 82 rfl Try.underlying27 _ 3 32 infoRL rfl (.slice p1 m c1) m (ltCells ls) rfl HR2.out (.slice (some ⟨w1.heap.size, 0, none⟩) 1 1) 1 [.int .i64 fr, .int .i64 tt, .string tx] rfl HSrc2.out hL3.out.1 hL3.out.2 ?qnext2)
                case qnext2 =>
                  intro v2 w2 ho hg hloc
                  obtain ⟨p2, c2, hv2, _, _⟩ := ho.form
                  subst hv2
                  have hsame : ∀ k, k < X.heap.size → w2.heap[k]? = (w1.alloc (.cells #[.int .i64 fr, .int .i64 tt, .string tx] 82)).heap[k]? := fun k hk => hg.block k (by have := HBW.out.2; omega) (fun e => by have := HK1.out k e.symm; omega)
                  have H3 := H3W.out
                  have m0 := (World.cell?_of_block (a := ⟨bn, 0, none⟩) (hsame bn HXs.out.2.1)).trans H3.n0
                  have m1 := (World.cell?_of_block (a := ⟨bn, 1, none⟩) (hsame bn HXs.out.2.1)).trans H3.n1
                  have mf := (World.frozen?_of_block (a := ⟨bn, 1, none⟩) (hsame bn HXs.out.2.1)).trans H3.fn
                  have k0 := (World.cell?_of_block (a := ⟨br, 0, none⟩) (hsame br HXs.out.2.2)).trans H3.r0
                  have k1 := (World.cell?_of_block (a := ⟨br, 1, none⟩) (hsame br HXs.out.2.2)).trans H3.r1
                  have kf0 := (World.frozen?_of_block (a := ⟨br, 0, none⟩) (hsame br HXs.out.2.2)).trans H3.f0
                  have kf1 := (World.frozen?_of_block (a := ⟨br, 1, none⟩) (hsame br HXs.out.2.2)).trans H3.f1
                  have hnb : bn ≠ br := by have := HEq.out; omega
                  have hv2k : ∀ k, cBlk (.slice p2 (m + 1) c2) = some k → X.heap.size ≤ k := fun k hk => by
                    rcases hloc k hk with q | q
                    · exact HK1.out k q
                    · have := HBW.out.2; omega
                  have hbel2 : Below w.heap.size w w2 := HBW.out.1.grown hg HBW.out.1.size (fun k hk => by have := HK1.out k hk; have := HXs.out.1; omega)
                  have HF : Hid (∃ v', Ending.returned (.tuple #[.agg #[.int .i64 most, .slice p2 (m + 1) c2], .int .i64 0]) = .returned (.tuple #[.agg #[.int .i64 most, v'], .int .i64 (Q.putE ⟨most, ls⟩ l9)]) ∧ ROut w (.slice p m c) (((w2.setCell ⟨bn, 1, none⟩ (.slice p2 (m + 1) c2)).setCell ⟨br, 0, none⟩ (.int .i64 most)).setCell ⟨br, 1, none⟩ (.slice p2 (m + 1) c2)) v' (Q.put ⟨most, ls⟩ l9).ls) := by
                    refine HGoal.out _ _ ?_ (((hbel2.setCell (p := ⟨bn, 1, none⟩) HBr.out.2 _).setCell (p := ⟨br, 0, none⟩) HBr.out.1 _).setCell (p := ⟨br, 1, none⟩) HBr.out.1 _) (fun k hk => by have := hv2k k hk; have := HXs.out.1; omega)
                    unfold Ls
                    have e1 : ltCells (ls ++ [l9]) = ltCells ls ++ [.int .i64 fr, .int .i64 tt, .string tx] := by rw [HL9.out]; exact ltCells_snoc _ _
                    have e2 : (ls ++ [l9]).length = m + 1 := by rw [HM.out]; simp
                    rw [e1, e2]
                    refine ho.carry (fun k hk => ?_)
                    have hk' := hv2k k hk
                    have hkn : k ≠ bn := by have := HXs.out; omega
                    have hkr : k ≠ br := by have := HXs.out; omega
                    rw [Below.heap_setCell _ _ _ _ hkr, Below.heap_setCell _ _ _ _ hkr, Below.heap_setCell _ _ _ _ hkn]
                  have z0 : (w2.setCell ⟨bn, 1, none⟩ (.slice p2 (m + 1) c2)).cell? ⟨bn, 0, none⟩ = some (.int .i64 most) := by rw [cell_set6 _ m1, if_neg (by omega)]; exact m0
                  have z1 : (w2.setCell ⟨bn, 1, none⟩ (.slice p2 (m + 1) c2)).cell? ⟨bn, 1, none⟩ = some (.slice p2 (m + 1) c2) := by rw [cell_set6 _ m1, if_pos rfl]
                  have y0 : (w2.setCell ⟨bn, 1, none⟩ (.slice p2 (m + 1) c2)).cell? ⟨br, 0, none⟩ = some (.int .i64 0) := (World.cell?_of_block (a := ⟨br, 0, none⟩) (Below.heap_setCell _ _ _ _ (fun e => hnb e.symm))).trans k0
                  have y1 : (w2.setCell ⟨bn, 1, none⟩ (.slice p2 (m + 1) c2)).cell? ⟨br, 1, none⟩ = some (.slice none 0 0) := (World.cell?_of_block (a := ⟨br, 1, none⟩) (Below.heap_setCell _ _ _ _ (fun e => hnb e.symm))).trans k1
                  clear ho hg hloc hsame H3 hv2k hbel2
                  go_wp2
                  refine bodyPost_ret (v := .tuple #[.agg #[.int .i64 most, .slice p2 (m + 1) c2], .int .i64 0]) ?qres rfl ?qpost
                  case qres => simp [results, Try.results31, go_sem, y0, y1]
                  case qpost => exact HF.out

end
end Go.Proofs.Ytpopanfefpehnaa
