/-
  What replay does with a segment's bytes.
-/
import Derived.Test.YtpfnkjfbhcffiaaWlApp
import Derived.Test.YtpfnkjfbhcffiaaWlTake
namespace Go.Proofs.Ytpfnkjfbhcffiaa
open Go.RowKit

namespace W
/-- The bytes of records. -/
def recs : List Rec → ByteArray
  | [] => ⟨#[]⟩
  | r :: l => recB r ++ recs l
/-- What records make of all groups. -/
def folds (gs : Nat → Sv) : List Rec → Nat → Sv
  | [] => gs
  | r :: l => folds (doR gs r) l
/-- Each may come next. -/
def Chks (gs : Nat → Sv) : List Rec → Prop
  | [] => True
  | r :: l => chk gs r = 0 ∧ Chks (doR gs r) l

theorem recs_append (a b : List Rec) : recs (a ++ b) = recs a ++ recs b := by
  induction a with
  | nil => simp only [List.nil_append, recs]; apply F.ext; simp
  | cons r l ih => rw [List.cons_append, recs, recs, ih, ByteArray.append_assoc]
theorem folds_append (a b : List Rec) (gs : Nat → Sv) : folds gs (a ++ b) = folds (folds gs a) b := by
  induction a generalizing gs with
  | nil => rfl
  | cons r l ih => exact ih (doR gs r)
theorem chks_append (a b : List Rec) (gs : Nat → Sv) : Chks gs (a ++ b) ↔ Chks gs a ∧ Chks (folds gs a) b := by
  induction a generalizing gs with
  | nil => simp [Chks, folds]
  | cons r l ih =>
    rw [List.cons_append, Chks, Chks, ih, folds, and_assoc]
end W

theorem extract_right (a b : ByteArray) : (a ++ b).extract a.size (a ++ b).size = b := by
  apply F.ext
  rw [F.toL_extract, F.toL_append, ← F.toL_length a, List.drop_left, ← F.toL_length (a ++ b), F.toL_append, List.length_append, Nat.add_sub_cancel_left, List.take_length]
theorem size_app (a b : ByteArray) : (a ++ b).size = a.size + b.size := ByteArray.size_append

theorem replay_no {w : World} {p : Pl} {s : St} {own : Nat → Prop} (_h : Lg w p s own) (x : ByteArray) (hx : x.size ≤ 1000000000) (ht : (F.take x).2.2 ≠ 0) :
    Calls Try.prog 60 #[.pointer (some ⟨p.L, 0, none⟩), .string x] w fun e w' => e = .returned (.int .i64 0) ∧ Below w.heap.size w w' := by
  have HT : Hid _ := takeHead_no x w hx ht
  clear _h ht hx
  go_enter Try.func60, Try.ntmps60
  go_wp2_with fail
  refine Calls.mono HT.out ?_
  rintro e w1 ⟨rfl, hb⟩
  have HB : Hid _ := hb
  clear hb
  go_wp2
  go_ret
  exact ⟨rfl, HB.out⟩

/-- The same log, of another turn and other groups. -/
def stG (s : St) (t : Nat) (gs : Nat → W.Sv) : St := { s with turn := t, gs := gs }

/-- Where the last whole record ends. -/
def goodAt (l : List W.Rec) : Nat := if l = [] then 0 else 10 + (W.recs l).size

theorem recB_pos (r : W.Rec) : 9 ≤ (W.recB r).size := by unfold W.recB; rw [F.record_size]; omega

set_option maxHeartbeats 1600000 in
set_option maxRecDepth 20000 in
theorem replay_yes {w : World} {p : Pl} {s : St} {own : Nat → Prop} (h : Lg w p s own) (t : Nat) (ht : t ≤ 1) (rs : List W.Rec) (rest : ByteArray) (hsz : (W.head t ++ (W.recs rs ++ rest)).size ≤ 100000000) (hr : (F.take rest).2.2 ≠ 0) (hc : W.Chks s.gs rs) (hturn : s.n = 0 ∨ t = s.turn) :
    Calls Try.prog 60 #[.pointer (some ⟨p.L, 0, none⟩), .string (W.head t ++ (W.recs rs ++ rest))] w fun e w' => e = .returned (.int .i64 (goodAt rs : Int)) ∧ Aft own w w' p (stG s t (W.folds s.gs rs)) := by
  have h10 := head_size10 t ht
  have HT : Hid _ := takeHead_yes t ht (W.recs rs ++ rest) w (by omega)
  obtain ⟨c0, c1, cn, ct, fn, ft⟩ := h.cells
  have hlt : p.L < w.heap.size := by obtain ⟨_, _, q⟩ := h; exact q.lt
  obtain ⟨X, hX⟩ : ∃ X, X = W.head t ++ (W.recs rs ++ rest) := ⟨_, rfl⟩
  rw [← hX] at HT hsz ⊢
  have HX : Hid (∀ done todo, rs = done ++ todo → X.extract (10 + (W.recs done).size) X.size = W.recs todo ++ rest ∧ 10 + (W.recs done).size ≤ X.size ∧ X.size = 10 + (W.recs done).size + (W.recs todo).size + rest.size) := by
    intro done todo hd
    have e : X = (W.head t ++ W.recs done) ++ (W.recs todo ++ rest) := by rw [hX, hd, W.recs_append]; simp only [ByteArray.append_assoc]
    have e2 : (W.head t ++ W.recs done).size = 10 + (W.recs done).size := by rw [size_app, h10]
    refine ⟨?_, ?_, ?_⟩
    · rw [e, ← e2]; exact extract_right _ _
    · rw [e, size_app, e2]; omega
    · rw [e, size_app, e2, size_app]; omega
  have HS : Hid (∀ u, Below w.heap.size w u → u.cell? ⟨p.L, 58, none⟩ = some (.int .i64 (s.turn : Int)) ∧ u.frozen? ⟨p.L, 58, none⟩ = false ∧ u.cell? ⟨p.L, 57, none⟩ = some (.int .i64 (s.n : Int)) ∧ Aft own w (u.setCell ⟨p.L, 58, none⟩ (.int .i64 (t : Int))) p (stG s t (W.folds s.gs []))) := by
    intro u hu
    refine ⟨(hu.cell (p := ⟨p.L, 58, none⟩) hlt).trans ct, (hu.frozen (p := ⟨p.L, 58, none⟩) hlt).trans ft, (hu.cell (p := ⟨p.L, 57, none⟩) hlt).trans cn, ?_⟩
    exact Aft.from hu ((h.below hu).setT t ht)
  have HNo : Hid (∀ u, Calls Try.prog 81 #[.string (W.recs [] ++ rest)] u fun e w' => e = .returned (.tuple #[.agg #[.int .i64 0, .int .i64 0, .int .i64 0, .int .i64 0, .int .i64 0, .string ⟨#[]⟩], .int .i64 0, .bool false]) ∧ Below u.heap.size u w') := by
    intro u
    have e : W.recs [] ++ rest = rest := by unfold W.recs; apply F.ext; simp
    rw [e]
    refine takeRecord_no rest u ?_ hr
    have := (HX.out rs [] (by simp)).2.2
    omega
  have HYes : Hid (∀ (r : W.Rec) (todo : List W.Rec), W.may r = true → (W.recs (r :: todo) ++ rest).size ≤ 100000000 → ∀ u, Calls Try.prog 81 #[.string (W.recs (r :: todo) ++ rest)] u fun e w' => e = .returned (.tuple #[recV r, .int .i64 ((W.recB r).size : Int), .bool true]) ∧ Below u.heap.size u w') := by
    intro r todo hm hs u
    have e : W.recs (r :: todo) ++ rest = W.recB r ++ (W.recs todo ++ rest) := by rw [W.recs, ByteArray.append_assoc]
    rw [e] at hs ⊢
    exact takeRecord_yes r hm _ u (by omega)
  have HChk : Hid (W.Chks s.gs rs) := hc
  have HP : Hid (∀ done (r : W.Rec) todo, rs = done ++ r :: todo → W.chk (W.folds s.gs done) r = 0) := by
    intro done r todo hd
    rw [hd, W.chks_append, W.Chks] at hc
    exact hc.2.1
  obtain ⟨L, hL⟩ : ∃ L, L = p.L := ⟨_, rfl⟩
  have HLe : Hid (L = p.L) := hL
  have HN : Hid (s.n = 0 ∨ t = s.turn) := hturn
  have HLt : Hid (L < w.heap.size) := by rw [hL]; exact hlt
  rw [← hL] at HS ⊢
  have HH : Hid (Lg w p s own) := h
  clear h hr hc hX h10 c0 c1 cn ct fn ft hL hlt hturn
  have hXs : X.size < 9223372036854775808 := by omega
  obtain ⟨nn, hnn⟩ : ∃ nn, nn = s.n := ⟨_, rfl⟩
  obtain ⟨tr, htr⟩ : ∃ tr, tr = s.turn := ⟨_, rfl⟩
  rw [← hnn, ← htr] at HS HN
  have hszX : Hid (X.size ≤ 100000000) := hsz
  clear hnn htr hsz
  by_cases hn0 : nn = 0
  · subst hn0
    go_enter Try.func60, Try.ntmps60
    go_wp2_with fail
    refine Calls.mono HT.out ?_
    rintro e w1 ⟨rfl, hb⟩
    obtain ⟨ct, ft, cn, hA⟩ := HS.out w1 hb
    have HA : Hid _ := hA
    clear hA hb HT HS
    go_wp2
    clear ct ft cn
    go_loopw [6, 8] (fun x y wr => ∃ done todo, rs = done ++ todo ∧ x = .int .i64 ((10 + (W.recs done).size : Nat) : Int) ∧ y = .int .i64 (goodAt done : Int) ∧ Hid (Aft own w wr p (stG s t (W.folds s.gs done)))) (fun x _ _ => X.size - (intOf x).toNat)
    case atStart => exact ⟨[], rs, rfl, rfl, rfl, HA⟩
    case round =>
      clear HA
      obtain ⟨done, todo, hd, rfl, rfl, HA⟩ := hrel
      obtain ⟨ex, hle, hsz⟩ := HX.out done todo hd
      obtain ⟨q, hq⟩ : ∃ q, q = 10 + (W.recs done).size := ⟨_, rfl⟩
      obtain ⟨gd, hgd⟩ : ∃ gd, gd = goodAt done := ⟨_, rfl⟩
      rw [← hq] at ex hle hsz ⊢
      rw [← hgd]
      have HQ : Hid (q = 10 + (W.recs done).size) := hq
      have HGD : Hid (gd = goodAt done) := hgd
      have HDn : Hid (rs = done ++ todo) := hd
      have HSZ : Hid _ := hsz
      clear hq hgd hd hsz
      cases todo with
      | nil =>
        obtain ⟨Y, hY⟩ : ∃ Y, Y = W.recs [] ++ rest := ⟨_, rfl⟩
        have HNo' : Hid _ := HNo.out
        rw [← hY] at ex HNo'
        clear hY
        go_wp2_with fail
        refine Calls.mono (HNo'.out _) ?_
        rintro e w2 ⟨rfl, hb⟩
        have HB2 : Hid (Below wr.heap.size wr w2) := hb
        clear hb
        go_wp2
        go_ret
        have e1 : rs = done := by have := HDn.out; rw [List.append_nil] at this; exact this
        rw [e1]
        exact ⟨by rw [HGD.out]; rfl, HA.out.trans (Aft.same HA.out.1 (HB2.out.trans ((below_alloc _ _).mono HB2.out.size)))⟩
      | cons r todo =>
        have hchk := HP.out done r todo HDn.out
        have hmay := chk_may hchk
        have hszr : (W.recs (r :: todo) ++ rest).size ≤ 100000000 := by have := HSZ.out; have := hszX.out; rw [size_app]; omega
        have HY : Hid _ := HYes.out r todo hmay hszr
        obtain ⟨Y, hY⟩ : ∃ Y, Y = W.recs (r :: todo) ++ rest := ⟨_, rfl⟩
        rw [← hY] at ex HY
        have HCk : Hid (∀ u, Below wr.heap.size wr u → Calls Try.prog 29 #[.pointer (some ⟨L, 0, none⟩), recV r] u fun e w' => e = .returned (.int .i64 0) ∧ Below u.heap.size u w') := by
          intro u hu
          have := check_c (HA.out.1.below hu) r
          rw [show (stG s t (W.folds s.gs done)).gs = W.folds s.gs done from rfl, hchk, ← HLe.out] at this
          exact this
        have HDo : Hid (∀ u, Below wr.heap.size wr u → Calls Try.prog 33 #[.pointer (some ⟨L, 0, none⟩), recV r] u fun e w' => e = .returned (.tuple #[]) ∧ Aft own w w' p (stG s t (W.folds s.gs (done ++ [r])))) := by
          intro u hu
          have := do_c (HA.out.1.below hu) r hchk
          rw [← HLe.out] at this
          refine this.mono ?_
          rintro e w' ⟨rfl, h1, h2⟩
          rw [W.folds_append]
          exact ⟨rfl, HA.out.trans (Aft.from hu ⟨h1, h2⟩)⟩
        have HSR : Hid (q + (W.recB r).size = 10 + (W.recs (done ++ [r])).size ∧ q + (W.recB r).size ≤ X.size ∧ 9 ≤ (W.recB r).size ∧ goodAt (done ++ [r]) = q + (W.recB r).size) := by
          have h1 := HSZ.out
          have h2 := HQ.out
          have h3 := recB_pos r
          have e1 : (W.recs (r :: todo)).size = (W.recB r).size + (W.recs todo).size := by rw [W.recs, size_app]
          have e2 : (W.recs (done ++ [r])).size = (W.recs done).size + (W.recB r).size := by rw [W.recs_append, size_app, W.recs, size_app]; show _ + (_ + 0) = _; omega
          refine ⟨by omega, by omega, h3, ?_⟩
          unfold goodAt
          rw [if_neg (by simp), e2]
          omega
        have HDn2 : Hid (rs = (done ++ [r]) ++ todo) := by show _ = _; rw [HDn.out]; simp
        obtain ⟨zr, hzr⟩ : ∃ zr, zr = (W.recB r).size := ⟨_, rfl⟩
        rw [← hzr] at HY HSR
        have hz2 : q + zr ≤ X.size := HSR.out.2.1
        obtain ⟨dr, hdr⟩ : ∃ dr, dr = done ++ [r] := ⟨_, rfl⟩
        rw [← hdr] at HDo HSR HDn2
        obtain ⟨rg, rk, ri, rt, rv, d⟩ := r
        unfold recV at HY HCk HDo
        dsimp only at HY HCk HDo
        clear hY hchk hmay hszr hzr hdr
        go_wp2_with fail
        refine Calls.mono (HY.out _) ?_
        rintro e w2 ⟨rfl, hb⟩
        have HB2 : Hid (Below wr.heap.size wr w2) := hb
        clear hb
        go_wp2_with fail
        obtain ⟨u, hu⟩ : ∃ u, u = w2.alloc (.cells #[.int .i64 rg, .int .i64 rk, .int .i64 ri, .int .i64 rt, .int .i64 rv, .string d] 37) := ⟨_, rfl⟩
        obtain ⟨bx, hbx⟩ : ∃ bx, bx = w2.heap.size := ⟨_, rfl⟩
        have HBu : Hid (Below wr.heap.size wr u) := by rw [hu]; exact HB2.out.trans ((below_alloc _ _).mono HB2.out.size)
        have hbu : bx < u.heap.size := by rw [hu, hbx]; simp
        have ub : ∀ j, u.cell? ⟨bx, j, none⟩ = (#[.int .i64 rg, .int .i64 rk, .int .i64 ri, .int .i64 rt, .int .i64 rv, .string d] : Array Value)[j]? := by intro j; rw [hu, hbx]; exact World.cell?_alloc_mark w2 _ _ _ j
        rw [← hu, ← hbx]
        clear hu hbx
        refine Calls.mono (HCk.out _ HBu.out) ?_
        rintro e w3 ⟨rfl, hb⟩
        have y0 : w3.cell? ⟨bx, 0, none⟩ = some (.int .i64 rg) := (hb.cell (p := ⟨bx, 0, none⟩) hbu).trans (ub 0)
        have y1 : w3.cell? ⟨bx, 1, none⟩ = some (.int .i64 rk) := (hb.cell (p := ⟨bx, 1, none⟩) hbu).trans (ub 1)
        have y2 : w3.cell? ⟨bx, 2, none⟩ = some (.int .i64 ri) := (hb.cell (p := ⟨bx, 2, none⟩) hbu).trans (ub 2)
        have y3 : w3.cell? ⟨bx, 3, none⟩ = some (.int .i64 rt) := (hb.cell (p := ⟨bx, 3, none⟩) hbu).trans (ub 3)
        have y4 : w3.cell? ⟨bx, 4, none⟩ = some (.int .i64 rv) := (hb.cell (p := ⟨bx, 4, none⟩) hbu).trans (ub 4)
        have y5 : w3.cell? ⟨bx, 5, none⟩ = some (.string d) := (hb.cell (p := ⟨bx, 5, none⟩) hbu).trans (ub 5)
        have HB3 : Hid (Below wr.heap.size wr w3) := HBu.out.trans (hb.mono HBu.out.size)
        clear hb ub hbu
        go_wp2_with fail
        refine Calls.mono (HDo.out _ HB3.out) ?_
        rintro e w4 ⟨rfl, h4⟩
        have H4 : Hid _ := h4
        clear h4 y0 y1 y2 y3 y4 y5
        go_wp2
        go_roundw
        case rel => exact ⟨dr, todo, HDn2.out, by rw [← HSR.out.1]; go_num, by rw [HSR.out.2.2.2]; go_num, H4⟩
        case measure => have := HSR.out.2.2.1; simp [intOf]; omega
  · obtain rfl : t = tr := by rcases HN.out with e | e; exact absurd e hn0; exact e
    have t0 : decide (0 < nn) = true := decide_eq_true (by omega)
    have t1 : ((t : Int) != (t : Int)) = false := by simp
    go_enter Try.func60, Try.ntmps60
    go_wp2_with fail
    refine Calls.mono HT.out ?_
    rintro e w1 ⟨rfl, hb⟩
    obtain ⟨ct, ft, cn, hA⟩ := HS.out w1 hb
    have HA : Hid _ := hA
    clear hA hb HT HS
    go_wp2
    clear ct ft cn
    go_loopw [6, 8] (fun x y wr => ∃ done todo, rs = done ++ todo ∧ x = .int .i64 ((10 + (W.recs done).size : Nat) : Int) ∧ y = .int .i64 (goodAt done : Int) ∧ Hid (Aft own w wr p (stG s t (W.folds s.gs done)))) (fun x _ _ => X.size - (intOf x).toNat)
    case atStart => exact ⟨[], rs, rfl, rfl, rfl, HA⟩
    case round =>
      clear HA
      obtain ⟨done, todo, hd, rfl, rfl, HA⟩ := hrel
      obtain ⟨ex, hle, hsz⟩ := HX.out done todo hd
      obtain ⟨q, hq⟩ : ∃ q, q = 10 + (W.recs done).size := ⟨_, rfl⟩
      obtain ⟨gd, hgd⟩ : ∃ gd, gd = goodAt done := ⟨_, rfl⟩
      rw [← hq] at ex hle hsz ⊢
      rw [← hgd]
      have HQ : Hid (q = 10 + (W.recs done).size) := hq
      have HGD : Hid (gd = goodAt done) := hgd
      have HDn : Hid (rs = done ++ todo) := hd
      have HSZ : Hid _ := hsz
      clear hq hgd hd hsz
      cases todo with
      | nil =>
        obtain ⟨Y, hY⟩ : ∃ Y, Y = W.recs [] ++ rest := ⟨_, rfl⟩
        have HNo' : Hid _ := HNo.out
        rw [← hY] at ex HNo'
        clear hY
        go_wp2_with fail
        refine Calls.mono (HNo'.out _) ?_
        rintro e w2 ⟨rfl, hb⟩
        have HB2 : Hid (Below wr.heap.size wr w2) := hb
        clear hb
        go_wp2
        go_ret
        have e1 : rs = done := by have := HDn.out; rw [List.append_nil] at this; exact this
        rw [e1]
        exact ⟨by rw [HGD.out]; rfl, HA.out.trans (Aft.same HA.out.1 (HB2.out.trans ((below_alloc _ _).mono HB2.out.size)))⟩
      | cons r todo =>
        have hchk := HP.out done r todo HDn.out
        have hmay := chk_may hchk
        have hszr : (W.recs (r :: todo) ++ rest).size ≤ 100000000 := by have := HSZ.out; have := hszX.out; rw [size_app]; omega
        have HY : Hid _ := HYes.out r todo hmay hszr
        obtain ⟨Y, hY⟩ : ∃ Y, Y = W.recs (r :: todo) ++ rest := ⟨_, rfl⟩
        rw [← hY] at ex HY
        have HCk : Hid (∀ u, Below wr.heap.size wr u → Calls Try.prog 29 #[.pointer (some ⟨L, 0, none⟩), recV r] u fun e w' => e = .returned (.int .i64 0) ∧ Below u.heap.size u w') := by
          intro u hu
          have := check_c (HA.out.1.below hu) r
          rw [show (stG s t (W.folds s.gs done)).gs = W.folds s.gs done from rfl, hchk, ← HLe.out] at this
          exact this
        have HDo : Hid (∀ u, Below wr.heap.size wr u → Calls Try.prog 33 #[.pointer (some ⟨L, 0, none⟩), recV r] u fun e w' => e = .returned (.tuple #[]) ∧ Aft own w w' p (stG s t (W.folds s.gs (done ++ [r])))) := by
          intro u hu
          have := do_c (HA.out.1.below hu) r hchk
          rw [← HLe.out] at this
          refine this.mono ?_
          rintro e w' ⟨rfl, h1, h2⟩
          rw [W.folds_append]
          exact ⟨rfl, HA.out.trans (Aft.from hu ⟨h1, h2⟩)⟩
        have HSR : Hid (q + (W.recB r).size = 10 + (W.recs (done ++ [r])).size ∧ q + (W.recB r).size ≤ X.size ∧ 9 ≤ (W.recB r).size ∧ goodAt (done ++ [r]) = q + (W.recB r).size) := by
          have h1 := HSZ.out
          have h2 := HQ.out
          have h3 := recB_pos r
          have e1 : (W.recs (r :: todo)).size = (W.recB r).size + (W.recs todo).size := by rw [W.recs, size_app]
          have e2 : (W.recs (done ++ [r])).size = (W.recs done).size + (W.recB r).size := by rw [W.recs_append, size_app, W.recs, size_app]; show _ + (_ + 0) = _; omega
          refine ⟨by omega, by omega, h3, ?_⟩
          unfold goodAt
          rw [if_neg (by simp), e2]
          omega
        have HDn2 : Hid (rs = (done ++ [r]) ++ todo) := by show _ = _; rw [HDn.out]; simp
        obtain ⟨zr, hzr⟩ : ∃ zr, zr = (W.recB r).size := ⟨_, rfl⟩
        rw [← hzr] at HY HSR
        have hz2 : q + zr ≤ X.size := HSR.out.2.1
        obtain ⟨dr, hdr⟩ : ∃ dr, dr = done ++ [r] := ⟨_, rfl⟩
        rw [← hdr] at HDo HSR HDn2
        obtain ⟨rg, rk, ri, rt, rv, d⟩ := r
        unfold recV at HY HCk HDo
        dsimp only at HY HCk HDo
        clear hY hchk hmay hszr hzr hdr
        go_wp2_with fail
        refine Calls.mono (HY.out _) ?_
        rintro e w2 ⟨rfl, hb⟩
        have HB2 : Hid (Below wr.heap.size wr w2) := hb
        clear hb
        go_wp2_with fail
        obtain ⟨u, hu⟩ : ∃ u, u = w2.alloc (.cells #[.int .i64 rg, .int .i64 rk, .int .i64 ri, .int .i64 rt, .int .i64 rv, .string d] 37) := ⟨_, rfl⟩
        obtain ⟨bx, hbx⟩ : ∃ bx, bx = w2.heap.size := ⟨_, rfl⟩
        have HBu : Hid (Below wr.heap.size wr u) := by rw [hu]; exact HB2.out.trans ((below_alloc _ _).mono HB2.out.size)
        have hbu : bx < u.heap.size := by rw [hu, hbx]; simp
        have ub : ∀ j, u.cell? ⟨bx, j, none⟩ = (#[.int .i64 rg, .int .i64 rk, .int .i64 ri, .int .i64 rt, .int .i64 rv, .string d] : Array Value)[j]? := by intro j; rw [hu, hbx]; exact World.cell?_alloc_mark w2 _ _ _ j
        rw [← hu, ← hbx]
        clear hu hbx
        refine Calls.mono (HCk.out _ HBu.out) ?_
        rintro e w3 ⟨rfl, hb⟩
        have y0 : w3.cell? ⟨bx, 0, none⟩ = some (.int .i64 rg) := (hb.cell (p := ⟨bx, 0, none⟩) hbu).trans (ub 0)
        have y1 : w3.cell? ⟨bx, 1, none⟩ = some (.int .i64 rk) := (hb.cell (p := ⟨bx, 1, none⟩) hbu).trans (ub 1)
        have y2 : w3.cell? ⟨bx, 2, none⟩ = some (.int .i64 ri) := (hb.cell (p := ⟨bx, 2, none⟩) hbu).trans (ub 2)
        have y3 : w3.cell? ⟨bx, 3, none⟩ = some (.int .i64 rt) := (hb.cell (p := ⟨bx, 3, none⟩) hbu).trans (ub 3)
        have y4 : w3.cell? ⟨bx, 4, none⟩ = some (.int .i64 rv) := (hb.cell (p := ⟨bx, 4, none⟩) hbu).trans (ub 4)
        have y5 : w3.cell? ⟨bx, 5, none⟩ = some (.string d) := (hb.cell (p := ⟨bx, 5, none⟩) hbu).trans (ub 5)
        have HB3 : Hid (Below wr.heap.size wr w3) := HBu.out.trans (hb.mono HBu.out.size)
        clear hb ub hbu
        go_wp2_with fail
        refine Calls.mono (HDo.out _ HB3.out) ?_
        rintro e w4 ⟨rfl, h4⟩
        have H4 : Hid _ := h4
        clear h4 y0 y1 y2 y3 y4 y5
        go_wp2
        go_roundw
        case rel => exact ⟨dr, todo, HDn2.out, by rw [← HSR.out.1]; go_num, by rw [HSR.out.2.2.2]; go_num, H4⟩
        case measure => have := HSR.out.2.2.1; simp [intOf]; omega

end Go.Proofs.Ytpfnkjfbhcffiaa
