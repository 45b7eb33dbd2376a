/-
  begun and awake.
-/
import Derived.Test.YtagcnhkodmjkgaaWlOpen
import Derived.Test.YtagcnhkodmjkgaaWlSaved
namespace Go.Proofs.Ytagcnhkodmjkgaa
open Go.RowKit

/-- A disk with nothing on it. -/
theorem disky_empty : Disky (fun _ => []) (fun _ => W.new) 0 [] [] :=
  ⟨by omega, by show 0 < 200; omega, fun i l h => by simp at h, trivial, .inl ⟨take_empty, rfl⟩⟩

/-- A log on an empty disk. -/
structure Fresh (w w' : World) (p : Pl) (s : St) (own : Nat → Prop) : Prop where
  lg : Lg w' p s own
  mine : ∀ k, own k → w.heap.size ≤ k
  old : Below w.heap.size w w'
  A : ∀ i, i < 256 → s.A i = []
  S : ∀ i, i < 256 → s.S i = 0
  gs : s.gs = fun _ => W.new
  n : s.n = 0
  room : p.room = 4194304

set_option maxHeartbeats 400000 in
theorem begun_c (lim : Nat) (hl : 1 ≤ lim ∧ lim ≤ 16777216) (w : World) :
    Calls Try.prog 11 #[.int .i64 (lim : Int)] w fun e w' => ∃ p s own, e = .returned (.tuple #[.pointer (some ⟨p.b, 0, none⟩), .pointer (some ⟨p.L, 0, none⟩), .bool true]) ∧ p.limit = lim ∧ Fresh w w' p s own := by
  have HN : Hid _ := New_yes 4194304 w (by omega)
  have HO : Hid (∀ u, u = w.alloc (.cells (newCells ((4194304 : Nat) : Int)) 67) → Calls Try.prog 10 #[.pointer (some ⟨w.heap.size, 0, none⟩), .int .i64 (lim : Int)] u fun e w' => ∃ p s own, e = .returned (.tuple #[.pointer (some ⟨p.L, 0, none⟩), .int .i64 0]) ∧ p.b = w.heap.size ∧ p.limit = lim ∧ Fresh w w' p s own) := by
    intro u hu
    have hd := dk_new w 4194304 (by omega)
    rw [← hu] at hd
    have hus : u.heap.size = w.heap.size + 1 := by rw [hu]; simp
    have hB : Below w.heap.size w u := by rw [hu]; exact below_alloc _ _
    refine (Open_c hd (fun k hk => False.elim hk) lim hl disky_empty).mono ?_
    rintro e w' ⟨rfl, s, ho⟩
    have hf : found [] [] = ([] : List (List W.Rec)) := rfl
    rw [hf] at ho
    have hA : ∀ i, i < 256 → s.A i = [] := fun i hi => by rw [ho.files i hi]; unfold imgA; simp
    refine ⟨_, s, _, rfl, rfl, rfl, ⟨ho.aft.1, ?_, ?_, hA, fun i hi => by rw [ho.sure i hi, hA i hi]; rfl, ho.gs, ho.n, rfl⟩⟩
    · intro k q
      rcases q with (e | e) | e
      · omega
      · exact False.elim e
      · omega
    · refine hB.trans (ho.aft.2.below (fun k q => ?_) (by omega))
      rcases q with e | e
      · omega
      · exact False.elim e
  clear hl
  go_enter Try.func11, Try.ntmps11
  go_wp2_with fail
  refine Calls.mono HN.out ?_
  rintro e w1 ⟨rfl, hw⟩
  have HO' : Hid _ := HO.out w1 hw
  clear HO hw
  go_wp2_with fail
  refine Calls.mono HO'.out ?_
  rintro e w2 ⟨p, s, own, rfl, hb, hlim, hf⟩
  have HF : Hid _ := hf
  have HL : Hid _ := hlim
  have HB : Hid _ := hb
  clear hf hlim hb
  go_wp2
  go_ret3
  exact ⟨p, s, own, by rw [HB.out]; rfl, HL.out, HF.out⟩

theorem tot_nil {A : Nat → List UInt8} (h : ∀ i, i < 256 → A i = []) : tot A = 0 := by
  have : ∀ n, n ≤ 256 → totTo A n = 0 := by
    intro n
    induction n with
    | zero => intro _; rfl
    | succ n ih => intro hn; rw [totTo, ih (by omega), h n (by omega)]; rfl
  exact this 256 (by omega)

theorem wx_size (lim : Nat) (s : St) (ht : s.turn ≤ 1) (r : W.Rec) (hm : W.may r = true) : (wx lim s (W.recB r)).size ≤ 131136 := by
  have h1 := recB_size hm
  unfold wx
  split
  · rw [size_app, head_size10 _ ht]; omega
  · omega

theorem wr_tot (lim : Nat) (s : St) (x : ByteArray) (hc : cl lim s < 256) : tot (wr lim s x).A = tot s.A + (wx lim s x).size := by
  have e : (wr lim s x).A = upd s.A (cl lim s) (s.A (cl lim s) ++ (wx lim s x).data.toList) := by unfold wr; split <;> rfl
  rw [e]
  have := tot_upd s.A hc (s.A (cl lim s) ++ (wx lim s x).data.toList)
  rw [List.length_append, F.toL_length] at this
  omega

theorem wr_n (lim : Nat) (s : St) (x : ByteArray) : (wr lim s x).n = cl lim s + 1 := by unfold wr; split <;> rfl
theorem wr_turn (lim : Nat) (s : St) (x : ByteArray) : (wr lim s x).turn = s.turn := by unfold wr; split <;> rfl

/-- One append more, that is not refused. -/
theorem app_next {w : World} {p : Pl} {s : St} {own : Nat → Prop} (h : Lg w p s own) (r : W.Rec) (hc : W.chk s.gs r = 0) (hroom : tot s.A + 131136 ≤ p.room) (hn : s.n < 200) :
    Calls Try.prog 15 #[.pointer (some ⟨p.L, 0, none⟩), recV r] w fun e w' => e = .returned (.int .i64 0) ∧ Aft own w w' p (appd p.limit s r) := by
  have hcl := cl_le p.limit s
  exact Append_yes h r hc (by have := wx_size p.limit s h.tt r (chk_may hc); omega) (by omega)

theorem appd_tot (lim : Nat) (s : St) (r : W.Rec) (ht : s.turn ≤ 1) (hm : W.may r = true) (hn : s.n < 200) : tot (appd lim s r).A ≤ tot s.A + 131136 ∧ (appd lim s r).n ≤ s.n + 1 := by
  have hcl := cl_le lim s
  have h1 := wr_tot lim s (W.recB r) (by omega)
  have h2 := wx_size lim s ht r hm
  have h3 := wr_n lim s (W.recB r)
  refine ⟨?_, ?_⟩
  · show tot (wr lim s (W.recB r)).A ≤ _; omega
  · show (wr lim s (W.recB r)).n ≤ _; omega

def aw1 : W.Rec := ⟨0, 2, 2, 1, 0, ⟨#[]⟩⟩
def aw2 : W.Rec := ⟨0, 2, 1, 1, 0, ⟨#[120]⟩⟩
def aw3 : W.Rec := ⟨3, 1, 0, 4, 2, ⟨#[]⟩⟩

theorem aw_c1 : W.chk (fun _ => W.new) aw1 = 50 := by decide
theorem aw_c2 : W.chk (fun _ => W.new) aw2 = 0 := by decide
theorem aw_c3 : W.chk (W.doR (fun _ => W.new) aw2) aw3 = 0 := by simp [W.chk, W.may, W.mayK, W.mayHard, aw3, W.isGroup, W.ix, W.fits, ByteArray.toList_eq]
theorem aw_g0 : W.doR (W.doR (fun _ => W.new) aw2) aw3 0 = { W.new with ents := [(1, ⟨#[120]⟩)] } := by rfl
theorem aw_g3 : W.doR (W.doR (fun _ => W.new) aw2) aw3 3 = { W.new with term := 4, vote := 2 } := by rfl

set_option maxHeartbeats 1600000 in
set_option maxRecDepth 20000 in
theorem awake_c (w : World) : Calls Try.prog 8 #[] w fun e w' => e = .returned (.bool true) ∧ Below w.heap.size w w' := by
  have HB : Hid _ := begun_c 100 (by omega) w
  go_enter Try.func8, Try.ntmps8
  go_wp2_with fail
  refine Calls.mono HB.out ?_
  rintro e w1 ⟨p, s, own, rfl, hlim, hf⟩
  have hlg := hf.lg
  have hgs := hf.gs
  have htot := tot_nil hf.A
  have hn := hf.n
  have hroom := hf.room
  have H1 : Hid (Calls Try.prog 15 #[.pointer (some ⟨p.L, 0, none⟩), .agg #[.int .i64 0, .int .i64 2, .int .i64 2, .int .i64 1, .int .i64 0, .string ⟨#[]⟩]] w1 fun e w' => e = .returned (.int .i64 50) ∧ Below w1.heap.size w1 w') := by
    have := Append_no hlg aw1 (by rw [hgs, aw_c1]; decide)
    rw [hgs, aw_c1] at this
    exact this
  have H2 : Hid (∀ u, Below w1.heap.size w1 u → Calls Try.prog 15 #[.pointer (some ⟨p.L, 0, none⟩), .agg #[.int .i64 0, .int .i64 2, .int .i64 1, .int .i64 1, .int .i64 0, .string ⟨#[120]⟩]] u fun e w' => e = .returned (.int .i64 0) ∧ Aft own w1 w' p (appd p.limit s aw2)) := by
    intro u hu
    refine (app_next (hlg.below hu) aw2 (by rw [hgs]; exact aw_c2) (by omega) (by omega)).mono ?_
    rintro e w' ⟨rfl, h⟩
    exact ⟨rfl, Aft.from hu h⟩
  have hg1 : (appd p.limit s aw2).gs = W.doR (fun _ => W.new) aw2 := by rw [← hgs]; rfl
  have htt : (appd p.limit s aw2).turn = s.turn := wr_turn _ _ _
  have hb1 := appd_tot p.limit s aw2 hlg.tt (by decide) (by omega)
  have H3 : Hid (∀ u, Aft own w1 u p (appd p.limit s aw2) → Calls Try.prog 15 #[.pointer (some ⟨p.L, 0, none⟩), .agg #[.int .i64 3, .int .i64 1, .int .i64 0, .int .i64 4, .int .i64 2, .string ⟨#[]⟩]] u fun e w' => e = .returned (.int .i64 0) ∧ Aft own w1 w' p (appd p.limit (appd p.limit s aw2) aw3)) := by
    intro u hu
    refine (app_next hu.1 aw3 (by rw [hg1]; exact aw_c3) (by omega) (by omega)).mono ?_
    rintro e w' ⟨rfl, h⟩
    exact ⟨rfl, hu.trans h⟩
  have hg2 : (appd p.limit (appd p.limit s aw2) aw3).gs = W.doR (W.doR (fun _ => W.new) aw2) aw3 := by rw [← hg1]; rfl
  have H4 : Hid (∀ u, Aft own w1 u p (appd p.limit (appd p.limit s aw2) aw3) → Calls Try.prog 23 #[.pointer (some ⟨p.L, 0, none⟩), .int .i64 0] u fun e w' => ∃ pp c, e = .returned (.tuple #[.agg #[.int .i64 0, .int .i64 (-1), .int .i64 0, .int .i64 0, .string ⟨#[]⟩, .slice pp 1 c], .int .i64 0]) ∧ Below u.heap.size u w') := by
    intro u hu
    refine (Saved_c hu.1 0 (by omega)).mono ?_
    rintro e w' ⟨v', rfl, h1, h2, _⟩
    rw [hg2, aw_g0] at h1 ⊢
    obtain ⟨pp, c, hv, _⟩ := RowV.form h1
    exact ⟨pp, c, by rw [hv]; rfl, h2⟩
  have H5 : Hid (∀ u, Aft own w1 u p (appd p.limit (appd p.limit s aw2) aw3) → Calls Try.prog 23 #[.pointer (some ⟨p.L, 0, none⟩), .int .i64 3] u fun e w' => ∃ pp c, e = .returned (.tuple #[.agg #[.int .i64 4, .int .i64 2, .int .i64 0, .int .i64 0, .string ⟨#[]⟩, .slice pp 0 c], .int .i64 0]) ∧ Below u.heap.size u w') := by
    intro u hu
    refine (Saved_c hu.1 3 (by omega)).mono ?_
    rintro e w' ⟨v', rfl, h1, h2, _⟩
    rw [hg2, aw_g3] at h1 ⊢
    obtain ⟨pp, c, hv, _⟩ := RowV.form h1
    exact ⟨pp, c, by rw [hv]; rfl, h2⟩
  have HF : Hid (∀ u s', Aft own w1 u p s' → Below w.heap.size w u) := by
    intro u s' hu
    refine hf.old.trans (hu.2.below hf.mine ?_)
    exact hf.old.size
  have HQ : Hid (∀ u u', Aft own w1 u p (appd p.limit (appd p.limit s aw2) aw3) → Below u.heap.size u u' → Aft own w1 u' p (appd p.limit (appd p.limit s aw2) aw3)) := fun u u' h1 h2 => h1.trans (Aft.same h1.1 h2)
  obtain ⟨s1, hs1⟩ : ∃ s1, s1 = appd p.limit s aw2 := ⟨_, rfl⟩
  obtain ⟨s2, hs2⟩ : ∃ s2, s2 = appd p.limit (appd p.limit s aw2) aw3 := ⟨_, rfl⟩
  rw [← hs2] at H3 H4 H5 HQ
  rw [← hs1] at H2 H3
  obtain ⟨L, hL⟩ : ∃ L, L = p.L := ⟨_, rfl⟩
  obtain ⟨b, hb⟩ : ∃ b, b = p.b := ⟨_, rfl⟩
  rw [← hL] at H1 H2 H3 H4 H5 ⊢
  rw [← hb]
  clear hlg hgs htot hn hroom hf hg1 hg2 htt hb1 hs1 hs2 hL hb hlim HB
  go_wp2_with fail
  refine Calls.mono H1.out ?_
  rintro e w2 ⟨rfl, hb2⟩
  have H2' : Hid _ := H2.out w2 hb2
  clear hb2
  go_wp2_with fail
  refine Calls.mono H2'.out ?_
  rintro e w3 ⟨rfl, h3⟩
  have H3' : Hid _ := H3.out w3 h3
  clear h3
  go_wp2_with fail
  refine Calls.mono H3'.out ?_
  rintro e w4 ⟨rfl, h4⟩
  have H4' : Hid _ := H4.out w4 h4
  have HA4 : Hid _ := h4
  clear h4
  go_wp2_with fail
  refine Calls.mono H4'.out ?_
  rintro e w5 ⟨pp, c, rfl, hb5⟩
  have HA5 : Hid (Aft own w1 w5 p s2) := HQ.out _ _ HA4.out hb5
  clear hb5
  go_wp2_with fail
  obtain ⟨u, hu⟩ : ∃ u, u = w5.alloc (.cells #[.int .i64 0, .int .i64 (-1), .int .i64 0, .int .i64 0, .string ⟨#[]⟩, .slice pp 1 c] 45) := ⟨_, rfl⟩
  obtain ⟨bx, hbx⟩ : ∃ bx, bx = w5.heap.size := ⟨_, rfl⟩
  have HAu : Hid (Aft own w1 u p s2) := HQ.out _ _ HA5.out (by rw [hu]; exact below_alloc _ _)
  have hbu : bx < u.heap.size := by rw [hu, hbx]; simp
  have ub : ∀ j, u.cell? ⟨bx, j, none⟩ = (#[.int .i64 0, .int .i64 (-1), .int .i64 0, .int .i64 0, .string ⟨#[]⟩, .slice pp 1 c] : Array Value)[j]? := by intro j; rw [hu, hbx]; exact World.cell?_alloc_mark w5 _ _ _ j
  rw [← hu, ← hbx]
  clear hu hbx
  refine Calls.mono (H5.out u HAu.out) ?_
  rintro e w6 ⟨p2, c2, rfl, hb6⟩
  have y1 : w6.cell? ⟨bx, 1, none⟩ = some (.int .i64 (-1)) := (hb6.cell (p := ⟨bx, 1, none⟩) hbu).trans (ub 1)
  have y5 : w6.cell? ⟨bx, 5, none⟩ = some (.slice pp 1 c) := (hb6.cell (p := ⟨bx, 5, none⟩) hbu).trans (ub 5)
  have hb6' : bx < w6.heap.size := Nat.lt_of_lt_of_le hbu hb6.size
  have HA6 : Hid (Aft own w1 w6 p s2) := HQ.out _ _ HAu.out hb6
  clear hb6 ub hbu
  go_wp2
  go_ret
  exact ⟨rfl, (HF.out _ _ HA6.out).trans ((below_alloc _ _).mono (HF.out _ _ HA6.out).size)⟩

end Go.Proofs.Ytagcnhkodmjkgaa
