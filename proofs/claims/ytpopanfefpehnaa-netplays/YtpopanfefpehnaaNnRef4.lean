/-
  The document's net: Twice, Cut, New.
-/
import Derived.Test.YtpopanfefpehnaaNnRef3
namespace Go.Proofs.Ytpopanfefpehnaa
open Go.RowKit

/-- The boxes of Twice and Cut: the net, the net that is answered. -/
structure B2 (bn br : Nat) (most : Int) (v : Value) (X : World) : Prop where
  n0 : X.cell? ⟨bn, 0, none⟩ = some (.int .i64 most)
  n1 : X.cell? ⟨bn, 1, none⟩ = some v
  r0 : X.cell? ⟨br, 0, none⟩ = some (.int .i64 0)
  r1 : X.cell? ⟨br, 1, none⟩ = some (.slice none 0 0)
  fn : X.frozen? ⟨bn, 1, none⟩ = false
  fr : ∀ j, X.frozen? ⟨br, j, none⟩ = false

theorem B2.keep {X Y : World} {bn br : Nat} {most : Int} {v : Value} (h : B2 bn br most v X) (hn : Y.heap[bn]? = X.heap[bn]?) (hr : Y.heap[br]? = X.heap[br]?) : B2 bn br most v Y :=
  ⟨(World.cell?_of_block (a := ⟨bn, 0, none⟩) hn).trans h.n0, (World.cell?_of_block (a := ⟨bn, 1, none⟩) hn).trans h.n1, (World.cell?_of_block (a := ⟨br, 0, none⟩) hr).trans h.r0, (World.cell?_of_block (a := ⟨br, 1, none⟩) hr).trans h.r1,
    (World.frozen?_of_block (a := ⟨bn, 1, none⟩) hn).trans h.fn, fun j => (World.frozen?_of_block (a := ⟨br, j, none⟩) hr).trans (h.fr j)⟩
theorem B2.below {X Y : World} {bn br : Nat} {most : Int} {v : Value} (h : B2 bn br most v X) (hb : Below X.heap.size X Y) : B2 bn br most v Y :=
  h.keep (hb.block bn (World.block_lt_of_cell? _ _ h.n0)) (hb.block br (World.block_lt_of_cell? _ _ h.r0))

theorem B2.start (w : World) (most : Int) (v : Value) : B2 w.heap.size (w.heap.size + 1) most v ((w.alloc (.cells #[.int .i64 most, v] 29)).alloc (.cells #[.int .i64 0, .slice none 0 0] 29)) := by
  obtain ⟨A, hA⟩ : ∃ A, A = w.alloc (.cells #[.int .i64 most, v] 29) := ⟨_, rfl⟩
  have sA : A.heap.size = w.heap.size + 1 := by rw [hA]; simp
  have en : ∀ j, A.cell? ⟨w.heap.size, j, none⟩ = (#[.int .i64 most, v] : Array Value)[j]? := fun j => by rw [hA]; exact World.cell?_alloc_mark w _ _ _ j
  have fn : ∀ j, A.frozen? ⟨w.heap.size, j, none⟩ = false := fun j => by rw [hA, World.frozen?_alloc_mark]; simp
  rw [← hA]
  have bA := below_alloc A (.cells #[.int .i64 0, .slice none 0 0] 29)
  have er : ∀ j, (A.alloc (.cells #[.int .i64 0, .slice none 0 0] 29)).cell? ⟨w.heap.size + 1, j, none⟩ = (#[.int .i64 0, .slice none 0 0] : Array Value)[j]? := fun j => by
    have e := World.cell?_alloc_mark A #[.int .i64 0, .slice none 0 0] 29 (0, 0) j
    rw [sA] at e
    exact e
  have fr : ∀ j, (A.alloc (.cells #[.int .i64 0, .slice none 0 0] 29)).frozen? ⟨w.heap.size + 1, j, none⟩ = false := fun j => by
    have e := World.frozen?_alloc_mark A #[.int .i64 0, .slice none 0 0] 29 0 0 j
    rw [sA] at e
    rw [e]
    simp
  exact ⟨(bA.cell (p := ⟨w.heap.size, 0, none⟩) (by show w.heap.size < _; omega)).trans (en 0), (bA.cell (p := ⟨w.heap.size, 1, none⟩) (by show w.heap.size < _; omega)).trans (en 1), er 0, er 1, (bA.frozen (p := ⟨w.heap.size, 1, none⟩) (by show w.heap.size < _; omega)).trans (fn 1), fr⟩

/-- The answer stored. -/
def fin2 (X : World) (br : Nat) (a b : Value) : World := (X.setCell ⟨br, 0, none⟩ a).setCell ⟨br, 1, none⟩ b
theorem fin2_cells {X : World} {br : Nat} {x0 x1 : Value} (h0 : X.cell? ⟨br, 0, none⟩ = some x0) (h1 : X.cell? ⟨br, 1, none⟩ = some x1) (a b : Value) : (fin2 X br a b).cell? ⟨br, 0, none⟩ = some a ∧ (fin2 X br a b).cell? ⟨br, 1, none⟩ = some b := by
  unfold fin2
  have k1 : (X.setCell ⟨br, 0, none⟩ a).cell? ⟨br, 1, none⟩ = some x1 := by rw [cell_set6 _ h0, if_neg (by omega)]; exact h1
  exact ⟨by rw [cell_set6 _ k1, if_neg (by omega), cell_set6 _ h0, if_pos rfl], by rw [cell_set6 _ k1, if_pos rfl]⟩
theorem fin2_below {w X : World} {br : Nat} (hb : Below w.heap.size w X) (h1 : w.heap.size ≤ br) (a b : Value) : Below w.heap.size w (fin2 X br a b) := (hb.setCell (p := ⟨br, 0, none⟩) h1 _).setCell (p := ⟨br, 1, none⟩) h1 _
theorem fin2_other {X : World} {br k : Nat} (h1 : k ≠ br) (a b : Value) : (fin2 X br a b).heap[k]? = X.heap[k]? := by
  unfold fin2
  rw [Below.heap_setCell _ _ _ _ h1, Below.heap_setCell _ _ _ _ h1]

section
variable {w : World} {v : Value} {ls : List Q.Lt}

theorem rNew_bad (most : Int) (h : most < 1 ∨ most > 4096) (w : World) : Calls Try.prog 10 #[.int .i64 most] w fun e w' => e = .returned (.tuple #[.agg #[.int .i64 0, .slice none 0 0], .int .i64 1]) ∧ Below w.heap.size w w' := by
  have HB : Hid (∀ o, Below w.heap.size w (w.alloc o)) := fun o => below_alloc w o
  by_cases h1 : most < 1
  · clear h
    go_enter Try.func10, Try.ntmps10
    go_wp2
    exact bodyPost_ret (v := .tuple #[.agg #[.int .i64 0, .slice none 0 0], .int .i64 1]) (by simp [results, Try.results10, go_sem]) rfl ⟨rfl, HB.out _⟩
  · have h2 : most > 4096 := by omega
    clear h
    go_enter Try.func10, Try.ntmps10
    go_wp2
    exact bodyPost_ret (v := .tuple #[.agg #[.int .i64 0, .slice none 0 0], .int .i64 1]) (by simp [results, Try.results10, go_sem]) rfl ⟨rfl, HB.out _⟩
theorem rNew_yes (most : Int) (h : 1 ≤ most ∧ most ≤ 4096) (w : World) : Calls Try.prog 10 #[.int .i64 most] w fun e w' => e = .returned (.tuple #[.agg #[.int .i64 most, .slice none 0 0], .int .i64 0]) ∧ Below w.heap.size w w' := by
  have HB : Hid (∀ o, Below w.heap.size w (w.alloc o)) := fun o => below_alloc w o
  have h1 : ¬ most < 1 := by omega
  have h2 : ¬ most > 4096 := by omega
  clear h
  go_enter Try.func10, Try.ntmps10
  go_wp2
  exact bodyPost_ret (v := .tuple #[.agg #[.int .i64 most, .slice none 0 0], .int .i64 0]) (by simp [results, Try.results10, go_sem]) rfl ⟨rfl, HB.out _⟩

set_option maxHeartbeats 1600000 in
theorem rTwice_c (h : Ls w v ls) (hn : ls.length ≤ 1099511627775) (most k : Int) (hsz : ∀ l ∈ ls, Q.LtOk l) : Calls Try.prog 33 #[.agg #[.int .i64 most, v], .int .i64 k] w fun e w' => ∃ v', e = .returned (.tuple #[.agg #[.int .i64 most, v'], .bool (twB ⟨most, ls⟩ k)]) ∧ ROut w v w' v' (twS ⟨most, ls⟩ k).ls := by
  obtain ⟨u, hu⟩ : ∃ u, u = (w.alloc (.cells #[.int .i64 most, v] 29)).alloc (.cells #[.int .i64 0, .slice none 0 0] 29) := ⟨_, rfl⟩
  have hbu : Below w.heap.size w u := by rw [hu]; exact (below_alloc _ _).trans ((below_alloc _ _).mono (by simp))
  have hB2 : B2 w.heap.size (w.heap.size + 1) most v u := by rw [hu]; exact B2.start w most v
  obtain ⟨bn, hbn⟩ : ∃ bn, bn = w.heap.size := ⟨_, rfl⟩
  obtain ⟨br, hbr⟩ : ∃ br, br = w.heap.size + 1 := ⟨_, rfl⟩
  rw [← hbr, ← hbn] at hB2
  have hPl := rplace_c (h.below hbu) (by omega) most k
  obtain ⟨p, c, hv, hc1, hc2⟩ := RowC.form h
  obtain ⟨m, hm⟩ : ∃ m, m = ls.length := ⟨_, rfl⟩
  rw [← hm] at hv hc1 hn
  have hLs := h
  rw [hv] at hB2 hPl hLs
  have HX : Hid (∀ X, Below u.heap.size u X → B2 bn br most (.slice p m c) X ∧ Below w.heap.size w X ∧ Ls X (.slice p m c) ls) := fun X hX => ⟨hB2.below hX, hbu.trans (hX.mono hbu.size), hLs.below (hbu.trans (hX.mono hbu.size))⟩
  have HEq : Hid (bn = w.heap.size ∧ br = w.heap.size + 1 ∧ u = (w.alloc (.cells #[.int .i64 most, .slice p m c] 29)).alloc (.cells #[.int .i64 0, .slice none 0 0] 29)) := ⟨hbn, hbr, by rw [← hv]; exact hu⟩
  have HLs : Hid (Ls w (.slice p m c) ls) := hLs
  rw [hv]
  cases hl : ls[Q.place k ls.length]? with
  | none =>
    have h0 : ls.length = 0 := by
      cases hs : ls with
      | nil => rfl
      | cons x xs =>
        exfalso
        have := Q.place_lt k (n := ls.length) (by rw [hs]; simp)
        rw [List.getElem?_eq_getElem this] at hl
        cases hl
    rw [if_pos h0] at hPl
    have HT : Hid (twB ⟨most, ls⟩ k = false ∧ (twS ⟨most, ls⟩ k).ls = ls) := by unfold twB twS; dsimp only; rw [hl]; exact ⟨rfl, rfl⟩
    have HP : Hid (Calls Try.prog 69 #[.agg #[.int .i64 most, .slice p m c], .int .i64 k] u fun e w' => e = .returned (.int .i64 (-1)) ∧ Below u.heap.size u w') := hPl
    clear h hu hbu hB2 hbn hbr hPl hc1 hc2 hm hv hLs hl h0 hsz
    go_enter Try.func33, Try.ntmps33
    go_wp2_with fail
    rw [← HEq.out.2.2, ← HEq.out.2.1, ← HEq.out.1]
    refine Calls.mono HP.out ?_
    rintro e X ⟨rfl, hb⟩
    obtain ⟨hx, hbX, _⟩ := HX.out X hb
    have HBX : Hid (Below w.heap.size w X) := hbX
    obtain ⟨n0, n1, r0, r1, fn, fr⟩ := hx
    have f0 := fr 0
    have f1 := fr 1
    have HNe : Hid (w.heap.size ≤ br) := by have := HEq.out; show _ ≤ _; omega
    clear hb hbX fr
    go_wp2
    obtain ⟨x0, x1⟩ := fin2_cells r0 r1 (.int .i64 most) (.slice p m c)
    have HF : Hid (Below w.heap.size w (fin2 X br (.int .i64 most) (.slice p m c))) := fin2_below HBX.out HNe.out _ _
    obtain ⟨F, hF⟩ : ∃ F, F = fin2 X br (.int .i64 most) (.slice p m c) := ⟨_, rfl⟩
    rw [← hF] at x0 x1 HF
    unfold fin2 at hF
    rw [← hF]
    clear hF
    refine bodyPost_ret (v := .tuple #[.agg #[.int .i64 most, .slice p m c], .bool false]) ?qres rfl ?qpost
    case qres => simp [results, Try.results33, go_sem, x0, x1]
    case qpost => exact ⟨_, by rw [HT.out.1], by rw [HT.out.2]; exact ROut.same HLs.out HF.out⟩
  | some l =>
    have hat := (List.getElem?_eq_some_iff.1 hl).1
    rw [if_neg (by omega)] at hPl
    have hok := hsz l (List.mem_of_getElem? hl)
    have hpe : Q.putE ⟨most, ls⟩ l = if (Q.cnt ls l.fr l.tt : Int) ≥ most then 2 else 0 := by
      unfold Q.putE
      have := hok.1
      have := hok.2.1
      have := hok.2.2
      rw [if_neg (by omega), if_neg (by omega)]
    have hT : (twB ⟨most, ls⟩ k = (Q.putE ⟨most, ls⟩ l == 0)) ∧ (twS ⟨most, ls⟩ k).ls = (Q.put ⟨most, ls⟩ l).ls := by
      unfold twB twS Q.put
      dsimp only
      rw [hl, hpe]
      dsimp only
      by_cases q : (Q.cnt ls l.fr l.tt : Int) ≥ most
      · rw [if_pos q, if_pos q]
        simp [q]
      · rw [if_neg q, if_neg q]
        simp [q]
    have HT : Hid ((twB ⟨most, ls⟩ k = (Q.putE ⟨most, ls⟩ l == 0)) ∧ (twS ⟨most, ls⟩ k).ls = (Q.put ⟨most, ls⟩ l).ls) := hT
    obtain ⟨at_, hat_⟩ : ∃ a, a = Q.place k ls.length := ⟨_, rfl⟩
    rw [← hat_] at hPl hl hat
    have HL : Hid (ls[at_]? = some l) := hl
    have HP : Hid (Calls Try.prog 69 #[.agg #[.int .i64 most, .slice p m c], .int .i64 k] u fun e w' => e = .returned (.int .i64 (at_ : Int)) ∧ Below u.heap.size u w') := hPl
    have HPut : Hid (∀ X, Ls X (.slice p m c) ls → Calls Try.prog 31 #[.agg #[.int .i64 most, .slice p m c], .agg #[.int .i64 l.fr, .int .i64 l.tt, .string l.tx]] X fun e w' => ∃ v', e = .returned (.tuple #[.agg #[.int .i64 most, v'], .int .i64 (Q.putE ⟨most, ls⟩ l)]) ∧ ROut X (.slice p m c) w' v' (Q.put ⟨most, ls⟩ l).ls) := fun X hX => rPut_c hX (by omega) most l (by have := hok.2.2; omega)
    have HM : Hid (m = ls.length) := hm
    have ha0 : (0 : Int) ≤ (at_ : Int) := Int.natCast_nonneg _
    have ha1 : ¬ (at_ : Int) < 0 := by omega
    have hatn : at_ < m := by omega
    have ham : (at_ : Int) < (m : Int) := by omega
    clear h hu hbu hB2 hbn hbr hPl hc1 hc2 hm hv hLs hl hat hat_ hok hpe hn hT
    go_enter Try.func33, Try.ntmps33
    go_wp2_with fail
    rw [← HEq.out.2.2, ← HEq.out.2.1, ← HEq.out.1]
    refine Calls.mono HP.out ?_
    rintro e X ⟨rfl, hb⟩
    obtain ⟨hx, hbX, hlX⟩ := HX.out X hb
    have HBX : Hid (Below w.heap.size w X) := hbX
    have HB2 : Hid (B2 bn br most (.slice p m c) X) := hx
    have HLX : Hid (Ls X (.slice p m c) ls) := hlX
    obtain ⟨n0, n1, r0, r1, fn, fr⟩ := hx
    obtain ⟨g, off, c', hv', y0, y1, y2⟩ := hlX.at HL.out
    injection hv' with e1 e2 e3
    subst e1
    obtain ⟨lf, lt, lx⟩ := l
    dsimp only at y0 y1 y2 HPut
    obtain ⟨E, hE⟩ : ∃ E, E = Q.putE ⟨most, ls⟩ ⟨lf, lt, lx⟩ := ⟨_, rfl⟩
    rw [← hE] at HT HPut
    have hbd : Below X.heap.size X X.drew := (Below.refl _ _).drew
    have hba : ∀ o, Below X.heap.size X (X.drew.alloc o) := fun o => hbd.alloc (Nat.le_refl _) o
    have hbc : ∀ o, Below X.heap.size X (X.alloc o).drew := fun o => (below_alloc X o).drew
    have hlb : bn < X.heap.size := World.block_lt_of_cell? _ _ n0
    have hlg : g < X.heap.size := World.block_lt_of_cell? _ _ y0
    have HK : Hid (∀ Z, Below X.heap.size X Z → Z.cell? ⟨bn, 0, none⟩ = some (.int .i64 most) ∧ Z.cell? ⟨bn, 1, none⟩ = some (.slice (some ⟨g, off, none⟩) m c) ∧ Z.cell? ⟨g, off + at_ * 3, none⟩ = some (.int .i64 lf) ∧ Z.cell? ⟨g, off + at_ * 3 + 1, none⟩ = some (.int .i64 lt) ∧ Z.cell? ⟨g, off + at_ * 3 + 2, none⟩ = some (.string lx)) := fun Z hZ =>
      ⟨(hZ.cell (p := ⟨bn, 0, none⟩) hlb).trans n0, (hZ.cell (p := ⟨bn, 1, none⟩) hlb).trans n1, (hZ.cell (p := ⟨g, _, none⟩) hlg).trans y0, (hZ.cell (p := ⟨g, _, none⟩) hlg).trans y1, (hZ.cell (p := ⟨g, _, none⟩) hlg).trans y2⟩
    have HPx : Hid (∀ Z, Below X.heap.size X Z → Calls Try.prog 31 #[.agg #[.int .i64 most, .slice (some ⟨g, off, none⟩) m c], .agg #[.int .i64 lf, .int .i64 lt, .string lx]] Z fun e w' => ∃ p' m' c', e = .returned (.tuple #[.agg #[.int .i64 most, .slice p' m' c'], .int .i64 E]) ∧ ROut Z (.slice (some ⟨g, off, none⟩) m c) w' (.slice p' m' c') (Q.put ⟨most, ls⟩ ⟨lf, lt, lx⟩).ls ∧ Below X.heap.size X w' ∧ (∀ j u, Z.cell? ⟨X.heap.size, j, none⟩ = some u → Z.frozen? ⟨X.heap.size, j, none⟩ = false → w'.cell? ⟨X.heap.size, j, none⟩ = some u ∧ w'.frozen? ⟨X.heap.size, j, none⟩ = false)) := fun Z hZ => by
      refine (HPut.out Z (HLX.out.below hZ)).mono ?_
      rintro e w' ⟨v', rfl, hr⟩
      obtain ⟨p', c', hv', _⟩ := RowC.form hr.1
      rw [hv'] at hr ⊢
      exact ⟨p', _, c', rfl, hr, hZ.trans (hr.2.1.mono hZ.size), fun j u hu hf => ⟨(hr.2.1.cell (World.block_lt_of_cell? _ _ hu)).trans hu, (hr.2.1.frozen (World.block_lt_of_cell? _ _ hu)).trans hf⟩⟩
    have hbox : ∀ j u, (#[.int .i64 0, .slice none 0 0] : Array Value)[j]? = some u → (X.alloc (.cells #[.int .i64 0, .slice none 0 0] 29)).drew.cell? ⟨X.heap.size, j, none⟩ = some u ∧ (X.alloc (.cells #[.int .i64 0, .slice none 0 0] 29)).drew.frozen? ⟨X.heap.size, j, none⟩ = false := fun j u hu => ⟨by rw [cell_drew, World.cell?_alloc_mark]; exact hu, by show (X.alloc _).frozen? _ = false; rw [World.frozen?_alloc_mark]; simp⟩
    have HBox : Hid _ := hbox
    have HGb : Hid (¬ br = g) := fun e => by
      have hgw : cBlk (.slice (some ⟨g, off, none⟩) m c) = some g := by
        cases c with
        | zero => simp at e3
        | succ c => rfl
      have hlt : g < w.heap.size := RowC.lt HLs.out (by omega) hgw
      have q := HEq.out
      omega
    clear hb hbX hlX fr e2 e3 hE hbox
    go_wp2
    go_region_held (fun Z => Z.cell? ⟨bn, 0, none⟩ = some (.int .i64 most) ∧ Z.cell? ⟨bn, 1, none⟩ = some (.slice (some ⟨g, off, none⟩) m c) ∧ Z.cell? ⟨g, off + at_ * 3, none⟩ = some (.int .i64 lf) ∧ Z.cell? ⟨g, off + at_ * 3 + 1, none⟩ = some (.int .i64 lt) ∧ Z.cell? ⟨g, off + at_ * 3 + 2, none⟩ = some (.string lx))
      (first | with_reducible exact HK.out _ hbd | with_reducible exact HK.out _ (hba _) | with_reducible exact HK.out _ (hbc _) | exact HK.out _ (by assumption) | exact HK.out _ (Below.alloc (by assumption) (Below.size (by assumption)) _) | exact HK.out _ (Below.setCell (p := ⟨X.heap.size, 1, none⟩) (Below.setCell (p := ⟨X.heap.size, 0, none⟩) (by assumption) (Nat.le_refl _) _) (Nat.le_refl _) _))
      (first | (go_at_call 31; refine (HPx.out _ ?_).mono ?_; (first | with_reducible exact hbd | with_reducible exact hba _ | with_reducible exact hbc _); rintro e Y ⟨p', m', c'', rfl, hro, hbY, hkp⟩; (try (have hq0 := hkp 0 _ (HBox.out 0 _ rfl).1 (HBox.out 0 _ rfl).2; have hq1 := hkp 1 _ (HBox.out 1 _ rfl).1 (HBox.out 1 _ rfl).2; obtain ⟨hq0, hf0⟩ := hq0; obtain ⟨hq1, hf1⟩ := hq1)); have HKp : Hid _ := hkp; clear hkp))
    · have hW : B2 bn br most (.slice (some ⟨g, off, none⟩) m c) (Y.alloc (.cells #[.int .i64 most, .slice p' m' c''] 29)) ∧ Below w.heap.size w (Y.alloc (.cells #[.int .i64 most, .slice p' m' c''] 29)) ∧ Ls (Y.alloc (.cells #[.int .i64 most, .slice p' m' c''] 29)) (.slice p' m' c'') (Q.put ⟨most, ls⟩ ⟨lf, lt, lx⟩).ls := by
        have q : Below X.heap.size X (Y.alloc (.cells #[.int .i64 most, .slice p' m' c''] 29)) := hbY.trans ((below_alloc Y _).mono hbY.size)
        exact ⟨HB2.out.below q, HBX.out.trans (q.mono HBX.out.size), hro.1.below (below_alloc Y _)⟩
      have hb0 : (Y.alloc (.cells #[.int .i64 most, .slice p' m' c''] 29)).cell? ⟨Y.heap.size, 0, none⟩ = some (.int .i64 most) := World.cell?_alloc_mark Y _ _ _ 0
      have hb1 : (Y.alloc (.cells #[.int .i64 most, .slice p' m' c''] 29)).cell? ⟨Y.heap.size, 1, none⟩ = some (.slice p' m' c'') := World.cell?_alloc_mark Y _ _ _ 1
      have hvk := hro.2.2
      have hvk2 : ∀ k, cBlk (.slice p' m' c'') = some k → cBlk (.slice (some ⟨g, off, none⟩) m c) = some k ∨ (w.heap.size ≤ k ∧ k ≠ br) := fun k hk => by
        rcases hvk k hk with q | q
        · exact .inl q
        · have q : X.heap.size ≤ k := q
          have hr := World.block_lt_of_cell? _ _ r0
          have hr : br < X.heap.size := hr
          have := HBX.out.size
          exact .inr ⟨by omega, by omega⟩
      generalize Y.alloc (.cells #[.int .i64 most, .slice p' m' c''] 29) = W at hW hb0 hb1 ⊢
      generalize Y.heap.size = bt at hb0 hb1 ⊢
      obtain ⟨hW2, hWb, hWl⟩ := hW
      have HNe : Hid (w.heap.size ≤ br ∧ br ≠ g) := by
        have q := HEq.out
        exact ⟨by omega, fun e => HGb.out e⟩
      have HG2 : Hid (∀ k, cBlk (.slice p' m' c'') = some k → k ≠ br) := fun k hk => by
        rcases hvk2 k hk with q | q
        · have : k = g := by
            cases c with
            | zero => simp [cBlk] at q
            | succ c => simp [cBlk] at q; exact q.symm
          rw [this]
          exact HNe.out.2.symm
        · exact q.2
      have k0 := hW2.r0
      have k1 := hW2.r1
      have g0 := hW2.fr 0
      have g1 := hW2.fr 1
      have HOut : Hid (ROut w (.slice (some ⟨g, off, none⟩) m c) (fin2 W br (.int .i64 most) (.slice p' m' c'')) (.slice p' m' c'') (Q.put ⟨most, ls⟩ ⟨lf, lt, lx⟩).ls) :=
        ⟨RowC.carry hWl (fun k hk => fin2_other (HG2.out k hk) _ _), fin2_below hWb HNe.out.1 _ _, fun k hk => by
          rcases hvk2 k hk with q | q
          · exact .inl q
          · exact .inr q.1⟩
      obtain ⟨x0, x1⟩ := fin2_cells k0 k1 (.int .i64 most) (.slice p' m' c'')
      obtain ⟨F, hF⟩ : ∃ F, F = fin2 W br (.int .i64 most) (.slice p' m' c'') := ⟨_, rfl⟩
      rw [← hF] at x0 x1 HOut
      unfold fin2 at hF
      clear hvk2 hW2 hWb hWl hro hbY n0 n1 r0 r1 fn y0 y1 y2
      go_wp2
      rw [← hF]
      clear hF
      refine bodyPost_ret (v := .tuple #[.agg #[.int .i64 most, .slice p' m' c''], .bool (E == 0)]) ?qres rfl ?qpost
      case qres => simp [results, Try.results33, go_sem, x0, x1]
      case qpost => exact ⟨_, by rw [HT.out.1], by rw [HT.out.2]; exact HOut.out⟩
    · have hY1 : (Y.setCell ⟨X.heap.size, 0, none⟩ (.int .i64 most)).cell? ⟨X.heap.size, 1, none⟩ = some (.slice none 0 0) := by rw [cell_set6 _ hq0, if_neg (by omega)]; exact hq1
      have hvk : ∀ k, cBlk (.slice p' m' c'') = some k → cBlk (.slice (some ⟨g, off, none⟩) m c) = some k ∨ X.heap.size + 1 ≤ k := fun k hk => by
        rcases hro.2.2 k hk with q | q
        · exact .inl q
        · exact .inr (by have q' : (X.alloc (.cells #[.int .i64 0, .slice none 0 0] 29)).heap.size ≤ k := q; simpa using q')
      have hW : B2 bn br most (.slice (some ⟨g, off, none⟩) m c) ((Y.setCell ⟨X.heap.size, 0, none⟩ (.int .i64 most)).setCell ⟨X.heap.size, 1, none⟩ (.slice p' m' c'')) ∧ Below w.heap.size w ((Y.setCell ⟨X.heap.size, 0, none⟩ (.int .i64 most)).setCell ⟨X.heap.size, 1, none⟩ (.slice p' m' c'')) ∧ Ls ((Y.setCell ⟨X.heap.size, 0, none⟩ (.int .i64 most)).setCell ⟨X.heap.size, 1, none⟩ (.slice p' m' c'')) (.slice p' m' c'') (Q.put ⟨most, ls⟩ ⟨lf, lt, lx⟩).ls := by
        have q : Below X.heap.size X ((Y.setCell ⟨X.heap.size, 0, none⟩ (.int .i64 most)).setCell ⟨X.heap.size, 1, none⟩ (.slice p' m' c'')) := (hbY.setCell (p := ⟨X.heap.size, 0, none⟩) (Nat.le_refl _) _).setCell (p := ⟨X.heap.size, 1, none⟩) (Nat.le_refl _) _
        refine ⟨HB2.out.below q, HBX.out.trans (q.mono HBX.out.size), RowC.carry hro.1 (fun k hk => ?_)⟩
        have hkx : k ≠ X.heap.size := by
          rcases hvk k hk with q | q
          · have hc : cBlk (.slice (some ⟨g, off, none⟩) m c) = some k := q
            have : k = g := by
              cases c with
              | zero => simp [cBlk] at hc
              | succ c => simp [cBlk] at hc; exact hc.symm
            omega
          · omega
        rw [Below.heap_setCell _ _ _ _ hkx, Below.heap_setCell _ _ _ _ hkx]
      have hb0 : ((Y.setCell ⟨X.heap.size, 0, none⟩ (.int .i64 most)).setCell ⟨X.heap.size, 1, none⟩ (.slice p' m' c'')).cell? ⟨X.heap.size, 0, none⟩ = some (.int .i64 most) := by rw [cell_set6 _ hY1, if_neg (by omega), cell_set6 _ hq0, if_pos rfl]
      have hb1 : ((Y.setCell ⟨X.heap.size, 0, none⟩ (.int .i64 most)).setCell ⟨X.heap.size, 1, none⟩ (.slice p' m' c'')).cell? ⟨X.heap.size, 1, none⟩ = some (.slice p' m' c'') := by rw [cell_set6 _ hY1, if_pos rfl]
      have hvk2 : ∀ k, cBlk (.slice p' m' c'') = some k → cBlk (.slice (some ⟨g, off, none⟩) m c) = some k ∨ (w.heap.size ≤ k ∧ k ≠ br) := fun k hk => by
        rcases hvk k hk with q | q
        · exact .inl q
        · have hr := World.block_lt_of_cell? _ _ r0
          have hr : br < X.heap.size := hr
          have := HBX.out.size
          exact .inr ⟨by omega, by omega⟩
      generalize (Y.setCell ⟨X.heap.size, 0, none⟩ (.int .i64 most)).setCell ⟨X.heap.size, 1, none⟩ (.slice p' m' c'') = W at hW hb0 hb1 ⊢
      clear hY1 hq0 hq1 hf0 hf1
      generalize X.heap.size = bt at hb0 hb1 ⊢
      obtain ⟨hW2, hWb, hWl⟩ := hW
      have HNe : Hid (w.heap.size ≤ br ∧ br ≠ g) := by
        have q := HEq.out
        exact ⟨by omega, fun e => HGb.out e⟩
      have HG2 : Hid (∀ k, cBlk (.slice p' m' c'') = some k → k ≠ br) := fun k hk => by
        rcases hvk2 k hk with q | q
        · have : k = g := by
            cases c with
            | zero => simp [cBlk] at q
            | succ c => simp [cBlk] at q; exact q.symm
          rw [this]
          exact HNe.out.2.symm
        · exact q.2
      have k0 := hW2.r0
      have k1 := hW2.r1
      have g0 := hW2.fr 0
      have g1 := hW2.fr 1
      have HOut : Hid (ROut w (.slice (some ⟨g, off, none⟩) m c) (fin2 W br (.int .i64 most) (.slice p' m' c'')) (.slice p' m' c'') (Q.put ⟨most, ls⟩ ⟨lf, lt, lx⟩).ls) :=
        ⟨RowC.carry hWl (fun k hk => fin2_other (HG2.out k hk) _ _), fin2_below hWb HNe.out.1 _ _, fun k hk => by
          rcases hvk2 k hk with q | q
          · exact .inl q
          · exact .inr q.1⟩
      obtain ⟨x0, x1⟩ := fin2_cells k0 k1 (.int .i64 most) (.slice p' m' c'')
      obtain ⟨F, hF⟩ : ∃ F, F = fin2 W br (.int .i64 most) (.slice p' m' c'') := ⟨_, rfl⟩
      rw [← hF] at x0 x1 HOut
      unfold fin2 at hF
      clear hvk2 hW2 hWb hWl hro hbY n0 n1 r0 r1 fn y0 y1 y2
      go_wp2
      rw [← hF]
      clear hF
      refine bodyPost_ret (v := .tuple #[.agg #[.int .i64 most, .slice p' m' c''], .bool (E == 0)]) ?qres rfl ?qpost
      case qres => simp [results, Try.results33, go_sem, x0, x1]
      case qpost => exact ⟨_, by rw [HT.out.1], by rw [HT.out.2]; exact HOut.out⟩

end
end Go.Proofs.Ytpopanfefpehnaa
