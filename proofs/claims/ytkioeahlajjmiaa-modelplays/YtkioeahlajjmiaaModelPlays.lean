/-
  For every script: ModelPlays answers true: whatever is done, a model answers, and is, what the document says; copies go their own way; the argument reads afterwards as before. No condition.
-/
import Derived.Test.YtkioeahlajjmiaaMpG
import Derived.Test.YtkioeahlajjmiaaMoArgs
import Derived.ProofKit
import Derived.OpenShut
import Derived.ShutString
import Derived.SizedLaws
namespace Go.Proofs.Ytkioeahlajjmiaa.modelPlays
open Go.ChangeShapes Go.WideShapes Go.ChangeAt Go.RowKit
open Go.ChangeMaps (open_string shut_string)

theorem sz63 {o : Mo.Op} (h : OpOk o) : Sz63 o := by
  obtain ⟨h1, h2, h3, h4, h5, h6⟩ := h
  unfold Ok maxLen at *
  exact ⟨by omega, by omega, by omega, by omega, by omega, by omega⟩
theorem start_c (w : World) : Calls Try.prog 9 #[] w fun e Y => ∃ who, e = .returned (.pointer (some ⟨w.heap.size + 2, 0, none⟩)) ∧ Md Y (w.heap.size + 2) Mo.new who 0 ∧ Below w.heap.size w Y ∧ ∀ k, who k ≠ 0 → w.heap.size ≤ k := by
  refine (New_fresh (w := w) w (Below.refl _ w)).mono ?_
  rintro e Y ⟨rfl, ⟨who, h1, h2, h3, _⟩, _⟩
  exact ⟨who, rfl, h1, h2, h3⟩
/-- The start. -/
theorem Pst.start {w Y : World} {B : Nat} {who : Nat → Nat} (h : Md Y B Mo.new who 0) (hb : Below w.heap.size w Y) (hl : ∀ k, who k ≠ 0 → w.heap.size ≤ k) {b4 b6 : Nat} {X1 X2 : World} (h4 : b4 = Y.heap.size) (h6 : b6 = X1.heap.size) (hX1 : X1 = Y.alloc (.cells #[.slice none 0 0, .slice none 0 0] 54)) (hX2 : X2 = X1.alloc (.cells #[.slice none 0 0, .slice none 0 0] 54)) : Pst w X2 B b4 b6 0 (.pointer none) := by
  have b1 : Below Y.heap.size Y X1 := by rw [hX1]; exact below_alloc _ _
  have b2 : Below X1.heap.size X1 X2 := by rw [hX2]; exact below_alloc _ _
  have s1 : X1.heap.size = Y.heap.size + 1 := by rw [hX1]; simp
  have q4 : Bq b4 (.slice none 0 0) (.slice none 0 0) X1 := by rw [h4, hX1]; exact Bq.start _ _ _ _
  have q6 : Bq b6 (.slice none 0 0) (.slice none 0 0) X2 := by rw [h6, hX2]; exact Bq.start _ _ _ _
  have b12 := b1.trans (b2.mono b1.size)
  have hz : ∀ g, Y.heap.size ≤ g → who g = 0 := fun g hg => by
    by_cases e : who g = 0
    · exact e
    · have := h.here g e; omega
  have hbs := hb.size
  refine ⟨who, Mo.new, ⟨[], []⟩, _, _, _, _, ⟨h.below b12, hb.trans (b12.mono hbs), hl, q4.below b2, q6, by omega, hz b4 (by omega), hz b6 (by omega), by omega, by omega, .inl rfl⟩, ⟨none, 0, none, 0, [], rfl, rfl, ⟨RowC.nil _ _ _, RowC.nil _ _ _, fun p hp => (nomatch hp), fun g hg => by simp [cBlk] at hg, fun g hg => by simp [cBlk] at hg, fun p hp => (nomatch hp)⟩⟩, Mp.Rel.new, Lb.nil, Sz.nil⟩
/-- What the document's Do leaves beside what was there: its lists lie in old blocks or in ones of the call's. -/
def Lc (S : Nat → Prop) (a b : Nat) (g : Nat) : Prop := S g ∧ (g < a ∨ b ≤ g)
theorem do_c {w C X : World} {B : Nat} {s : Mo.St} {who : Nat → Nat} {n b4 b6 : Nat} {l0 l1 o0 o1 cv : Value} {q : Mp.Dm} (hC : Core w C B s who n b4 b6 l0 l1 o0 o1 cv) (hD : Dv (Sf who b4 b6) C (.agg #[l0, l1]) q) (hR : Mp.Rel s q) (hS : Sz n q) (hn : n ≤ 1000) (hX : Below C.heap.size C X) (oo : Mo.Op) (ho : OpOk oo) :
    Calls Try.prog 20 #[.agg #[l0, l1], .agg #[.int .i64 oo.kind, .string oo.space, .string oo.channel, .string oo.user, .string oo.text, .string oo.toSpace, .string oo.to, .int .i64 oo.frm, .int .i64 oo.most]] X fun e Y => ∃ p1 n1 c1 p2 n2 c2 pr nr cr, e = .returned (.tuple #[.agg #[.slice p1 n1 c1, .slice p2 n2 c2], .agg #[.int .i64 (Mo.tells s oo).err, .int .i64 (Mo.tells s oo).at_, .slice pr nr cr]]) ∧ Below X.heap.size X Y ∧ Hid (nr = (Mo.tells s oo).posts.length ∧ RowC Y 2 (.slice pr nr cr) nr (poCells (Mo.tells s oo).posts) ∧ (∀ g, cBlk (.slice pr nr cr) = some g → Lc (Sf who b4 b6) C.heap.size X.heap.size g) ∧ Dv (Lc (Sf who b4 b6) C.heap.size X.heap.size) Y (.agg #[.slice p1 n1 c1, .slice p2 n2 c2]) (Mp.dDo q oo).1) := by
  obtain ⟨pl, cl, po, co, t, hv, ht, hd⟩ := hD
  injection hv with hv
  simp only [Array.mk.injEq, List.cons.injEq, and_true] at hv
  obtain ⟨e1, e2⟩ := hv
  subst e1 e2
  have hz := hS.le (by omega) ht rfl
  have hd1 : DvT (Lc (Sf who b4 b6) C.heap.size X.heap.size) C pl cl po co t q.off := hd.weak (fun g hg hl => ⟨hg, .inl hl⟩)
  have hd2 := hd1.below hX
  rw [(hR.step oo).2]
  refine (rDo_c hd2 ht rfl (fun g hg => ⟨hC.new g (by have := hX.size; omega), .inr hg⟩) hR hz oo (sz63 ho)).mono ?_
  rintro e Y ⟨v', pr, cr, rfl, hrow, hrb, ⟨pl', cl', po', co', t', rfl, ht', hd'⟩, hb⟩
  exact ⟨_, _, _, _, _, _, _, _, _, rfl, hb, rfl, hrow, hrb, ⟨pl', cl', po', co', t', rfl, ht', hd'⟩⟩
theorem told_any {X : World} {B : Nat} {s : Mo.St} {who : Nat → Nat} {n m : Nat} (h : Md X B s who n) (hn : n ≤ 1000) {S : Nat → Prop} {v : Value} {q : Mp.Dm} (hD : Dv S X v q) (hR : Mp.Rel s q) (hL : Lb q) (hS : Sz m q) (hm : m ≤ 1000000) :
    Calls Try.prog 23 #[.pointer (some ⟨B, 0, none⟩), v] X fun e w' => e = .returned (.bool true) ∧ Below X.heap.size X w' := by
  obtain ⟨bc, bo, f, cs, hV⟩ := h
  obtain ⟨pl, cl, po, co, t, rfl, ht, hd⟩ := hD
  exact told_c hV (by omega) hd ht hR hL (hS.le hm ht rfl).1

set_option maxHeartbeats 51200000 in
set_option maxRecDepth 20000 in
theorem walk (v0 : Value) (a0 : List Mo.Op) (w : World) (_b0 : Elems w 9 op9Cells Op9In v0 a0) :
    Calls Try.prog 8 #[v0] w fun e w' => e = .returned (.bool true) ∧ Below w.heap.size w w' := by
  obtain ⟨p0, c0, hv0, hc1, hc2, hgood, hcells⟩ := _b0
  obtain ⟨n0, hn0⟩ : ∃ n0, n0 = a0.length := ⟨_, rfl⟩
  rw [← hn0] at hv0 hc1
  have HI : Hid (∀ k, k < n0 → ∃ oo g o, Op9In oo ∧ p0 = some ⟨g, o, none⟩ ∧ g < w.heap.size ∧ ∀ X, Below w.heap.size w X → (X.cell? ⟨g, o + k * 9, none⟩ = some (.int .i64 oo.kind) ∧ X.cell? ⟨g, o + k * 9 + 1, none⟩ = some (.string oo.space) ∧ X.cell? ⟨g, o + k * 9 + 2, none⟩ = some (.string oo.channel) ∧ X.cell? ⟨g, o + k * 9 + 3, none⟩ = some (.string oo.user) ∧ X.cell? ⟨g, o + k * 9 + 4, none⟩ = some (.string oo.text) ∧ X.cell? ⟨g, o + k * 9 + 5, none⟩ = some (.string oo.toSpace) ∧ X.cell? ⟨g, o + k * 9 + 6, none⟩ = some (.string oo.to) ∧ X.cell? ⟨g, o + k * 9 + 7, none⟩ = some (.int .i64 oo.frm) ∧ X.cell? ⟨g, o + k * 9 + 8, none⟩ = some (.int .i64 oo.most))) := by
    intro k hk
    obtain ⟨q, hq⟩ : ∃ q, a0[k]? = some q := ⟨_, List.getElem?_eq_getElem (by omega)⟩
    rcases hcells with h | ⟨g, o, hp, hg, hcs⟩
    · rw [h] at hq
      simp at hq
    · refine ⟨q, g, o, hgood q (List.mem_of_getElem? hq), hp, hg, fun X hX => ?_⟩
      have e : ∀ j, X.cell? ⟨g, j, none⟩ = w.cell? ⟨g, j, none⟩ := fun j => hX.cell (p := ⟨g, j, none⟩) hg
      rw [e, e, e, e, e, e, e, e, e]
      exact ⟨hcs k q hq 0 _ rfl, hcs k q hq 1 _ rfl, hcs k q hq 2 _ rfl, hcs k q hq 3 _ rfl, hcs k q hq 4 _ rfl, hcs k q hq 5 _ rfl, hcs k q hq 6 _ rfl, hcs k q hq 7 _ rfl, hcs k q hq 8 _ rfl⟩
  subst hv0
  have hcm := hc2
  unfold maxLen at hcm
  have HNew : Hid _ := start_c w
  obtain ⟨B, hB⟩ : ∃ B, B = w.heap.size + 2 := ⟨_, rfl⟩
  rw [← hB] at HNew
  have HA : Hid (∀ u : World, Calls Try.prog 11 #[] u fun e w' => e = .returned (.bool true) ∧ Below u.heap.size u w') := awake_c
  clear hB hc2 hgood hcells hn0
  go_enter Try.func8, Try.ntmps8
  go_wp2_with fail
  refine Calls.mono HNew.out ?_
  rintro e Y0 ⟨who, rfl, hM, hbY, hlo⟩
  have HM0 : Hid (Md Y0 B Mo.new who 0 ∧ Below w.heap.size w Y0 ∧ ∀ k, who k ≠ 0 → w.heap.size ≤ k) := ⟨hM, hbY, hlo⟩
  clear hM hbY hlo HNew
  obtain ⟨b4, hb4⟩ : ∃ b4, b4 = Y0.heap.size := ⟨_, rfl⟩
  obtain ⟨X1, hX1⟩ : ∃ X1, X1 = Y0.alloc (.cells #[.slice none 0 0, .slice none 0 0] 54) := ⟨_, rfl⟩
  go_upto_region 5 with fail
  rw [← hX1, ← hb4]
  obtain ⟨b6, hb6⟩ : ∃ b6, b6 = X1.heap.size := ⟨_, rfl⟩
  obtain ⟨X2, hX2⟩ : ∃ X2, X2 = X1.alloc (.cells #[.slice none 0 0, .slice none 0 0] 54) := ⟨_, rfl⟩
  have HP0 : Hid (Pst w X2 B b4 b6 0 (.pointer none)) := Pst.start HM0.out.1 HM0.out.2.1 HM0.out.2.2 hb4 hb6 hX1 hX2
  have q4 : Bq b4 (.slice none 0 0) (.slice none 0 0) X1 := by rw [hb4, hX1]; exact Bq.start _ _ _ _
  have HE6 : Hid (X2 = X1.alloc (.cells #[.slice none 0 0, .slice none 0 0] 54) ∧ b6 = X1.heap.size) := ⟨hX2, hb6⟩
  obtain ⟨c4, c5, _, _⟩ := q4
  clear hX1 hb4 hX2 hb6 HM0
  go_upto_region 7 with fail
  rw [← HE6.out.1, ← HE6.out.2]
  clear c4 c5 HE6
  go_wp2
  go_loopw [5, 7] (fun cv iv wr => ∃ k : Nat, iv = .int .i64 (k : Int) ∧ k ≤ n0 ∧ k ≤ 200 ∧ Hid (Pst w wr B b4 b6 k cv)) (fun _ iv _ => 200 - (intOf iv).toNat)
  case atStart => exact ⟨0, rfl, Nat.zero_le _, Nat.zero_le _, HP0.out⟩
  case round =>
    clear HP0
    obtain ⟨k, rfl, hkn, hk2, HP⟩ := hrel
    by_cases hlt : k < n0
    · by_cases hlt2 : k < 200
      · obtain ⟨oo, g, o, hop, hp0, hgw, hX⟩ := HI.out k hlt
        have HOp : Hid (OpOk oo) := hop.1
        have HSx : Hid (∀ X, Below w.heap.size w X → (X.cell? ⟨g, o + k * 9, none⟩ = some (.int .i64 oo.kind) ∧ X.cell? ⟨g, o + k * 9 + 1, none⟩ = some (.string oo.space) ∧ X.cell? ⟨g, o + k * 9 + 2, none⟩ = some (.string oo.channel) ∧ X.cell? ⟨g, o + k * 9 + 3, none⟩ = some (.string oo.user) ∧ X.cell? ⟨g, o + k * 9 + 4, none⟩ = some (.string oo.text) ∧ X.cell? ⟨g, o + k * 9 + 5, none⟩ = some (.string oo.toSpace) ∧ X.cell? ⟨g, o + k * 9 + 6, none⟩ = some (.string oo.to) ∧ X.cell? ⟨g, o + k * 9 + 7, none⟩ = some (.int .i64 oo.frm) ∧ X.cell? ⟨g, o + k * 9 + 8, none⟩ = some (.int .i64 oo.most))) := hX
        have HGw : Hid (g < w.heap.size) := hgw
        subst hp0
        have hi0 : (0 : Int) ≤ (k : Int) := Int.natCast_nonneg k
        have hi1 : (k : Int) < (n0 : Int) := by omega
        have hi2 : (k : Int) < 200 := by omega
        clear hX hgw hop HI
        obtain ⟨who, s, q, l0, l1, o0, o1, hC, hD, hR, hL, hS⟩ := HP.out
        have HC : Hid (Core w wr B s who k b4 b6 l0 l1 o0 o1 u5) := hC
        have HD : Hid (Dv (Sf who b4 b6) wr (.agg #[l0, l1]) q ∧ Mp.Rel s q ∧ Lb q ∧ Sz k q) := ⟨hD, hR, hL, hS⟩
        clear hC hD hR hL hS HP
        obtain ⟨ck, hck⟩ : ∃ ck : Int, ck = (if Mo.may oo = true then 0 else 1) := ⟨_, rfl⟩
        have HCk : Hid (∀ X, Calls Try.prog 18 #[.agg #[.int .i64 oo.kind, .string oo.space, .string oo.channel, .string oo.user, .string oo.text, .string oo.toSpace, .string oo.to, .int .i64 oo.frm, .int .i64 oo.most]] X fun e w' => e = .returned (.int .i64 ck) ∧ Below X.heap.size X w') := fun X => by rw [hck]; exact Check_c oo HOp.out X
        have HCd : Hid (∀ X, Calls Try.prog 19 #[.agg #[.int .i64 oo.kind, .string oo.space, .string oo.channel, .string oo.user, .string oo.text, .string oo.toSpace, .string oo.to, .int .i64 oo.frm, .int .i64 oo.most]] X fun e w' => e = .returned (.int .i64 ck) ∧ Below X.heap.size X w') := fun X => by rw [hck]; exact checked_c oo (sz63 HOp.out) X
        clear hck
        go_upto_region 10 with fail
        have hdz : Below w.heap.size w wr.drew := HC.out.old.drew
        have HZ0 : Hid (Below wr.heap.size wr wr.drew) := below_drewN wr 1
        go_region_held (fun X => X.cell? ⟨g, o + k * 9, none⟩ = some (.int .i64 oo.kind) ∧ X.cell? ⟨g, o + k * 9 + 1, none⟩ = some (.string oo.space) ∧ X.cell? ⟨g, o + k * 9 + 2, none⟩ = some (.string oo.channel) ∧ X.cell? ⟨g, o + k * 9 + 3, none⟩ = some (.string oo.user) ∧ X.cell? ⟨g, o + k * 9 + 4, none⟩ = some (.string oo.text) ∧ X.cell? ⟨g, o + k * 9 + 5, none⟩ = some (.string oo.toSpace) ∧ X.cell? ⟨g, o + k * 9 + 6, none⟩ = some (.string oo.to) ∧ X.cell? ⟨g, o + k * 9 + 7, none⟩ = some (.int .i64 oo.frm) ∧ X.cell? ⟨g, o + k * 9 + 8, none⟩ = some (.int .i64 oo.most))
          (with_reducible first | assumption | exact HSx.out _ (by assumption))
          (first
            | (go_at_call 18; refine (HCk.out _).mono ?_; rintro e C1 ⟨rfl, hbC1⟩
               have HZ1 : Hid (Below wr.heap.size wr C1) := HZ0.out.trans (hbC1.mono HZ0.out.size)
               have hdz1 : Below w.heap.size w C1 := hdz.trans (hbC1.mono hdz.size)
               clear hbC1)
            | (go_at_call 19; refine (HCd.out _).mono ?_; rintro e C2 ⟨rfl, hbC2⟩
               have HZ2 : Hid (Below wr.heap.size wr C2) := HZ1.out.trans (hbC2.mono HZ1.out.size)
               have hdz2 : Below w.heap.size w C2 := hdz1.trans (hbC2.mono hdz1.size)
               clear hbC2))
        clear hdz hdz1 hdz2 HZ0 HZ1 HCk HCd
        go_upto_region 12 with fail
        have HC2 : Hid (Core w C2 B s who k b4 b6 l0 l1 o0 o1 u5) := HC.out.below HZ2.out
        have HD2 : Hid (Dv (Sf who b4 b6) C2 (.agg #[l0, l1]) q) := HD.out.1.below HZ2.out
        have HDo : Hid (∀ X, Below C2.heap.size C2 X → Calls Try.prog 20 #[.agg #[l0, l1], .agg #[.int .i64 oo.kind, .string oo.space, .string oo.channel, .string oo.user, .string oo.text, .string oo.toSpace, .string oo.to, .int .i64 oo.frm, .int .i64 oo.most]] X fun e Y => ∃ p1 n1 c1 p2 n2 c2 pr nr cr, e = .returned (.tuple #[.agg #[.slice p1 n1 c1, .slice p2 n2 c2], .agg #[.int .i64 (Mo.tells s oo).err, .int .i64 (Mo.tells s oo).at_, .slice pr nr cr]]) ∧ Below X.heap.size X Y ∧ Hid (nr = (Mo.tells s oo).posts.length ∧ RowC Y 2 (.slice pr nr cr) nr (poCells (Mo.tells s oo).posts) ∧ (∀ g, cBlk (.slice pr nr cr) = some g → Lc (Sf who b4 b6) C2.heap.size X.heap.size g) ∧ Dv (Lc (Sf who b4 b6) C2.heap.size X.heap.size) Y (.agg #[.slice p1 n1 c1, .slice p2 n2 c2]) (Mp.dDo q oo).1)) := fun X hX => do_c HC2.out HD2.out HD.out.2.1 HD.out.2.2.2 (by omega) hX oo HOp.out
        have HS12 : Hid (∀ X, Below C2.heap.size C2 X → ((X.cell? ⟨b4, 0, none⟩ = some l0 ∧ X.cell? ⟨b4, 1, none⟩ = some l1) ∧ X.cell? ⟨g, o + k * 9, none⟩ = some (.int .i64 oo.kind) ∧ X.cell? ⟨g, o + k * 9 + 1, none⟩ = some (.string oo.space) ∧ X.cell? ⟨g, o + k * 9 + 2, none⟩ = some (.string oo.channel) ∧ X.cell? ⟨g, o + k * 9 + 3, none⟩ = some (.string oo.user) ∧ X.cell? ⟨g, o + k * 9 + 4, none⟩ = some (.string oo.text) ∧ X.cell? ⟨g, o + k * 9 + 5, none⟩ = some (.string oo.toSpace) ∧ X.cell? ⟨g, o + k * 9 + 6, none⟩ = some (.string oo.to) ∧ X.cell? ⟨g, o + k * 9 + 7, none⟩ = some (.int .i64 oo.frm) ∧ X.cell? ⟨g, o + k * 9 + 8, none⟩ = some (.int .i64 oo.most))) := fun X hX => ⟨⟨(HC2.out.q4.below hX).c0, (HC2.out.q4.below hX).c1⟩, HSx.out X (HC2.out.old.trans (hX.mono HC2.out.old.size))⟩
        obtain ⟨V, hV⟩ : ∃ V, V = C2.drew := ⟨_, rfl⟩
        have HbV : Hid (Below C2.heap.size C2 V) := by rw [hV]; exact below_drewN C2 1
        refine wp_region_held_drew (S := fun X => (X.cell? ⟨b4, 0, none⟩ = some l0 ∧ X.cell? ⟨b4, 1, none⟩ = some l1) ∧ X.cell? ⟨g, o + k * 9, none⟩ = some (.int .i64 oo.kind) ∧ X.cell? ⟨g, o + k * 9 + 1, none⟩ = some (.string oo.space) ∧ X.cell? ⟨g, o + k * 9 + 2, none⟩ = some (.string oo.channel) ∧ X.cell? ⟨g, o + k * 9 + 3, none⟩ = some (.string oo.user) ∧ X.cell? ⟨g, o + k * 9 + 4, none⟩ = some (.string oo.text) ∧ X.cell? ⟨g, o + k * 9 + 5, none⟩ = some (.string oo.toSpace) ∧ X.cell? ⟨g, o + k * 9 + 6, none⟩ = some (.string oo.to) ∧ X.cell? ⟨g, o + k * 9 + 7, none⟩ = some (.int .i64 oo.frm) ∧ X.cell? ⟨g, o + k * 9 + 8, none⟩ = some (.int .i64 oo.most)) (by kernel_rfl) (by rw [← hV]; exact HS12.out V HbV.out) (fun hHeld => ?_)
        rw [← hV] at hHeld ⊢
        clear hV
        refine take7 (i := 0) (d := 37) (v := .agg #[l0, l1]) rfl rfl (by kernel_rfl) (by kernel_rfl) (by kernel_rfl) (fun _ _ _ h => h) (Or.inl ⟨by rfl, ?_⟩) (by assumption) ?_
        · intro X hSw
          go_simp
        simp only [Act.put, List.setIfInBounds_toArray, List.set_cons_zero, List.set_cons_succ]
        refine take7 (i := 1) (d := 38) (v := .slice (some ⟨g, o, none⟩) n0 c0) rfl rfl (by kernel_rfl) (by kernel_rfl) (by kernel_rfl) (fun _ _ _ h => h) (Or.inl ⟨by rfl, ?_⟩) (by assumption) ?_
        · intro X hSw
          go_simp
        simp only [Act.put, List.setIfInBounds_toArray, List.set_cons_zero, List.set_cons_succ]
        refine take7 (i := 2) (d := 39) (v := .int .i64 (k : Int)) rfl rfl (by kernel_rfl) (by kernel_rfl) (by kernel_rfl) (fun _ _ _ h => h) (Or.inl ⟨by rfl, ?_⟩) (by assumption) ?_
        · intro X hSw
          go_simp
        simp only [Act.put, List.setIfInBounds_toArray, List.set_cons_zero, List.set_cons_succ]
        refine take7 (i := 3) (d := 40) (v := .pointer (some ⟨g, o + k * 9, none⟩)) rfl rfl (by kernel_rfl) (by kernel_rfl) (by kernel_rfl) (fun _ _ _ h => h) (Or.inl ⟨by rfl, ?_⟩) (by assumption) ?_
        · intro X hSw
          go_simp
        simp only [Act.put, List.setIfInBounds_toArray, List.set_cons_zero, List.set_cons_succ]
        refine take7 (i := 4) (d := 41) (v := .agg #[.int .i64 oo.kind, .string oo.space, .string oo.channel, .string oo.user, .string oo.text, .string oo.toSpace, .string oo.to, .int .i64 oo.frm, .int .i64 oo.most]) rfl rfl (by kernel_rfl) (by kernel_rfl) (by kernel_rfl) (fun _ _ _ h => h) (Or.inl ⟨by rfl, ?_⟩) (by assumption) ?_
        · intro X hSw
          go_simp
        simp only [Act.put, List.setIfInBounds_toArray, List.set_cons_zero, List.set_cons_succ]
        refine wpAnyH_ready (rs := [5, 9, 10]) (by kernel_rfl) (by simp) ?_
        refine AllReadyH.cons rfl (fun K hK => ?_) (AllReadyH.cons rfl (fun K hK => ?_) (AllReadyH.cons rfl (fun K hK => ?_) AllReadyH.nil))
        · refine stepCall 42 rfl rfl 20 #[.agg #[l0, l1], .agg #[.int .i64 oo.kind, .string oo.space, .string oo.channel, .string oo.user, .string oo.text, .string oo.toSpace, .string oo.to, .int .i64 oo.frm, .int .i64 oo.most]] (by kernel_rfl) (HDo.out V HbV.out) ?_
          rintro e Y ⟨p1, n1, c1, p2, n2, c2, pr, nr, cr, rfl, hbY, HRe⟩
          refine ⟨_, rfl, ?_⟩
          have HY : Hid (Below V.heap.size V Y) := hbY
          have HbY : Hid (Below C2.heap.size C2 Y) := HbV.out.trans (hbY.mono HbV.out.size)
          clear hbY
          refine hK.out _ _ (HS12.out Y HbY.out) (fun hHeld => ?_)
          clear hK K
          try simp only [Act.put, List.setIfInBounds_toArray, List.set_cons_zero, List.set_cons_succ]
          refine take7 (i := 6) (d := 36) (v := .tuple #[.agg #[.slice p1 n1 c1, .slice p2 n2 c2], .agg #[.int .i64 (Mo.tells s oo).err, .int .i64 (Mo.tells s oo).at_, .slice pr nr cr]]) rfl rfl (by kernel_rfl) (by kernel_rfl) (by kernel_rfl) (fun _ _ _ h => h) (Or.inl ⟨by rfl, ?_⟩) (by assumption) ?_
          · intro X hSw
            go_simp
          simp only [Act.put, List.setIfInBounds_toArray, List.set_cons_zero, List.set_cons_succ]
          refine take7 (i := 7) (d := 43) (v := .agg #[.slice p1 n1 c1, .slice p2 n2 c2]) rfl rfl (by kernel_rfl) (by kernel_rfl) (by kernel_rfl) (fun _ _ _ h => h) (Or.inl ⟨by rfl, ?_⟩) (by assumption) ?_
          · intro X hSw
            go_simp
          simp only [Act.put, List.setIfInBounds_toArray, List.set_cons_zero, List.set_cons_succ]
          refine take7 (i := 8) (d := 44) (v := .agg #[.int .i64 (Mo.tells s oo).err, .int .i64 (Mo.tells s oo).at_, .slice pr nr cr]) rfl rfl (by kernel_rfl) (by kernel_rfl) (by kernel_rfl) (fun _ _ _ h => h) (Or.inl ⟨by rfl, ?_⟩) (by assumption) ?_
          · intro X hSw
            go_simp
          simp only [Act.put, List.setIfInBounds_toArray, List.set_cons_zero, List.set_cons_succ]
          refine wpAnyH_ready (rs := [9, 10]) (by kernel_rfl) (by simp) ?_
          refine AllReadyH.cons rfl (fun K hK => ?_) (AllReadyH.cons rfl (fun K hK => ?_) AllReadyH.nil)
          · go_simp
            obtain ⟨b8, hb⟩ : ∃ b8, b8 = Y.heap.size := ⟨_, rfl⟩
            obtain ⟨XA, hW⟩ : ∃ XA, XA = Y.alloc (.cells #[.slice none 0 0, .slice none 0 0] 54) := ⟨_, rfl⟩
            have Hb8 : Hid (Below Y.heap.size Y XA ∧ XA.heap.size = Y.heap.size + 1 ∧ Bq b8 (.slice none 0 0) (.slice none 0 0) XA ∧ b8 = Y.heap.size) := by
              refine ⟨by rw [hW]; exact below_alloc _ _, by rw [hW]; simp, ?_, hb⟩
              rw [hW, hb]
              exact Bq.start _ _ _ _
            have HbXA : Hid (Below C2.heap.size C2 XA) := HbY.out.trans (Hb8.out.1.mono HbY.out.size)
            rw [← hW, ← hb]
            clear hb hW
            refine hK.out _ _ (HS12.out XA HbXA.out) (fun hHeld => ?_)
            clear hK K
            try simp only [Act.put, List.setIfInBounds_toArray, List.set_cons_zero, List.set_cons_succ]
            refine wpAnyH_ready (rs := [10]) (by kernel_rfl) (by simp) ?_
            refine AllReadyH.cons rfl (fun K hK => ?_) AllReadyH.nil
            go_simp
            obtain ⟨b9, hb⟩ : ∃ b9, b9 = XA.heap.size := ⟨_, rfl⟩
            obtain ⟨XB, hW⟩ : ∃ XB, XB = XA.alloc (.cells #[.int .i64 0, .int .i64 0, .slice none 0 0] 29) := ⟨_, rfl⟩
            have Hb9 : Hid (Below XA.heap.size XA XB ∧ XB.heap.size = XA.heap.size + 1 ∧ R3 b9 (.int .i64 0) (.int .i64 0) (.slice none 0 0) XB ∧ b9 = XA.heap.size) := by
              refine ⟨by rw [hW]; exact below_alloc _ _, by rw [hW]; simp, ?_, hb⟩
              rw [hW, hb]
              exact R3.start _ _ _ _ _
            have HbXB : Hid (Below C2.heap.size C2 XB) := HbXA.out.trans (Hb9.out.1.mono HbXA.out.size)
            rw [← hW, ← hb]
            clear hb hW
            refine hK.out _ _ (HS12.out XB HbXB.out) (fun hHeld => ?_)
            clear hK K
            try simp only [Act.put, List.setIfInBounds_toArray, List.set_cons_zero, List.set_cons_succ]
            have HYZ : Hid (Below Y.heap.size Y XB) := ((Below.refl Y.heap.size Y).trans (Hb8.out.1.mono (Below.refl Y.heap.size Y).size)).trans (Hb9.out.1.mono ((Below.refl Y.heap.size Y).trans (Hb8.out.1.mono (Below.refl Y.heap.size Y).size)).size)
            have HA8 : Hid (Bq b8 (.slice none 0 0) (.slice none 0 0) XB) := (Hb8.out.2.2.1).below Hb9.out.1
            have HA9 : Hid (R3 b9 (.int .i64 0) (.int .i64 0) (.slice none 0 0) XB) := Hb9.out.2.2.1
            have HNs : Hid (C2.heap.size ≤ b8 ∧ C2.heap.size ≤ b9 ∧ b9 ≠ b8 ∧ (b8 < V.heap.size ∨ Y.heap.size ≤ b8) ∧ (b9 < V.heap.size ∨ Y.heap.size ≤ b9)) := by
              have m0 := HbV.out.size; have m1 := HY.out.size; have m2 := Hb8.out.2.1; have m3 := Hb8.out.2.2.2; have m4 := Hb9.out.2.1; have m5 := Hb9.out.2.2.2
              exact ⟨by omega, by omega, by omega, by omega, by omega⟩
            have HL12 : Hid (∀ g, Lc (Sf who b4 b6) C2.heap.size V.heap.size g → g < Y.heap.size → g ≠ b8 ∧ g ≠ b9) := fun g hg hs => by
              have h1 := hg.2
              have h2 := HNs.out
              exact ⟨by omega, by omega⟩
            obtain ⟨g1, g2, g3⟩ := ex9_cells HA8.out HA9.out HNs.out.2.2.1 (.slice p1 n1 c1) (.slice p2 n2 c2) (.int .i64 (Mo.tells s oo).err) (.int .i64 (Mo.tells s oo).at_) (.slice pr nr cr)
            obtain ⟨F, hF⟩ : ∃ F, F = ex9 XB b8 b9 (.slice p1 n1 c1) (.slice p2 n2 c2) (.int .i64 (Mo.tells s oo).err) (.int .i64 (Mo.tells s oo).at_) (.slice pr nr cr) := ⟨_, rfl⟩
            rw [← hF] at g2 g3
            have HF : Hid (Below C2.heap.size C2 F ∧ Bq b8 (.slice p1 n1 c1) (.slice p2 n2 c2) F ∧ R3 b9 (.int .i64 (Mo.tells s oo).err) (.int .i64 (Mo.tells s oo).at_) (.slice pr nr cr) F ∧ (nr = (Mo.tells s oo).posts.length ∧ RowC F 2 (.slice pr nr cr) nr (poCells (Mo.tells s oo).posts)) ∧ (∀ g, cBlk (.slice pr nr cr) = some g → Sf who b4 b6 g) ∧ Dv (Sf who b4 b6) F (.agg #[.slice p1 n1 c1, .slice p2 n2 c2]) (Mp.dDo q oo).1 ∧ C2.heap.size ≤ b8 ∧ C2.heap.size ≤ b9) := by
              have ho : ∀ g, Lc (Sf who b4 b6) C2.heap.size V.heap.size g → g < Y.heap.size → F.heap[g]? = Y.heap[g]? := fun g hg hs => by
                obtain ⟨a1, a2⟩ := HL12.out g hg hs
                rw [hF, ex9_other a1 a2, HYZ.out.block g hs]
              obtain ⟨r1, r2, r3, r4⟩ := HRe.out
              exact ⟨by rw [hF]; exact ex9_below HbXB.out HNs.out.1 HNs.out.2.1 _ _ _ _ _, g2, g3, ⟨r1, RowC.carry r2 (fun g hg => ho g (r3 g hg) (RowC.lt r2 (by decide) hg))⟩, fun g hg => (r3 g hg).1, r4.move ho (fun g hg _ => hg.1), HNs.out.1, HNs.out.2.1⟩
            clear g2 g3
            have HF9 : Hid (F = ex9 XB b8 b9 (.slice p1 n1 c1) (.slice p2 n2 c2) (.int .i64 (Mo.tells s oo).err) (.int .i64 (Mo.tells s oo).at_) (.slice pr nr cr)) := hF
            clear hF
            obtain ⟨z0, z1, h0, h1⟩ := HA8.out
            obtain ⟨y0, y1, y2, j0, j1, j2⟩ := g1
            refine wpAnyH_ready (rs := [11]) (by kernel_rfl) (by simp) ?_
            refine AllReadyH.cons rfl (fun K hK => ?_) AllReadyH.nil
            go_simp
            refine hK.out _ _ (HS12.out _ ((HbXB.out.setCell (p := ⟨b8, 0, none⟩) HNs.out.1 _).setCell (p := ⟨b8, 1, none⟩) HNs.out.1 _)) (fun hHeld => ?_)
            clear hK K
            try simp only [Act.put, List.setIfInBounds_toArray, List.set_cons_zero, List.set_cons_succ]
            refine wpAnyH_ready (rs := [12]) (by kernel_rfl) (by simp) ?_
            refine AllReadyH.cons rfl (fun K hK => ?_) AllReadyH.nil
            go_simp
            refine hK.out _ _ (HS12.out _ (((((HbXB.out.setCell (p := ⟨b8, 0, none⟩) HNs.out.1 _).setCell (p := ⟨b8, 1, none⟩) HNs.out.1 _).setCell (p := ⟨b9, 0, none⟩) HNs.out.2.1 _).setCell (p := ⟨b9, 1, none⟩) HNs.out.2.1 _).setCell (p := ⟨b9, 2, none⟩) HNs.out.2.1 _)) (fun hHeld => ?_)
            clear hK K hHeld
            refine wpAnyH_done (by kernel_rfl) ?_ _
            clear z0 z1 h0 h1 y0 y1 y2 j0 j1 j2
            have hF := HF9.out
            unfold ex9 at hF
            rw [← hF]
            clear hF HF9 HA8 HA9 HNs HL12 HYZ HRe HY HDo HS12

            have HC3 : Hid (Core w F B s who k b4 b6 l0 l1 o0 o1 u5) := HC2.out.below HF.out.1
            go_upto_region 13 with fail
            have HFd : Hid (Below F.heap.size F F.drew) := below_drewN F 1
            have hFd : Below F.heap.size F F.drew := HFd.out
            have HMd : Hid (∀ X, Below F.heap.size F X → Calls Try.prog 10 #[.pointer (some ⟨B, 0, none⟩), .agg #[.int .i64 oo.kind, .string oo.space, .string oo.channel, .string oo.user, .string oo.text, .string oo.toSpace, .string oo.to, .int .i64 oo.frm, .int .i64 oo.most]] X (DoOut who X B s k oo)) := fun X hX => Do_any (HC3.out.below hX).md (by omega) oo HOp.out
            have HS13 : Hid (∀ X, Below F.heap.size F X → ((X.cell? ⟨b9, 0, none⟩ = some (.int .i64 (Mo.tells s oo).err) ∧ X.cell? ⟨b9, 1, none⟩ = some (.int .i64 (Mo.tells s oo).at_) ∧ X.cell? ⟨b9, 2, none⟩ = some (.slice pr nr cr)) ∧ X.cell? ⟨g, o + k * 9, none⟩ = some (.int .i64 oo.kind) ∧ X.cell? ⟨g, o + k * 9 + 1, none⟩ = some (.string oo.space) ∧ X.cell? ⟨g, o + k * 9 + 2, none⟩ = some (.string oo.channel) ∧ X.cell? ⟨g, o + k * 9 + 3, none⟩ = some (.string oo.user) ∧ X.cell? ⟨g, o + k * 9 + 4, none⟩ = some (.string oo.text) ∧ X.cell? ⟨g, o + k * 9 + 5, none⟩ = some (.string oo.toSpace) ∧ X.cell? ⟨g, o + k * 9 + 6, none⟩ = some (.string oo.to) ∧ X.cell? ⟨g, o + k * 9 + 7, none⟩ = some (.int .i64 oo.frm) ∧ X.cell? ⟨g, o + k * 9 + 8, none⟩ = some (.int .i64 oo.most))) := fun X hX => ⟨⟨(HF.out.2.2.1.below hX).c0, (HF.out.2.2.1.below hX).c1, (HF.out.2.2.1.below hX).c2⟩, HSx.out X (HC3.out.old.trans (hX.mono HC3.out.old.size))⟩
            go_region_held (fun X => (X.cell? ⟨b9, 0, none⟩ = some (.int .i64 (Mo.tells s oo).err) ∧ X.cell? ⟨b9, 1, none⟩ = some (.int .i64 (Mo.tells s oo).at_) ∧ X.cell? ⟨b9, 2, none⟩ = some (.slice pr nr cr)) ∧ X.cell? ⟨g, o + k * 9, none⟩ = some (.int .i64 oo.kind) ∧ X.cell? ⟨g, o + k * 9 + 1, none⟩ = some (.string oo.space) ∧ X.cell? ⟨g, o + k * 9 + 2, none⟩ = some (.string oo.channel) ∧ X.cell? ⟨g, o + k * 9 + 3, none⟩ = some (.string oo.user) ∧ X.cell? ⟨g, o + k * 9 + 4, none⟩ = some (.string oo.text) ∧ X.cell? ⟨g, o + k * 9 + 5, none⟩ = some (.string oo.toSpace) ∧ X.cell? ⟨g, o + k * 9 + 6, none⟩ = some (.string oo.to) ∧ X.cell? ⟨g, o + k * 9 + 7, none⟩ = some (.int .i64 oo.frm) ∧ X.cell? ⟨g, o + k * 9 + 8, none⟩ = some (.int .i64 oo.most))
              (with_reducible first | assumption | exact HS13.out _ (by assumption))
              (first
                | (go_at_call 10; refine (HMd.out _ (by assumption)).mono ?_; rintro e G1 ⟨v, who', rfl, hrow, hnew, haft⟩
                   have HG1 : Hid (RowC G1 2 v (Mo.tells s oo).posts.length (poCells (Mo.tells s oo).posts) ∧ AftM who F.drew G1 B (Mo.does s oo) (k + 1) who') := ⟨hrow, haft⟩
                   have hG9 : who b9 = 0 ∧ b9 < F.drew.heap.size := by
                     have h1 := (HC2.out.new b9 HF.out.2.2.2.2.2.2.2).1
                     exact ⟨h1, HF.out.2.2.1.lt⟩
                   have hS9 : (G1.cell? ⟨b9, 0, none⟩ = some (.int .i64 (Mo.tells s oo).err) ∧ G1.cell? ⟨b9, 1, none⟩ = some (.int .i64 (Mo.tells s oo).at_) ∧ G1.cell? ⟨b9, 2, none⟩ = some (.slice pr nr cr)) ∧ G1.cell? ⟨g, o + k * 9, none⟩ = some (.int .i64 oo.kind) ∧ G1.cell? ⟨g, o + k * 9 + 1, none⟩ = some (.string oo.space) ∧ G1.cell? ⟨g, o + k * 9 + 2, none⟩ = some (.string oo.channel) ∧ G1.cell? ⟨g, o + k * 9 + 3, none⟩ = some (.string oo.user) ∧ G1.cell? ⟨g, o + k * 9 + 4, none⟩ = some (.string oo.text) ∧ G1.cell? ⟨g, o + k * 9 + 5, none⟩ = some (.string oo.toSpace) ∧ G1.cell? ⟨g, o + k * 9 + 6, none⟩ = some (.string oo.to) ∧ G1.cell? ⟨g, o + k * 9 + 7, none⟩ = some (.int .i64 oo.frm) ∧ G1.cell? ⟨g, o + k * 9 + 8, none⟩ = some (.int .i64 oo.most) := by
                     have hb : G1.heap[b9]? = F.drew.heap[b9]? := haft.2.2.block b9 hG9.2 hG9.1
                     have hr := (HF.out.2.2.1.below HFd.out).keep hb
                     exact ⟨⟨hr.c0, hr.c1, hr.c2⟩, HSx.out G1 ((HC3.out.below HFd.out).aft haft).old⟩
                   have HSame : Hid (Calls Try.prog 21 #[.agg #[.int .i64 (Mo.tells s oo).err, .int .i64 (Mo.tells s oo).at_, v], .agg #[.int .i64 (Mo.tells s oo).err, .int .i64 (Mo.tells s oo).at_, .slice pr nr cr]] G1 fun e w' => e = .returned (.bool true) ∧ Below G1.heap.size G1 w') := by
                     refine Same_eq _ _ (PoR.ofRow hrow) ?_
                     have hp := HF.out.2.2.2.1
                     have h2 : RowC F 2 (.slice pr nr cr) (Mo.tells s oo).posts.length (poCells (Mo.tells s oo).posts) := by rw [← hp.1]; exact hp.2
                     refine PoR.ofRow (RowC.carry h2 (fun g' hg' => ?_))
                     have h3 := (HF.out.2.2.2.2.1 g' hg').1
                     have h4 := RowC.lt h2 (by decide) hg'
                     exact haft.2.2.block g' h4 h3
                   clear hrow hnew haft hG9)
                | (go_at_call 21; refine HSame.out.mono ?_; rintro e G2 ⟨rfl, hb2⟩
                   have HG2 : Hid (Below G1.heap.size G1 G2) := hb2
                   have hS9' : (G2.cell? ⟨b9, 0, none⟩ = some (.int .i64 (Mo.tells s oo).err) ∧ G2.cell? ⟨b9, 1, none⟩ = some (.int .i64 (Mo.tells s oo).at_) ∧ G2.cell? ⟨b9, 2, none⟩ = some (.slice pr nr cr)) ∧ G2.cell? ⟨g, o + k * 9, none⟩ = some (.int .i64 oo.kind) ∧ G2.cell? ⟨g, o + k * 9 + 1, none⟩ = some (.string oo.space) ∧ G2.cell? ⟨g, o + k * 9 + 2, none⟩ = some (.string oo.channel) ∧ G2.cell? ⟨g, o + k * 9 + 3, none⟩ = some (.string oo.user) ∧ G2.cell? ⟨g, o + k * 9 + 4, none⟩ = some (.string oo.text) ∧ G2.cell? ⟨g, o + k * 9 + 5, none⟩ = some (.string oo.toSpace) ∧ G2.cell? ⟨g, o + k * 9 + 6, none⟩ = some (.string oo.to) ∧ G2.cell? ⟨g, o + k * 9 + 7, none⟩ = some (.int .i64 oo.frm) ∧ G2.cell? ⟨g, o + k * 9 + 8, none⟩ = some (.int .i64 oo.most) := by
                     obtain ⟨⟨q1, q2, q3⟩, q4, q5, q6, q7, q8, q9, q10, q11, q12⟩ := hS9
                     have no : ∀ (b j : Nat) (x : Value), G1.cell? ⟨b, j, none⟩ = some x → G2.cell? ⟨b, j, none⟩ = some x := fun b j x hx => (HG2.out.cell (p := ⟨b, j, none⟩) (World.block_lt_of_cell? _ _ hx)).trans hx
                     exact ⟨⟨no _ _ _ q1, no _ _ _ q2, no _ _ _ q3⟩, no _ _ _ q4, no _ _ _ q5, no _ _ _ q6, no _ _ _ q7, no _ _ _ q8, no _ _ _ q9, no _ _ _ q10, no _ _ _ q11, no _ _ _ q12⟩
                   clear hb2))
            have HC4 : Hid (Core w G2 B (Mo.does s oo) who' (k + 1) b4 b6 l0 l1 o0 o1 u5) := ((HC3.out.below HFd.out).aft HG1.out.2).below HG2.out
            have HD4 : Hid (Dv (Sf who' b4 b6) G2 (.agg #[.slice p1 n1 c1, .slice p2 n2 c2]) (Mp.dDo q oo).1) := ((HF.out.2.2.2.2.2.1.below HFd.out).aft HG1.out.2).below HG2.out
            have HQ8 : Hid (Bq b8 (.slice p1 n1 c1) (.slice p2 n2 c2) G2) := by
              have h1 := (HC2.out.new b8 HF.out.2.2.2.2.2.2.1).1
              have h2 := HF.out.2.1.below HFd.out
              exact (h2.keep (HG1.out.2.2.2.block b8 h2.lt h1)).below HG2.out
            have HR4 : Hid (Mp.Rel (Mo.does s oo) (Mp.dDo q oo).1 ∧ Lb (Mp.dDo q oo).1 ∧ Sz (k + 1) (Mp.dDo q oo).1) := ⟨(HD.out.2.1.step oo).1, HD.out.2.2.1.step oo, HD.out.2.2.2.step oo⟩
            clear hS9 hS9' hFd HSame HMd HS13 HG2 HG1 HFd HF HC3 HC2 HD2
            obtain ⟨d0, d1, _, _⟩ := HQ8.out
            obtain ⟨e0, e1, f0, f1⟩ := HC4.out.q4
            obtain ⟨G3, hG3⟩ : ∃ G3, G3 = (G2.setCell ⟨b4, 0, none⟩ (.slice p1 n1 c1)).setCell ⟨b4, 1, none⟩ (.slice p2 n2 c2) := ⟨_, rfl⟩
            have HC5 : Hid (Core w G3 B (Mo.does s oo) who' (k + 1) b4 b6 (.slice p1 n1 c1) (.slice p2 n2 c2) o0 o1 u5) := by rw [hG3]; exact HC4.out.set4 _ _
            have HD5 : Hid (Dv (Sf who' b4 b6) G3 (.agg #[.slice p1 n1 c1, .slice p2 n2 c2]) (Mp.dDo q oo).1) := by rw [hG3]; exact HD4.out.set4 _ _
            have HE3 : Hid (G3 = (G2.setCell ⟨b4, 0, none⟩ (.slice p1 n1 c1)).setCell ⟨b4, 1, none⟩ (.slice p2 n2 c2)) := hG3
            clear hG3
            go_upto_region 16 with fail
            rw [← HE3.out]
            clear d0 d1 e0 e1 f0 f1 HE3 HC4 HD4 HQ8
            by_cases hh : ((k : Int) == (n0 : Int) / 2) = true
            · have HCp : Hid (Calls Try.prog 22 #[.pointer (some ⟨B, 0, none⟩)] G3 fun e w' => ∃ B2 who2, e = .returned (.pointer (some ⟨B2, 0, none⟩)) ∧ Below G3.heap.size G3 w' ∧ Md w' B2 (Mo.does s oo) who2 (k + 1 + (k + 1)) ∧ ∀ k, who2 k ≠ 0 → G3.heap.size ≤ k) := by
                obtain ⟨bc, bo, f, cs, hV⟩ := HC5.out.md
                exact Copy_c hV (by omega)
              go_wp2_with fail
              refine Calls.mono HCp.out ?_
              rintro e G4 ⟨B2, who2, rfl, hb4, hm2, hlo2⟩
              have HM2 : Hid (Md G4 B2 (Mo.does s oo) who2 (k + 1 + (k + 1)) ∧ ∀ k, who2 k ≠ 0 → G3.heap.size ≤ k) := ⟨hm2, hlo2⟩
              have HC6 : Hid (Core w G4 B (Mo.does s oo) who' (k + 1) b4 b6 (.slice p1 n1 c1) (.slice p2 n2 c2) o0 o1 u5) := HC5.out.below hb4
              have HD6 : Hid (Dv (Sf who' b4 b6) G4 (.agg #[.slice p1 n1 c1, .slice p2 n2 c2]) (Mp.dDo q oo).1) := HD5.out.below hb4
              clear hb4 hm2 hlo2
              obtain ⟨e0, e1, _, _⟩ := HC6.out.q4
              obtain ⟨d0, d1, f0, f1⟩ := HC6.out.q6
              obtain ⟨G5, hG5⟩ : ∃ G5, G5 = (G4.setCell ⟨b6, 0, none⟩ (.slice p1 n1 c1)).setCell ⟨b6, 1, none⟩ (.slice p2 n2 c2) := ⟨_, rfl⟩
              have HC7 : Hid (Core w G5 B (Mo.does s oo) who' (k + 1) b4 b6 (.slice p1 n1 c1) (.slice p2 n2 c2) (.slice p1 n1 c1) (.slice p2 n2 c2) (.pointer (some ⟨B2, 0, none⟩))) := by
                rw [hG5]
                exact HC6.out.set6 _ _ _ (.inr ⟨B2, _, who2, _, _, rfl, HM2.out.1, by omega, fun j hj => HC5.out.new j (HM2.out.2 j hj), HD6.out, HR4.out.1, HR4.out.2.1, HR4.out.2.2.mono (by omega)⟩)
              have HN : Hid (Pst w G5 B b4 b6 (k + 1) (.pointer (some ⟨B2, 0, none⟩))) := ⟨who', _, _, _, _, _, _, HC7.out, by rw [hG5]; exact HD6.out.set6 _ _, HR4.out.1, HR4.out.2.1, HR4.out.2.2⟩
              have HE5 : Hid (G5 = (G4.setCell ⟨b6, 0, none⟩ (.slice p1 n1 c1)).setCell ⟨b6, 1, none⟩ (.slice p2 n2 c2)) := hG5
              clear hG5
              go_upto_region 19 with fail
              rw [← HE5.out]
              clear e0 e1 d0 d1 f0 f1 HE5
              go_wp2
              go_roundw
              case rel => exact ⟨k + 1, by go_num, by omega, by omega, HN⟩
              case measure => simp [intOf]; omega
            · have hh2 : ((k : Int) == (n0 : Int) / 2) = false := Bool.eq_false_iff.2 hh
              clear hh
              have HN : Hid (Pst w G3 B b4 b6 (k + 1) u5) := ⟨who', _, _, _, _, _, _, HC5.out, HD5.out, HR4.out.1, HR4.out.2.1, HR4.out.2.2⟩
              go_wp2
              go_roundw
              case rel => exact ⟨k + 1, by go_num, by omega, by omega, HN⟩
              case measure => simp [intOf]; omega
          · go_simp
            obtain ⟨b9, hb⟩ : ∃ b9, b9 = Y.heap.size := ⟨_, rfl⟩
            obtain ⟨XB, hW⟩ : ∃ XB, XB = Y.alloc (.cells #[.int .i64 0, .int .i64 0, .slice none 0 0] 29) := ⟨_, rfl⟩
            have Hb9 : Hid (Below Y.heap.size Y XB ∧ XB.heap.size = Y.heap.size + 1 ∧ R3 b9 (.int .i64 0) (.int .i64 0) (.slice none 0 0) XB ∧ b9 = Y.heap.size) := by
              refine ⟨by rw [hW]; exact below_alloc _ _, by rw [hW]; simp, ?_, hb⟩
              rw [hW, hb]
              exact R3.start _ _ _ _ _
            have HbXB : Hid (Below C2.heap.size C2 XB) := HbY.out.trans (Hb9.out.1.mono HbY.out.size)
            rw [← hW, ← hb]
            clear hb hW
            refine hK.out _ _ (HS12.out XB HbXB.out) (fun hHeld => ?_)
            clear hK K
            try simp only [Act.put, List.setIfInBounds_toArray, List.set_cons_zero, List.set_cons_succ]
            refine wpAnyH_ready (rs := [9]) (by kernel_rfl) (by simp) ?_
            refine AllReadyH.cons rfl (fun K hK => ?_) AllReadyH.nil
            go_simp
            obtain ⟨b8, hb⟩ : ∃ b8, b8 = XB.heap.size := ⟨_, rfl⟩
            obtain ⟨XA, hW⟩ : ∃ XA, XA = XB.alloc (.cells #[.slice none 0 0, .slice none 0 0] 54) := ⟨_, rfl⟩
            have Hb8 : Hid (Below XB.heap.size XB XA ∧ XA.heap.size = XB.heap.size + 1 ∧ Bq b8 (.slice none 0 0) (.slice none 0 0) XA ∧ b8 = XB.heap.size) := by
              refine ⟨by rw [hW]; exact below_alloc _ _, by rw [hW]; simp, ?_, hb⟩
              rw [hW, hb]
              exact Bq.start _ _ _ _
            have HbXA : Hid (Below C2.heap.size C2 XA) := HbXB.out.trans (Hb8.out.1.mono HbXB.out.size)
            rw [← hW, ← hb]
            clear hb hW
            refine hK.out _ _ (HS12.out XA HbXA.out) (fun hHeld => ?_)
            clear hK K
            try simp only [Act.put, List.setIfInBounds_toArray, List.set_cons_zero, List.set_cons_succ]
            have HYZ : Hid (Below Y.heap.size Y XA) := ((Below.refl Y.heap.size Y).trans (Hb9.out.1.mono (Below.refl Y.heap.size Y).size)).trans (Hb8.out.1.mono ((Below.refl Y.heap.size Y).trans (Hb9.out.1.mono (Below.refl Y.heap.size Y).size)).size)
            have HA8 : Hid (Bq b8 (.slice none 0 0) (.slice none 0 0) XA) := Hb8.out.2.2.1
            have HA9 : Hid (R3 b9 (.int .i64 0) (.int .i64 0) (.slice none 0 0) XA) := (Hb9.out.2.2.1).below Hb8.out.1
            have HNs : Hid (C2.heap.size ≤ b8 ∧ C2.heap.size ≤ b9 ∧ b9 ≠ b8 ∧ (b8 < V.heap.size ∨ Y.heap.size ≤ b8) ∧ (b9 < V.heap.size ∨ Y.heap.size ≤ b9)) := by
              have m0 := HbV.out.size; have m1 := HY.out.size; have m2 := Hb8.out.2.1; have m3 := Hb8.out.2.2.2; have m4 := Hb9.out.2.1; have m5 := Hb9.out.2.2.2
              exact ⟨by omega, by omega, by omega, by omega, by omega⟩
            have HL12 : Hid (∀ g, Lc (Sf who b4 b6) C2.heap.size V.heap.size g → g < Y.heap.size → g ≠ b8 ∧ g ≠ b9) := fun g hg hs => by
              have h1 := hg.2
              have h2 := HNs.out
              exact ⟨by omega, by omega⟩
            obtain ⟨g1, g2, g3⟩ := ex9_cells HA8.out HA9.out HNs.out.2.2.1 (.slice p1 n1 c1) (.slice p2 n2 c2) (.int .i64 (Mo.tells s oo).err) (.int .i64 (Mo.tells s oo).at_) (.slice pr nr cr)
            obtain ⟨F, hF⟩ : ∃ F, F = ex9 XA b8 b9 (.slice p1 n1 c1) (.slice p2 n2 c2) (.int .i64 (Mo.tells s oo).err) (.int .i64 (Mo.tells s oo).at_) (.slice pr nr cr) := ⟨_, rfl⟩
            rw [← hF] at g2 g3
            have HF : Hid (Below C2.heap.size C2 F ∧ Bq b8 (.slice p1 n1 c1) (.slice p2 n2 c2) F ∧ R3 b9 (.int .i64 (Mo.tells s oo).err) (.int .i64 (Mo.tells s oo).at_) (.slice pr nr cr) F ∧ (nr = (Mo.tells s oo).posts.length ∧ RowC F 2 (.slice pr nr cr) nr (poCells (Mo.tells s oo).posts)) ∧ (∀ g, cBlk (.slice pr nr cr) = some g → Sf who b4 b6 g) ∧ Dv (Sf who b4 b6) F (.agg #[.slice p1 n1 c1, .slice p2 n2 c2]) (Mp.dDo q oo).1 ∧ C2.heap.size ≤ b8 ∧ C2.heap.size ≤ b9) := by
              have ho : ∀ g, Lc (Sf who b4 b6) C2.heap.size V.heap.size g → g < Y.heap.size → F.heap[g]? = Y.heap[g]? := fun g hg hs => by
                obtain ⟨a1, a2⟩ := HL12.out g hg hs
                rw [hF, ex9_other a1 a2, HYZ.out.block g hs]
              obtain ⟨r1, r2, r3, r4⟩ := HRe.out
              exact ⟨by rw [hF]; exact ex9_below HbXA.out HNs.out.1 HNs.out.2.1 _ _ _ _ _, g2, g3, ⟨r1, RowC.carry r2 (fun g hg => ho g (r3 g hg) (RowC.lt r2 (by decide) hg))⟩, fun g hg => (r3 g hg).1, r4.move ho (fun g hg _ => hg.1), HNs.out.1, HNs.out.2.1⟩
            clear g2 g3
            have HF9 : Hid (F = ex9 XA b8 b9 (.slice p1 n1 c1) (.slice p2 n2 c2) (.int .i64 (Mo.tells s oo).err) (.int .i64 (Mo.tells s oo).at_) (.slice pr nr cr)) := hF
            clear hF
            obtain ⟨z0, z1, h0, h1⟩ := HA8.out
            obtain ⟨y0, y1, y2, j0, j1, j2⟩ := g1
            refine wpAnyH_ready (rs := [11]) (by kernel_rfl) (by simp) ?_
            refine AllReadyH.cons rfl (fun K hK => ?_) AllReadyH.nil
            go_simp
            refine hK.out _ _ (HS12.out _ ((HbXA.out.setCell (p := ⟨b8, 0, none⟩) HNs.out.1 _).setCell (p := ⟨b8, 1, none⟩) HNs.out.1 _)) (fun hHeld => ?_)
            clear hK K
            try simp only [Act.put, List.setIfInBounds_toArray, List.set_cons_zero, List.set_cons_succ]
            refine wpAnyH_ready (rs := [12]) (by kernel_rfl) (by simp) ?_
            refine AllReadyH.cons rfl (fun K hK => ?_) AllReadyH.nil
            go_simp
            refine hK.out _ _ (HS12.out _ (((((HbXA.out.setCell (p := ⟨b8, 0, none⟩) HNs.out.1 _).setCell (p := ⟨b8, 1, none⟩) HNs.out.1 _).setCell (p := ⟨b9, 0, none⟩) HNs.out.2.1 _).setCell (p := ⟨b9, 1, none⟩) HNs.out.2.1 _).setCell (p := ⟨b9, 2, none⟩) HNs.out.2.1 _)) (fun hHeld => ?_)
            clear hK K hHeld
            refine wpAnyH_done (by kernel_rfl) ?_ _
            clear z0 z1 h0 h1 y0 y1 y2 j0 j1 j2
            have hF := HF9.out
            unfold ex9 at hF
            rw [← hF]
            clear hF HF9 HA8 HA9 HNs HL12 HYZ HRe HY HDo HS12

            have HC3 : Hid (Core w F B s who k b4 b6 l0 l1 o0 o1 u5) := HC2.out.below HF.out.1
            go_upto_region 13 with fail
            have HFd : Hid (Below F.heap.size F F.drew) := below_drewN F 1
            have hFd : Below F.heap.size F F.drew := HFd.out
            have HMd : Hid (∀ X, Below F.heap.size F X → Calls Try.prog 10 #[.pointer (some ⟨B, 0, none⟩), .agg #[.int .i64 oo.kind, .string oo.space, .string oo.channel, .string oo.user, .string oo.text, .string oo.toSpace, .string oo.to, .int .i64 oo.frm, .int .i64 oo.most]] X (DoOut who X B s k oo)) := fun X hX => Do_any (HC3.out.below hX).md (by omega) oo HOp.out
            have HS13 : Hid (∀ X, Below F.heap.size F X → ((X.cell? ⟨b9, 0, none⟩ = some (.int .i64 (Mo.tells s oo).err) ∧ X.cell? ⟨b9, 1, none⟩ = some (.int .i64 (Mo.tells s oo).at_) ∧ X.cell? ⟨b9, 2, none⟩ = some (.slice pr nr cr)) ∧ X.cell? ⟨g, o + k * 9, none⟩ = some (.int .i64 oo.kind) ∧ X.cell? ⟨g, o + k * 9 + 1, none⟩ = some (.string oo.space) ∧ X.cell? ⟨g, o + k * 9 + 2, none⟩ = some (.string oo.channel) ∧ X.cell? ⟨g, o + k * 9 + 3, none⟩ = some (.string oo.user) ∧ X.cell? ⟨g, o + k * 9 + 4, none⟩ = some (.string oo.text) ∧ X.cell? ⟨g, o + k * 9 + 5, none⟩ = some (.string oo.toSpace) ∧ X.cell? ⟨g, o + k * 9 + 6, none⟩ = some (.string oo.to) ∧ X.cell? ⟨g, o + k * 9 + 7, none⟩ = some (.int .i64 oo.frm) ∧ X.cell? ⟨g, o + k * 9 + 8, none⟩ = some (.int .i64 oo.most))) := fun X hX => ⟨⟨(HF.out.2.2.1.below hX).c0, (HF.out.2.2.1.below hX).c1, (HF.out.2.2.1.below hX).c2⟩, HSx.out X (HC3.out.old.trans (hX.mono HC3.out.old.size))⟩
            go_region_held (fun X => (X.cell? ⟨b9, 0, none⟩ = some (.int .i64 (Mo.tells s oo).err) ∧ X.cell? ⟨b9, 1, none⟩ = some (.int .i64 (Mo.tells s oo).at_) ∧ X.cell? ⟨b9, 2, none⟩ = some (.slice pr nr cr)) ∧ X.cell? ⟨g, o + k * 9, none⟩ = some (.int .i64 oo.kind) ∧ X.cell? ⟨g, o + k * 9 + 1, none⟩ = some (.string oo.space) ∧ X.cell? ⟨g, o + k * 9 + 2, none⟩ = some (.string oo.channel) ∧ X.cell? ⟨g, o + k * 9 + 3, none⟩ = some (.string oo.user) ∧ X.cell? ⟨g, o + k * 9 + 4, none⟩ = some (.string oo.text) ∧ X.cell? ⟨g, o + k * 9 + 5, none⟩ = some (.string oo.toSpace) ∧ X.cell? ⟨g, o + k * 9 + 6, none⟩ = some (.string oo.to) ∧ X.cell? ⟨g, o + k * 9 + 7, none⟩ = some (.int .i64 oo.frm) ∧ X.cell? ⟨g, o + k * 9 + 8, none⟩ = some (.int .i64 oo.most))
              (with_reducible first | assumption | exact HS13.out _ (by assumption))
              (first
                | (go_at_call 10; refine (HMd.out _ (by assumption)).mono ?_; rintro e G1 ⟨v, who', rfl, hrow, hnew, haft⟩
                   have HG1 : Hid (RowC G1 2 v (Mo.tells s oo).posts.length (poCells (Mo.tells s oo).posts) ∧ AftM who F.drew G1 B (Mo.does s oo) (k + 1) who') := ⟨hrow, haft⟩
                   have hG9 : who b9 = 0 ∧ b9 < F.drew.heap.size := by
                     have h1 := (HC2.out.new b9 HF.out.2.2.2.2.2.2.2).1
                     exact ⟨h1, HF.out.2.2.1.lt⟩
                   have hS9 : (G1.cell? ⟨b9, 0, none⟩ = some (.int .i64 (Mo.tells s oo).err) ∧ G1.cell? ⟨b9, 1, none⟩ = some (.int .i64 (Mo.tells s oo).at_) ∧ G1.cell? ⟨b9, 2, none⟩ = some (.slice pr nr cr)) ∧ G1.cell? ⟨g, o + k * 9, none⟩ = some (.int .i64 oo.kind) ∧ G1.cell? ⟨g, o + k * 9 + 1, none⟩ = some (.string oo.space) ∧ G1.cell? ⟨g, o + k * 9 + 2, none⟩ = some (.string oo.channel) ∧ G1.cell? ⟨g, o + k * 9 + 3, none⟩ = some (.string oo.user) ∧ G1.cell? ⟨g, o + k * 9 + 4, none⟩ = some (.string oo.text) ∧ G1.cell? ⟨g, o + k * 9 + 5, none⟩ = some (.string oo.toSpace) ∧ G1.cell? ⟨g, o + k * 9 + 6, none⟩ = some (.string oo.to) ∧ G1.cell? ⟨g, o + k * 9 + 7, none⟩ = some (.int .i64 oo.frm) ∧ G1.cell? ⟨g, o + k * 9 + 8, none⟩ = some (.int .i64 oo.most) := by
                     have hb : G1.heap[b9]? = F.drew.heap[b9]? := haft.2.2.block b9 hG9.2 hG9.1
                     have hr := (HF.out.2.2.1.below HFd.out).keep hb
                     exact ⟨⟨hr.c0, hr.c1, hr.c2⟩, HSx.out G1 ((HC3.out.below HFd.out).aft haft).old⟩
                   have HSame : Hid (Calls Try.prog 21 #[.agg #[.int .i64 (Mo.tells s oo).err, .int .i64 (Mo.tells s oo).at_, v], .agg #[.int .i64 (Mo.tells s oo).err, .int .i64 (Mo.tells s oo).at_, .slice pr nr cr]] G1 fun e w' => e = .returned (.bool true) ∧ Below G1.heap.size G1 w') := by
                     refine Same_eq _ _ (PoR.ofRow hrow) ?_
                     have hp := HF.out.2.2.2.1
                     have h2 : RowC F 2 (.slice pr nr cr) (Mo.tells s oo).posts.length (poCells (Mo.tells s oo).posts) := by rw [← hp.1]; exact hp.2
                     refine PoR.ofRow (RowC.carry h2 (fun g' hg' => ?_))
                     have h3 := (HF.out.2.2.2.2.1 g' hg').1
                     have h4 := RowC.lt h2 (by decide) hg'
                     exact haft.2.2.block g' h4 h3
                   clear hrow hnew haft hG9)
                | (go_at_call 21; refine HSame.out.mono ?_; rintro e G2 ⟨rfl, hb2⟩
                   have HG2 : Hid (Below G1.heap.size G1 G2) := hb2
                   have hS9' : (G2.cell? ⟨b9, 0, none⟩ = some (.int .i64 (Mo.tells s oo).err) ∧ G2.cell? ⟨b9, 1, none⟩ = some (.int .i64 (Mo.tells s oo).at_) ∧ G2.cell? ⟨b9, 2, none⟩ = some (.slice pr nr cr)) ∧ G2.cell? ⟨g, o + k * 9, none⟩ = some (.int .i64 oo.kind) ∧ G2.cell? ⟨g, o + k * 9 + 1, none⟩ = some (.string oo.space) ∧ G2.cell? ⟨g, o + k * 9 + 2, none⟩ = some (.string oo.channel) ∧ G2.cell? ⟨g, o + k * 9 + 3, none⟩ = some (.string oo.user) ∧ G2.cell? ⟨g, o + k * 9 + 4, none⟩ = some (.string oo.text) ∧ G2.cell? ⟨g, o + k * 9 + 5, none⟩ = some (.string oo.toSpace) ∧ G2.cell? ⟨g, o + k * 9 + 6, none⟩ = some (.string oo.to) ∧ G2.cell? ⟨g, o + k * 9 + 7, none⟩ = some (.int .i64 oo.frm) ∧ G2.cell? ⟨g, o + k * 9 + 8, none⟩ = some (.int .i64 oo.most) := by
                     obtain ⟨⟨q1, q2, q3⟩, q4, q5, q6, q7, q8, q9, q10, q11, q12⟩ := hS9
                     have no : ∀ (b j : Nat) (x : Value), G1.cell? ⟨b, j, none⟩ = some x → G2.cell? ⟨b, j, none⟩ = some x := fun b j x hx => (HG2.out.cell (p := ⟨b, j, none⟩) (World.block_lt_of_cell? _ _ hx)).trans hx
                     exact ⟨⟨no _ _ _ q1, no _ _ _ q2, no _ _ _ q3⟩, no _ _ _ q4, no _ _ _ q5, no _ _ _ q6, no _ _ _ q7, no _ _ _ q8, no _ _ _ q9, no _ _ _ q10, no _ _ _ q11, no _ _ _ q12⟩
                   clear hb2))
            have HC4 : Hid (Core w G2 B (Mo.does s oo) who' (k + 1) b4 b6 l0 l1 o0 o1 u5) := ((HC3.out.below HFd.out).aft HG1.out.2).below HG2.out
            have HD4 : Hid (Dv (Sf who' b4 b6) G2 (.agg #[.slice p1 n1 c1, .slice p2 n2 c2]) (Mp.dDo q oo).1) := ((HF.out.2.2.2.2.2.1.below HFd.out).aft HG1.out.2).below HG2.out
            have HQ8 : Hid (Bq b8 (.slice p1 n1 c1) (.slice p2 n2 c2) G2) := by
              have h1 := (HC2.out.new b8 HF.out.2.2.2.2.2.2.1).1
              have h2 := HF.out.2.1.below HFd.out
              exact (h2.keep (HG1.out.2.2.2.block b8 h2.lt h1)).below HG2.out
            have HR4 : Hid (Mp.Rel (Mo.does s oo) (Mp.dDo q oo).1 ∧ Lb (Mp.dDo q oo).1 ∧ Sz (k + 1) (Mp.dDo q oo).1) := ⟨(HD.out.2.1.step oo).1, HD.out.2.2.1.step oo, HD.out.2.2.2.step oo⟩
            clear hS9 hS9' hFd HSame HMd HS13 HG2 HG1 HFd HF HC3 HC2 HD2
            obtain ⟨d0, d1, _, _⟩ := HQ8.out
            obtain ⟨e0, e1, f0, f1⟩ := HC4.out.q4
            obtain ⟨G3, hG3⟩ : ∃ G3, G3 = (G2.setCell ⟨b4, 0, none⟩ (.slice p1 n1 c1)).setCell ⟨b4, 1, none⟩ (.slice p2 n2 c2) := ⟨_, rfl⟩
            have HC5 : Hid (Core w G3 B (Mo.does s oo) who' (k + 1) b4 b6 (.slice p1 n1 c1) (.slice p2 n2 c2) o0 o1 u5) := by rw [hG3]; exact HC4.out.set4 _ _
            have HD5 : Hid (Dv (Sf who' b4 b6) G3 (.agg #[.slice p1 n1 c1, .slice p2 n2 c2]) (Mp.dDo q oo).1) := by rw [hG3]; exact HD4.out.set4 _ _
            have HE3 : Hid (G3 = (G2.setCell ⟨b4, 0, none⟩ (.slice p1 n1 c1)).setCell ⟨b4, 1, none⟩ (.slice p2 n2 c2)) := hG3
            clear hG3
            go_upto_region 16 with fail
            rw [← HE3.out]
            clear d0 d1 e0 e1 f0 f1 HE3 HC4 HD4 HQ8
            by_cases hh : ((k : Int) == (n0 : Int) / 2) = true
            · have HCp : Hid (Calls Try.prog 22 #[.pointer (some ⟨B, 0, none⟩)] G3 fun e w' => ∃ B2 who2, e = .returned (.pointer (some ⟨B2, 0, none⟩)) ∧ Below G3.heap.size G3 w' ∧ Md w' B2 (Mo.does s oo) who2 (k + 1 + (k + 1)) ∧ ∀ k, who2 k ≠ 0 → G3.heap.size ≤ k) := by
                obtain ⟨bc, bo, f, cs, hV⟩ := HC5.out.md
                exact Copy_c hV (by omega)
              go_wp2_with fail
              refine Calls.mono HCp.out ?_
              rintro e G4 ⟨B2, who2, rfl, hb4, hm2, hlo2⟩
              have HM2 : Hid (Md G4 B2 (Mo.does s oo) who2 (k + 1 + (k + 1)) ∧ ∀ k, who2 k ≠ 0 → G3.heap.size ≤ k) := ⟨hm2, hlo2⟩
              have HC6 : Hid (Core w G4 B (Mo.does s oo) who' (k + 1) b4 b6 (.slice p1 n1 c1) (.slice p2 n2 c2) o0 o1 u5) := HC5.out.below hb4
              have HD6 : Hid (Dv (Sf who' b4 b6) G4 (.agg #[.slice p1 n1 c1, .slice p2 n2 c2]) (Mp.dDo q oo).1) := HD5.out.below hb4
              clear hb4 hm2 hlo2
              obtain ⟨e0, e1, _, _⟩ := HC6.out.q4
              obtain ⟨d0, d1, f0, f1⟩ := HC6.out.q6
              obtain ⟨G5, hG5⟩ : ∃ G5, G5 = (G4.setCell ⟨b6, 0, none⟩ (.slice p1 n1 c1)).setCell ⟨b6, 1, none⟩ (.slice p2 n2 c2) := ⟨_, rfl⟩
              have HC7 : Hid (Core w G5 B (Mo.does s oo) who' (k + 1) b4 b6 (.slice p1 n1 c1) (.slice p2 n2 c2) (.slice p1 n1 c1) (.slice p2 n2 c2) (.pointer (some ⟨B2, 0, none⟩))) := by
                rw [hG5]
                exact HC6.out.set6 _ _ _ (.inr ⟨B2, _, who2, _, _, rfl, HM2.out.1, by omega, fun j hj => HC5.out.new j (HM2.out.2 j hj), HD6.out, HR4.out.1, HR4.out.2.1, HR4.out.2.2.mono (by omega)⟩)
              have HN : Hid (Pst w G5 B b4 b6 (k + 1) (.pointer (some ⟨B2, 0, none⟩))) := ⟨who', _, _, _, _, _, _, HC7.out, by rw [hG5]; exact HD6.out.set6 _ _, HR4.out.1, HR4.out.2.1, HR4.out.2.2⟩
              have HE5 : Hid (G5 = (G4.setCell ⟨b6, 0, none⟩ (.slice p1 n1 c1)).setCell ⟨b6, 1, none⟩ (.slice p2 n2 c2)) := hG5
              clear hG5
              go_upto_region 19 with fail
              rw [← HE5.out]
              clear e0 e1 d0 d1 f0 f1 HE5
              go_wp2
              go_roundw
              case rel => exact ⟨k + 1, by go_num, by omega, by omega, HN⟩
              case measure => simp [intOf]; omega
            · have hh2 : ((k : Int) == (n0 : Int) / 2) = false := Bool.eq_false_iff.2 hh
              clear hh
              have HN : Hid (Pst w G3 B b4 b6 (k + 1) u5) := ⟨who', _, _, _, _, _, _, HC5.out, HD5.out, HR4.out.1, HR4.out.2.1, HR4.out.2.2⟩
              go_wp2
              go_roundw
              case rel => exact ⟨k + 1, by go_num, by omega, by omega, HN⟩
              case measure => simp [intOf]; omega
        · go_simp
          obtain ⟨b8, hb⟩ : ∃ b8, b8 = V.heap.size := ⟨_, rfl⟩
          obtain ⟨XA, hW⟩ : ∃ XA, XA = V.alloc (.cells #[.slice none 0 0, .slice none 0 0] 54) := ⟨_, rfl⟩
          have Hb8 : Hid (Below V.heap.size V XA ∧ XA.heap.size = V.heap.size + 1 ∧ Bq b8 (.slice none 0 0) (.slice none 0 0) XA ∧ b8 = V.heap.size) := by
            refine ⟨by rw [hW]; exact below_alloc _ _, by rw [hW]; simp, ?_, hb⟩
            rw [hW, hb]
            exact Bq.start _ _ _ _
          have HbXA : Hid (Below C2.heap.size C2 XA) := HbV.out.trans (Hb8.out.1.mono HbV.out.size)
          rw [← hW, ← hb]
          clear hb hW
          refine hK.out _ _ (HS12.out XA HbXA.out) (fun hHeld => ?_)
          clear hK K
          try simp only [Act.put, List.setIfInBounds_toArray, List.set_cons_zero, List.set_cons_succ]
          refine wpAnyH_ready (rs := [5, 10]) (by kernel_rfl) (by simp) ?_
          refine AllReadyH.cons rfl (fun K hK => ?_) (AllReadyH.cons rfl (fun K hK => ?_) AllReadyH.nil)
          · refine stepCall 42 rfl rfl 20 #[.agg #[l0, l1], .agg #[.int .i64 oo.kind, .string oo.space, .string oo.channel, .string oo.user, .string oo.text, .string oo.toSpace, .string oo.to, .int .i64 oo.frm, .int .i64 oo.most]] (by kernel_rfl) (HDo.out XA HbXA.out) ?_
            rintro e Y ⟨p1, n1, c1, p2, n2, c2, pr, nr, cr, rfl, hbY, HRe⟩
            refine ⟨_, rfl, ?_⟩
            have HY : Hid (Below XA.heap.size XA Y) := hbY
            have HbY : Hid (Below C2.heap.size C2 Y) := HbXA.out.trans (hbY.mono HbXA.out.size)
            clear hbY
            refine hK.out _ _ (HS12.out Y HbY.out) (fun hHeld => ?_)
            clear hK K
            try simp only [Act.put, List.setIfInBounds_toArray, List.set_cons_zero, List.set_cons_succ]
            refine take7 (i := 6) (d := 36) (v := .tuple #[.agg #[.slice p1 n1 c1, .slice p2 n2 c2], .agg #[.int .i64 (Mo.tells s oo).err, .int .i64 (Mo.tells s oo).at_, .slice pr nr cr]]) rfl rfl (by kernel_rfl) (by kernel_rfl) (by kernel_rfl) (fun _ _ _ h => h) (Or.inl ⟨by rfl, ?_⟩) (by assumption) ?_
            · intro X hSw
              go_simp
            simp only [Act.put, List.setIfInBounds_toArray, List.set_cons_zero, List.set_cons_succ]
            refine take7 (i := 7) (d := 43) (v := .agg #[.slice p1 n1 c1, .slice p2 n2 c2]) rfl rfl (by kernel_rfl) (by kernel_rfl) (by kernel_rfl) (fun _ _ _ h => h) (Or.inl ⟨by rfl, ?_⟩) (by assumption) ?_
            · intro X hSw
              go_simp
            simp only [Act.put, List.setIfInBounds_toArray, List.set_cons_zero, List.set_cons_succ]
            refine take7 (i := 8) (d := 44) (v := .agg #[.int .i64 (Mo.tells s oo).err, .int .i64 (Mo.tells s oo).at_, .slice pr nr cr]) rfl rfl (by kernel_rfl) (by kernel_rfl) (by kernel_rfl) (fun _ _ _ h => h) (Or.inl ⟨by rfl, ?_⟩) (by assumption) ?_
            · intro X hSw
              go_simp
            simp only [Act.put, List.setIfInBounds_toArray, List.set_cons_zero, List.set_cons_succ]
            refine wpAnyH_ready (rs := [10]) (by kernel_rfl) (by simp) ?_
            refine AllReadyH.cons rfl (fun K hK => ?_) AllReadyH.nil
            go_simp
            obtain ⟨b9, hb⟩ : ∃ b9, b9 = Y.heap.size := ⟨_, rfl⟩
            obtain ⟨XB, hW⟩ : ∃ XB, XB = Y.alloc (.cells #[.int .i64 0, .int .i64 0, .slice none 0 0] 29) := ⟨_, rfl⟩
            have Hb9 : Hid (Below Y.heap.size Y XB ∧ XB.heap.size = Y.heap.size + 1 ∧ R3 b9 (.int .i64 0) (.int .i64 0) (.slice none 0 0) XB ∧ b9 = Y.heap.size) := by
              refine ⟨by rw [hW]; exact below_alloc _ _, by rw [hW]; simp, ?_, hb⟩
              rw [hW, hb]
              exact R3.start _ _ _ _ _
            have HbXB : Hid (Below C2.heap.size C2 XB) := HbY.out.trans (Hb9.out.1.mono HbY.out.size)
            rw [← hW, ← hb]
            clear hb hW
            refine hK.out _ _ (HS12.out XB HbXB.out) (fun hHeld => ?_)
            clear hK K
            try simp only [Act.put, List.setIfInBounds_toArray, List.set_cons_zero, List.set_cons_succ]
            have HYZ : Hid (Below Y.heap.size Y XB) := (Below.refl Y.heap.size Y).trans (Hb9.out.1.mono (Below.refl Y.heap.size Y).size)
            have HA8 : Hid (Bq b8 (.slice none 0 0) (.slice none 0 0) XB) := ((Hb8.out.2.2.1).below HY.out).below Hb9.out.1
            have HA9 : Hid (R3 b9 (.int .i64 0) (.int .i64 0) (.slice none 0 0) XB) := Hb9.out.2.2.1
            have HNs : Hid (C2.heap.size ≤ b8 ∧ C2.heap.size ≤ b9 ∧ b9 ≠ b8 ∧ (b8 < XA.heap.size ∨ Y.heap.size ≤ b8) ∧ (b9 < XA.heap.size ∨ Y.heap.size ≤ b9)) := by
              have m0 := HbV.out.size; have m1 := HY.out.size; have m2 := Hb8.out.2.1; have m3 := Hb8.out.2.2.2; have m4 := Hb9.out.2.1; have m5 := Hb9.out.2.2.2
              exact ⟨by omega, by omega, by omega, by omega, by omega⟩
            have HL12 : Hid (∀ g, Lc (Sf who b4 b6) C2.heap.size XA.heap.size g → g < Y.heap.size → g ≠ b8 ∧ g ≠ b9) := fun g hg hs => by
              have h1 := hg.2
              have h2 := HNs.out
              exact ⟨by omega, by omega⟩
            obtain ⟨g1, g2, g3⟩ := ex9_cells HA8.out HA9.out HNs.out.2.2.1 (.slice p1 n1 c1) (.slice p2 n2 c2) (.int .i64 (Mo.tells s oo).err) (.int .i64 (Mo.tells s oo).at_) (.slice pr nr cr)
            obtain ⟨F, hF⟩ : ∃ F, F = ex9 XB b8 b9 (.slice p1 n1 c1) (.slice p2 n2 c2) (.int .i64 (Mo.tells s oo).err) (.int .i64 (Mo.tells s oo).at_) (.slice pr nr cr) := ⟨_, rfl⟩
            rw [← hF] at g2 g3
            have HF : Hid (Below C2.heap.size C2 F ∧ Bq b8 (.slice p1 n1 c1) (.slice p2 n2 c2) F ∧ R3 b9 (.int .i64 (Mo.tells s oo).err) (.int .i64 (Mo.tells s oo).at_) (.slice pr nr cr) F ∧ (nr = (Mo.tells s oo).posts.length ∧ RowC F 2 (.slice pr nr cr) nr (poCells (Mo.tells s oo).posts)) ∧ (∀ g, cBlk (.slice pr nr cr) = some g → Sf who b4 b6 g) ∧ Dv (Sf who b4 b6) F (.agg #[.slice p1 n1 c1, .slice p2 n2 c2]) (Mp.dDo q oo).1 ∧ C2.heap.size ≤ b8 ∧ C2.heap.size ≤ b9) := by
              have ho : ∀ g, Lc (Sf who b4 b6) C2.heap.size XA.heap.size g → g < Y.heap.size → F.heap[g]? = Y.heap[g]? := fun g hg hs => by
                obtain ⟨a1, a2⟩ := HL12.out g hg hs
                rw [hF, ex9_other a1 a2, HYZ.out.block g hs]
              obtain ⟨r1, r2, r3, r4⟩ := HRe.out
              exact ⟨by rw [hF]; exact ex9_below HbXB.out HNs.out.1 HNs.out.2.1 _ _ _ _ _, g2, g3, ⟨r1, RowC.carry r2 (fun g hg => ho g (r3 g hg) (RowC.lt r2 (by decide) hg))⟩, fun g hg => (r3 g hg).1, r4.move ho (fun g hg _ => hg.1), HNs.out.1, HNs.out.2.1⟩
            clear g2 g3
            have HF9 : Hid (F = ex9 XB b8 b9 (.slice p1 n1 c1) (.slice p2 n2 c2) (.int .i64 (Mo.tells s oo).err) (.int .i64 (Mo.tells s oo).at_) (.slice pr nr cr)) := hF
            clear hF
            obtain ⟨z0, z1, h0, h1⟩ := HA8.out
            obtain ⟨y0, y1, y2, j0, j1, j2⟩ := g1
            refine wpAnyH_ready (rs := [11]) (by kernel_rfl) (by simp) ?_
            refine AllReadyH.cons rfl (fun K hK => ?_) AllReadyH.nil
            go_simp
            refine hK.out _ _ (HS12.out _ ((HbXB.out.setCell (p := ⟨b8, 0, none⟩) HNs.out.1 _).setCell (p := ⟨b8, 1, none⟩) HNs.out.1 _)) (fun hHeld => ?_)
            clear hK K
            try simp only [Act.put, List.setIfInBounds_toArray, List.set_cons_zero, List.set_cons_succ]
            refine wpAnyH_ready (rs := [12]) (by kernel_rfl) (by simp) ?_
            refine AllReadyH.cons rfl (fun K hK => ?_) AllReadyH.nil
            go_simp
            refine hK.out _ _ (HS12.out _ (((((HbXB.out.setCell (p := ⟨b8, 0, none⟩) HNs.out.1 _).setCell (p := ⟨b8, 1, none⟩) HNs.out.1 _).setCell (p := ⟨b9, 0, none⟩) HNs.out.2.1 _).setCell (p := ⟨b9, 1, none⟩) HNs.out.2.1 _).setCell (p := ⟨b9, 2, none⟩) HNs.out.2.1 _)) (fun hHeld => ?_)
            clear hK K hHeld
            refine wpAnyH_done (by kernel_rfl) ?_ _
            clear z0 z1 h0 h1 y0 y1 y2 j0 j1 j2
            have hF := HF9.out
            unfold ex9 at hF
            rw [← hF]
            clear hF HF9 HA8 HA9 HNs HL12 HYZ HRe HY HDo HS12

            have HC3 : Hid (Core w F B s who k b4 b6 l0 l1 o0 o1 u5) := HC2.out.below HF.out.1
            go_upto_region 13 with fail
            have HFd : Hid (Below F.heap.size F F.drew) := below_drewN F 1
            have hFd : Below F.heap.size F F.drew := HFd.out
            have HMd : Hid (∀ X, Below F.heap.size F X → Calls Try.prog 10 #[.pointer (some ⟨B, 0, none⟩), .agg #[.int .i64 oo.kind, .string oo.space, .string oo.channel, .string oo.user, .string oo.text, .string oo.toSpace, .string oo.to, .int .i64 oo.frm, .int .i64 oo.most]] X (DoOut who X B s k oo)) := fun X hX => Do_any (HC3.out.below hX).md (by omega) oo HOp.out
            have HS13 : Hid (∀ X, Below F.heap.size F X → ((X.cell? ⟨b9, 0, none⟩ = some (.int .i64 (Mo.tells s oo).err) ∧ X.cell? ⟨b9, 1, none⟩ = some (.int .i64 (Mo.tells s oo).at_) ∧ X.cell? ⟨b9, 2, none⟩ = some (.slice pr nr cr)) ∧ X.cell? ⟨g, o + k * 9, none⟩ = some (.int .i64 oo.kind) ∧ X.cell? ⟨g, o + k * 9 + 1, none⟩ = some (.string oo.space) ∧ X.cell? ⟨g, o + k * 9 + 2, none⟩ = some (.string oo.channel) ∧ X.cell? ⟨g, o + k * 9 + 3, none⟩ = some (.string oo.user) ∧ X.cell? ⟨g, o + k * 9 + 4, none⟩ = some (.string oo.text) ∧ X.cell? ⟨g, o + k * 9 + 5, none⟩ = some (.string oo.toSpace) ∧ X.cell? ⟨g, o + k * 9 + 6, none⟩ = some (.string oo.to) ∧ X.cell? ⟨g, o + k * 9 + 7, none⟩ = some (.int .i64 oo.frm) ∧ X.cell? ⟨g, o + k * 9 + 8, none⟩ = some (.int .i64 oo.most))) := fun X hX => ⟨⟨(HF.out.2.2.1.below hX).c0, (HF.out.2.2.1.below hX).c1, (HF.out.2.2.1.below hX).c2⟩, HSx.out X (HC3.out.old.trans (hX.mono HC3.out.old.size))⟩
            go_region_held (fun X => (X.cell? ⟨b9, 0, none⟩ = some (.int .i64 (Mo.tells s oo).err) ∧ X.cell? ⟨b9, 1, none⟩ = some (.int .i64 (Mo.tells s oo).at_) ∧ X.cell? ⟨b9, 2, none⟩ = some (.slice pr nr cr)) ∧ X.cell? ⟨g, o + k * 9, none⟩ = some (.int .i64 oo.kind) ∧ X.cell? ⟨g, o + k * 9 + 1, none⟩ = some (.string oo.space) ∧ X.cell? ⟨g, o + k * 9 + 2, none⟩ = some (.string oo.channel) ∧ X.cell? ⟨g, o + k * 9 + 3, none⟩ = some (.string oo.user) ∧ X.cell? ⟨g, o + k * 9 + 4, none⟩ = some (.string oo.text) ∧ X.cell? ⟨g, o + k * 9 + 5, none⟩ = some (.string oo.toSpace) ∧ X.cell? ⟨g, o + k * 9 + 6, none⟩ = some (.string oo.to) ∧ X.cell? ⟨g, o + k * 9 + 7, none⟩ = some (.int .i64 oo.frm) ∧ X.cell? ⟨g, o + k * 9 + 8, none⟩ = some (.int .i64 oo.most))
              (with_reducible first | assumption | exact HS13.out _ (by assumption))
              (first
                | (go_at_call 10; refine (HMd.out _ (by assumption)).mono ?_; rintro e G1 ⟨v, who', rfl, hrow, hnew, haft⟩
                   have HG1 : Hid (RowC G1 2 v (Mo.tells s oo).posts.length (poCells (Mo.tells s oo).posts) ∧ AftM who F.drew G1 B (Mo.does s oo) (k + 1) who') := ⟨hrow, haft⟩
                   have hG9 : who b9 = 0 ∧ b9 < F.drew.heap.size := by
                     have h1 := (HC2.out.new b9 HF.out.2.2.2.2.2.2.2).1
                     exact ⟨h1, HF.out.2.2.1.lt⟩
                   have hS9 : (G1.cell? ⟨b9, 0, none⟩ = some (.int .i64 (Mo.tells s oo).err) ∧ G1.cell? ⟨b9, 1, none⟩ = some (.int .i64 (Mo.tells s oo).at_) ∧ G1.cell? ⟨b9, 2, none⟩ = some (.slice pr nr cr)) ∧ G1.cell? ⟨g, o + k * 9, none⟩ = some (.int .i64 oo.kind) ∧ G1.cell? ⟨g, o + k * 9 + 1, none⟩ = some (.string oo.space) ∧ G1.cell? ⟨g, o + k * 9 + 2, none⟩ = some (.string oo.channel) ∧ G1.cell? ⟨g, o + k * 9 + 3, none⟩ = some (.string oo.user) ∧ G1.cell? ⟨g, o + k * 9 + 4, none⟩ = some (.string oo.text) ∧ G1.cell? ⟨g, o + k * 9 + 5, none⟩ = some (.string oo.toSpace) ∧ G1.cell? ⟨g, o + k * 9 + 6, none⟩ = some (.string oo.to) ∧ G1.cell? ⟨g, o + k * 9 + 7, none⟩ = some (.int .i64 oo.frm) ∧ G1.cell? ⟨g, o + k * 9 + 8, none⟩ = some (.int .i64 oo.most) := by
                     have hb : G1.heap[b9]? = F.drew.heap[b9]? := haft.2.2.block b9 hG9.2 hG9.1
                     have hr := (HF.out.2.2.1.below HFd.out).keep hb
                     exact ⟨⟨hr.c0, hr.c1, hr.c2⟩, HSx.out G1 ((HC3.out.below HFd.out).aft haft).old⟩
                   have HSame : Hid (Calls Try.prog 21 #[.agg #[.int .i64 (Mo.tells s oo).err, .int .i64 (Mo.tells s oo).at_, v], .agg #[.int .i64 (Mo.tells s oo).err, .int .i64 (Mo.tells s oo).at_, .slice pr nr cr]] G1 fun e w' => e = .returned (.bool true) ∧ Below G1.heap.size G1 w') := by
                     refine Same_eq _ _ (PoR.ofRow hrow) ?_
                     have hp := HF.out.2.2.2.1
                     have h2 : RowC F 2 (.slice pr nr cr) (Mo.tells s oo).posts.length (poCells (Mo.tells s oo).posts) := by rw [← hp.1]; exact hp.2
                     refine PoR.ofRow (RowC.carry h2 (fun g' hg' => ?_))
                     have h3 := (HF.out.2.2.2.2.1 g' hg').1
                     have h4 := RowC.lt h2 (by decide) hg'
                     exact haft.2.2.block g' h4 h3
                   clear hrow hnew haft hG9)
                | (go_at_call 21; refine HSame.out.mono ?_; rintro e G2 ⟨rfl, hb2⟩
                   have HG2 : Hid (Below G1.heap.size G1 G2) := hb2
                   have hS9' : (G2.cell? ⟨b9, 0, none⟩ = some (.int .i64 (Mo.tells s oo).err) ∧ G2.cell? ⟨b9, 1, none⟩ = some (.int .i64 (Mo.tells s oo).at_) ∧ G2.cell? ⟨b9, 2, none⟩ = some (.slice pr nr cr)) ∧ G2.cell? ⟨g, o + k * 9, none⟩ = some (.int .i64 oo.kind) ∧ G2.cell? ⟨g, o + k * 9 + 1, none⟩ = some (.string oo.space) ∧ G2.cell? ⟨g, o + k * 9 + 2, none⟩ = some (.string oo.channel) ∧ G2.cell? ⟨g, o + k * 9 + 3, none⟩ = some (.string oo.user) ∧ G2.cell? ⟨g, o + k * 9 + 4, none⟩ = some (.string oo.text) ∧ G2.cell? ⟨g, o + k * 9 + 5, none⟩ = some (.string oo.toSpace) ∧ G2.cell? ⟨g, o + k * 9 + 6, none⟩ = some (.string oo.to) ∧ G2.cell? ⟨g, o + k * 9 + 7, none⟩ = some (.int .i64 oo.frm) ∧ G2.cell? ⟨g, o + k * 9 + 8, none⟩ = some (.int .i64 oo.most) := by
                     obtain ⟨⟨q1, q2, q3⟩, q4, q5, q6, q7, q8, q9, q10, q11, q12⟩ := hS9
                     have no : ∀ (b j : Nat) (x : Value), G1.cell? ⟨b, j, none⟩ = some x → G2.cell? ⟨b, j, none⟩ = some x := fun b j x hx => (HG2.out.cell (p := ⟨b, j, none⟩) (World.block_lt_of_cell? _ _ hx)).trans hx
                     exact ⟨⟨no _ _ _ q1, no _ _ _ q2, no _ _ _ q3⟩, no _ _ _ q4, no _ _ _ q5, no _ _ _ q6, no _ _ _ q7, no _ _ _ q8, no _ _ _ q9, no _ _ _ q10, no _ _ _ q11, no _ _ _ q12⟩
                   clear hb2))
            have HC4 : Hid (Core w G2 B (Mo.does s oo) who' (k + 1) b4 b6 l0 l1 o0 o1 u5) := ((HC3.out.below HFd.out).aft HG1.out.2).below HG2.out
            have HD4 : Hid (Dv (Sf who' b4 b6) G2 (.agg #[.slice p1 n1 c1, .slice p2 n2 c2]) (Mp.dDo q oo).1) := ((HF.out.2.2.2.2.2.1.below HFd.out).aft HG1.out.2).below HG2.out
            have HQ8 : Hid (Bq b8 (.slice p1 n1 c1) (.slice p2 n2 c2) G2) := by
              have h1 := (HC2.out.new b8 HF.out.2.2.2.2.2.2.1).1
              have h2 := HF.out.2.1.below HFd.out
              exact (h2.keep (HG1.out.2.2.2.block b8 h2.lt h1)).below HG2.out
            have HR4 : Hid (Mp.Rel (Mo.does s oo) (Mp.dDo q oo).1 ∧ Lb (Mp.dDo q oo).1 ∧ Sz (k + 1) (Mp.dDo q oo).1) := ⟨(HD.out.2.1.step oo).1, HD.out.2.2.1.step oo, HD.out.2.2.2.step oo⟩
            clear hS9 hS9' hFd HSame HMd HS13 HG2 HG1 HFd HF HC3 HC2 HD2
            obtain ⟨d0, d1, _, _⟩ := HQ8.out
            obtain ⟨e0, e1, f0, f1⟩ := HC4.out.q4
            obtain ⟨G3, hG3⟩ : ∃ G3, G3 = (G2.setCell ⟨b4, 0, none⟩ (.slice p1 n1 c1)).setCell ⟨b4, 1, none⟩ (.slice p2 n2 c2) := ⟨_, rfl⟩
            have HC5 : Hid (Core w G3 B (Mo.does s oo) who' (k + 1) b4 b6 (.slice p1 n1 c1) (.slice p2 n2 c2) o0 o1 u5) := by rw [hG3]; exact HC4.out.set4 _ _
            have HD5 : Hid (Dv (Sf who' b4 b6) G3 (.agg #[.slice p1 n1 c1, .slice p2 n2 c2]) (Mp.dDo q oo).1) := by rw [hG3]; exact HD4.out.set4 _ _
            have HE3 : Hid (G3 = (G2.setCell ⟨b4, 0, none⟩ (.slice p1 n1 c1)).setCell ⟨b4, 1, none⟩ (.slice p2 n2 c2)) := hG3
            clear hG3
            go_upto_region 16 with fail
            rw [← HE3.out]
            clear d0 d1 e0 e1 f0 f1 HE3 HC4 HD4 HQ8
            by_cases hh : ((k : Int) == (n0 : Int) / 2) = true
            · have HCp : Hid (Calls Try.prog 22 #[.pointer (some ⟨B, 0, none⟩)] G3 fun e w' => ∃ B2 who2, e = .returned (.pointer (some ⟨B2, 0, none⟩)) ∧ Below G3.heap.size G3 w' ∧ Md w' B2 (Mo.does s oo) who2 (k + 1 + (k + 1)) ∧ ∀ k, who2 k ≠ 0 → G3.heap.size ≤ k) := by
                obtain ⟨bc, bo, f, cs, hV⟩ := HC5.out.md
                exact Copy_c hV (by omega)
              go_wp2_with fail
              refine Calls.mono HCp.out ?_
              rintro e G4 ⟨B2, who2, rfl, hb4, hm2, hlo2⟩
              have HM2 : Hid (Md G4 B2 (Mo.does s oo) who2 (k + 1 + (k + 1)) ∧ ∀ k, who2 k ≠ 0 → G3.heap.size ≤ k) := ⟨hm2, hlo2⟩
              have HC6 : Hid (Core w G4 B (Mo.does s oo) who' (k + 1) b4 b6 (.slice p1 n1 c1) (.slice p2 n2 c2) o0 o1 u5) := HC5.out.below hb4
              have HD6 : Hid (Dv (Sf who' b4 b6) G4 (.agg #[.slice p1 n1 c1, .slice p2 n2 c2]) (Mp.dDo q oo).1) := HD5.out.below hb4
              clear hb4 hm2 hlo2
              obtain ⟨e0, e1, _, _⟩ := HC6.out.q4
              obtain ⟨d0, d1, f0, f1⟩ := HC6.out.q6
              obtain ⟨G5, hG5⟩ : ∃ G5, G5 = (G4.setCell ⟨b6, 0, none⟩ (.slice p1 n1 c1)).setCell ⟨b6, 1, none⟩ (.slice p2 n2 c2) := ⟨_, rfl⟩
              have HC7 : Hid (Core w G5 B (Mo.does s oo) who' (k + 1) b4 b6 (.slice p1 n1 c1) (.slice p2 n2 c2) (.slice p1 n1 c1) (.slice p2 n2 c2) (.pointer (some ⟨B2, 0, none⟩))) := by
                rw [hG5]
                exact HC6.out.set6 _ _ _ (.inr ⟨B2, _, who2, _, _, rfl, HM2.out.1, by omega, fun j hj => HC5.out.new j (HM2.out.2 j hj), HD6.out, HR4.out.1, HR4.out.2.1, HR4.out.2.2.mono (by omega)⟩)
              have HN : Hid (Pst w G5 B b4 b6 (k + 1) (.pointer (some ⟨B2, 0, none⟩))) := ⟨who', _, _, _, _, _, _, HC7.out, by rw [hG5]; exact HD6.out.set6 _ _, HR4.out.1, HR4.out.2.1, HR4.out.2.2⟩
              have HE5 : Hid (G5 = (G4.setCell ⟨b6, 0, none⟩ (.slice p1 n1 c1)).setCell ⟨b6, 1, none⟩ (.slice p2 n2 c2)) := hG5
              clear hG5
              go_upto_region 19 with fail
              rw [← HE5.out]
              clear e0 e1 d0 d1 f0 f1 HE5
              go_wp2
              go_roundw
              case rel => exact ⟨k + 1, by go_num, by omega, by omega, HN⟩
              case measure => simp [intOf]; omega
            · have hh2 : ((k : Int) == (n0 : Int) / 2) = false := Bool.eq_false_iff.2 hh
              clear hh
              have HN : Hid (Pst w G3 B b4 b6 (k + 1) u5) := ⟨who', _, _, _, _, _, _, HC5.out, HD5.out, HR4.out.1, HR4.out.2.1, HR4.out.2.2⟩
              go_wp2
              go_roundw
              case rel => exact ⟨k + 1, by go_num, by omega, by omega, HN⟩
              case measure => simp [intOf]; omega
          · go_simp
            obtain ⟨b9, hb⟩ : ∃ b9, b9 = XA.heap.size := ⟨_, rfl⟩
            obtain ⟨XB, hW⟩ : ∃ XB, XB = XA.alloc (.cells #[.int .i64 0, .int .i64 0, .slice none 0 0] 29) := ⟨_, rfl⟩
            have Hb9 : Hid (Below XA.heap.size XA XB ∧ XB.heap.size = XA.heap.size + 1 ∧ R3 b9 (.int .i64 0) (.int .i64 0) (.slice none 0 0) XB ∧ b9 = XA.heap.size) := by
              refine ⟨by rw [hW]; exact below_alloc _ _, by rw [hW]; simp, ?_, hb⟩
              rw [hW, hb]
              exact R3.start _ _ _ _ _
            have HbXB : Hid (Below C2.heap.size C2 XB) := HbXA.out.trans (Hb9.out.1.mono HbXA.out.size)
            rw [← hW, ← hb]
            clear hb hW
            refine hK.out _ _ (HS12.out XB HbXB.out) (fun hHeld => ?_)
            clear hK K
            try simp only [Act.put, List.setIfInBounds_toArray, List.set_cons_zero, List.set_cons_succ]
            refine wpAnyH_ready (rs := [5]) (by kernel_rfl) (by simp) ?_
            refine AllReadyH.cons rfl (fun K hK => ?_) AllReadyH.nil
            refine stepCall 42 rfl rfl 20 #[.agg #[l0, l1], .agg #[.int .i64 oo.kind, .string oo.space, .string oo.channel, .string oo.user, .string oo.text, .string oo.toSpace, .string oo.to, .int .i64 oo.frm, .int .i64 oo.most]] (by kernel_rfl) (HDo.out XB HbXB.out) ?_
            rintro e Y ⟨p1, n1, c1, p2, n2, c2, pr, nr, cr, rfl, hbY, HRe⟩
            refine ⟨_, rfl, ?_⟩
            have HY : Hid (Below XB.heap.size XB Y) := hbY
            have HbY : Hid (Below C2.heap.size C2 Y) := HbXB.out.trans (hbY.mono HbXB.out.size)
            clear hbY
            refine hK.out _ _ (HS12.out Y HbY.out) (fun hHeld => ?_)
            clear hK K
            try simp only [Act.put, List.setIfInBounds_toArray, List.set_cons_zero, List.set_cons_succ]
            refine take7 (i := 6) (d := 36) (v := .tuple #[.agg #[.slice p1 n1 c1, .slice p2 n2 c2], .agg #[.int .i64 (Mo.tells s oo).err, .int .i64 (Mo.tells s oo).at_, .slice pr nr cr]]) rfl rfl (by kernel_rfl) (by kernel_rfl) (by kernel_rfl) (fun _ _ _ h => h) (Or.inl ⟨by rfl, ?_⟩) (by assumption) ?_
            · intro X hSw
              go_simp
            simp only [Act.put, List.setIfInBounds_toArray, List.set_cons_zero, List.set_cons_succ]
            refine take7 (i := 7) (d := 43) (v := .agg #[.slice p1 n1 c1, .slice p2 n2 c2]) rfl rfl (by kernel_rfl) (by kernel_rfl) (by kernel_rfl) (fun _ _ _ h => h) (Or.inl ⟨by rfl, ?_⟩) (by assumption) ?_
            · intro X hSw
              go_simp
            simp only [Act.put, List.setIfInBounds_toArray, List.set_cons_zero, List.set_cons_succ]
            refine take7 (i := 8) (d := 44) (v := .agg #[.int .i64 (Mo.tells s oo).err, .int .i64 (Mo.tells s oo).at_, .slice pr nr cr]) rfl rfl (by kernel_rfl) (by kernel_rfl) (by kernel_rfl) (fun _ _ _ h => h) (Or.inl ⟨by rfl, ?_⟩) (by assumption) ?_
            · intro X hSw
              go_simp
            simp only [Act.put, List.setIfInBounds_toArray, List.set_cons_zero, List.set_cons_succ]
            have HYZ : Hid (Below Y.heap.size Y Y) := Below.refl Y.heap.size Y
            have HA8 : Hid (Bq b8 (.slice none 0 0) (.slice none 0 0) Y) := ((Hb8.out.2.2.1).below Hb9.out.1).below HY.out
            have HA9 : Hid (R3 b9 (.int .i64 0) (.int .i64 0) (.slice none 0 0) Y) := (Hb9.out.2.2.1).below HY.out
            have HNs : Hid (C2.heap.size ≤ b8 ∧ C2.heap.size ≤ b9 ∧ b9 ≠ b8 ∧ (b8 < XB.heap.size ∨ Y.heap.size ≤ b8) ∧ (b9 < XB.heap.size ∨ Y.heap.size ≤ b9)) := by
              have m0 := HbV.out.size; have m1 := HY.out.size; have m2 := Hb8.out.2.1; have m3 := Hb8.out.2.2.2; have m4 := Hb9.out.2.1; have m5 := Hb9.out.2.2.2
              exact ⟨by omega, by omega, by omega, by omega, by omega⟩
            have HL12 : Hid (∀ g, Lc (Sf who b4 b6) C2.heap.size XB.heap.size g → g < Y.heap.size → g ≠ b8 ∧ g ≠ b9) := fun g hg hs => by
              have h1 := hg.2
              have h2 := HNs.out
              exact ⟨by omega, by omega⟩
            obtain ⟨g1, g2, g3⟩ := ex9_cells HA8.out HA9.out HNs.out.2.2.1 (.slice p1 n1 c1) (.slice p2 n2 c2) (.int .i64 (Mo.tells s oo).err) (.int .i64 (Mo.tells s oo).at_) (.slice pr nr cr)
            obtain ⟨F, hF⟩ : ∃ F, F = ex9 Y b8 b9 (.slice p1 n1 c1) (.slice p2 n2 c2) (.int .i64 (Mo.tells s oo).err) (.int .i64 (Mo.tells s oo).at_) (.slice pr nr cr) := ⟨_, rfl⟩
            rw [← hF] at g2 g3
            have HF : Hid (Below C2.heap.size C2 F ∧ Bq b8 (.slice p1 n1 c1) (.slice p2 n2 c2) F ∧ R3 b9 (.int .i64 (Mo.tells s oo).err) (.int .i64 (Mo.tells s oo).at_) (.slice pr nr cr) F ∧ (nr = (Mo.tells s oo).posts.length ∧ RowC F 2 (.slice pr nr cr) nr (poCells (Mo.tells s oo).posts)) ∧ (∀ g, cBlk (.slice pr nr cr) = some g → Sf who b4 b6 g) ∧ Dv (Sf who b4 b6) F (.agg #[.slice p1 n1 c1, .slice p2 n2 c2]) (Mp.dDo q oo).1 ∧ C2.heap.size ≤ b8 ∧ C2.heap.size ≤ b9) := by
              have ho : ∀ g, Lc (Sf who b4 b6) C2.heap.size XB.heap.size g → g < Y.heap.size → F.heap[g]? = Y.heap[g]? := fun g hg hs => by
                obtain ⟨a1, a2⟩ := HL12.out g hg hs
                rw [hF, ex9_other a1 a2, HYZ.out.block g hs]
              obtain ⟨r1, r2, r3, r4⟩ := HRe.out
              exact ⟨by rw [hF]; exact ex9_below HbY.out HNs.out.1 HNs.out.2.1 _ _ _ _ _, g2, g3, ⟨r1, RowC.carry r2 (fun g hg => ho g (r3 g hg) (RowC.lt r2 (by decide) hg))⟩, fun g hg => (r3 g hg).1, r4.move ho (fun g hg _ => hg.1), HNs.out.1, HNs.out.2.1⟩
            clear g2 g3
            have HF9 : Hid (F = ex9 Y b8 b9 (.slice p1 n1 c1) (.slice p2 n2 c2) (.int .i64 (Mo.tells s oo).err) (.int .i64 (Mo.tells s oo).at_) (.slice pr nr cr)) := hF
            clear hF
            obtain ⟨z0, z1, h0, h1⟩ := HA8.out
            obtain ⟨y0, y1, y2, j0, j1, j2⟩ := g1
            refine wpAnyH_ready (rs := [11]) (by kernel_rfl) (by simp) ?_
            refine AllReadyH.cons rfl (fun K hK => ?_) AllReadyH.nil
            go_simp
            refine hK.out _ _ (HS12.out _ ((HbY.out.setCell (p := ⟨b8, 0, none⟩) HNs.out.1 _).setCell (p := ⟨b8, 1, none⟩) HNs.out.1 _)) (fun hHeld => ?_)
            clear hK K
            try simp only [Act.put, List.setIfInBounds_toArray, List.set_cons_zero, List.set_cons_succ]
            refine wpAnyH_ready (rs := [12]) (by kernel_rfl) (by simp) ?_
            refine AllReadyH.cons rfl (fun K hK => ?_) AllReadyH.nil
            go_simp
            refine hK.out _ _ (HS12.out _ (((((HbY.out.setCell (p := ⟨b8, 0, none⟩) HNs.out.1 _).setCell (p := ⟨b8, 1, none⟩) HNs.out.1 _).setCell (p := ⟨b9, 0, none⟩) HNs.out.2.1 _).setCell (p := ⟨b9, 1, none⟩) HNs.out.2.1 _).setCell (p := ⟨b9, 2, none⟩) HNs.out.2.1 _)) (fun hHeld => ?_)
            clear hK K hHeld
            refine wpAnyH_done (by kernel_rfl) ?_ _
            clear z0 z1 h0 h1 y0 y1 y2 j0 j1 j2
            have hF := HF9.out
            unfold ex9 at hF
            rw [← hF]
            clear hF HF9 HA8 HA9 HNs HL12 HYZ HRe HY HDo HS12

            have HC3 : Hid (Core w F B s who k b4 b6 l0 l1 o0 o1 u5) := HC2.out.below HF.out.1
            go_upto_region 13 with fail
            have HFd : Hid (Below F.heap.size F F.drew) := below_drewN F 1
            have hFd : Below F.heap.size F F.drew := HFd.out
            have HMd : Hid (∀ X, Below F.heap.size F X → Calls Try.prog 10 #[.pointer (some ⟨B, 0, none⟩), .agg #[.int .i64 oo.kind, .string oo.space, .string oo.channel, .string oo.user, .string oo.text, .string oo.toSpace, .string oo.to, .int .i64 oo.frm, .int .i64 oo.most]] X (DoOut who X B s k oo)) := fun X hX => Do_any (HC3.out.below hX).md (by omega) oo HOp.out
            have HS13 : Hid (∀ X, Below F.heap.size F X → ((X.cell? ⟨b9, 0, none⟩ = some (.int .i64 (Mo.tells s oo).err) ∧ X.cell? ⟨b9, 1, none⟩ = some (.int .i64 (Mo.tells s oo).at_) ∧ X.cell? ⟨b9, 2, none⟩ = some (.slice pr nr cr)) ∧ X.cell? ⟨g, o + k * 9, none⟩ = some (.int .i64 oo.kind) ∧ X.cell? ⟨g, o + k * 9 + 1, none⟩ = some (.string oo.space) ∧ X.cell? ⟨g, o + k * 9 + 2, none⟩ = some (.string oo.channel) ∧ X.cell? ⟨g, o + k * 9 + 3, none⟩ = some (.string oo.user) ∧ X.cell? ⟨g, o + k * 9 + 4, none⟩ = some (.string oo.text) ∧ X.cell? ⟨g, o + k * 9 + 5, none⟩ = some (.string oo.toSpace) ∧ X.cell? ⟨g, o + k * 9 + 6, none⟩ = some (.string oo.to) ∧ X.cell? ⟨g, o + k * 9 + 7, none⟩ = some (.int .i64 oo.frm) ∧ X.cell? ⟨g, o + k * 9 + 8, none⟩ = some (.int .i64 oo.most))) := fun X hX => ⟨⟨(HF.out.2.2.1.below hX).c0, (HF.out.2.2.1.below hX).c1, (HF.out.2.2.1.below hX).c2⟩, HSx.out X (HC3.out.old.trans (hX.mono HC3.out.old.size))⟩
            go_region_held (fun X => (X.cell? ⟨b9, 0, none⟩ = some (.int .i64 (Mo.tells s oo).err) ∧ X.cell? ⟨b9, 1, none⟩ = some (.int .i64 (Mo.tells s oo).at_) ∧ X.cell? ⟨b9, 2, none⟩ = some (.slice pr nr cr)) ∧ X.cell? ⟨g, o + k * 9, none⟩ = some (.int .i64 oo.kind) ∧ X.cell? ⟨g, o + k * 9 + 1, none⟩ = some (.string oo.space) ∧ X.cell? ⟨g, o + k * 9 + 2, none⟩ = some (.string oo.channel) ∧ X.cell? ⟨g, o + k * 9 + 3, none⟩ = some (.string oo.user) ∧ X.cell? ⟨g, o + k * 9 + 4, none⟩ = some (.string oo.text) ∧ X.cell? ⟨g, o + k * 9 + 5, none⟩ = some (.string oo.toSpace) ∧ X.cell? ⟨g, o + k * 9 + 6, none⟩ = some (.string oo.to) ∧ X.cell? ⟨g, o + k * 9 + 7, none⟩ = some (.int .i64 oo.frm) ∧ X.cell? ⟨g, o + k * 9 + 8, none⟩ = some (.int .i64 oo.most))
              (with_reducible first | assumption | exact HS13.out _ (by assumption))
              (first
                | (go_at_call 10; refine (HMd.out _ (by assumption)).mono ?_; rintro e G1 ⟨v, who', rfl, hrow, hnew, haft⟩
                   have HG1 : Hid (RowC G1 2 v (Mo.tells s oo).posts.length (poCells (Mo.tells s oo).posts) ∧ AftM who F.drew G1 B (Mo.does s oo) (k + 1) who') := ⟨hrow, haft⟩
                   have hG9 : who b9 = 0 ∧ b9 < F.drew.heap.size := by
                     have h1 := (HC2.out.new b9 HF.out.2.2.2.2.2.2.2).1
                     exact ⟨h1, HF.out.2.2.1.lt⟩
                   have hS9 : (G1.cell? ⟨b9, 0, none⟩ = some (.int .i64 (Mo.tells s oo).err) ∧ G1.cell? ⟨b9, 1, none⟩ = some (.int .i64 (Mo.tells s oo).at_) ∧ G1.cell? ⟨b9, 2, none⟩ = some (.slice pr nr cr)) ∧ G1.cell? ⟨g, o + k * 9, none⟩ = some (.int .i64 oo.kind) ∧ G1.cell? ⟨g, o + k * 9 + 1, none⟩ = some (.string oo.space) ∧ G1.cell? ⟨g, o + k * 9 + 2, none⟩ = some (.string oo.channel) ∧ G1.cell? ⟨g, o + k * 9 + 3, none⟩ = some (.string oo.user) ∧ G1.cell? ⟨g, o + k * 9 + 4, none⟩ = some (.string oo.text) ∧ G1.cell? ⟨g, o + k * 9 + 5, none⟩ = some (.string oo.toSpace) ∧ G1.cell? ⟨g, o + k * 9 + 6, none⟩ = some (.string oo.to) ∧ G1.cell? ⟨g, o + k * 9 + 7, none⟩ = some (.int .i64 oo.frm) ∧ G1.cell? ⟨g, o + k * 9 + 8, none⟩ = some (.int .i64 oo.most) := by
                     have hb : G1.heap[b9]? = F.drew.heap[b9]? := haft.2.2.block b9 hG9.2 hG9.1
                     have hr := (HF.out.2.2.1.below HFd.out).keep hb
                     exact ⟨⟨hr.c0, hr.c1, hr.c2⟩, HSx.out G1 ((HC3.out.below HFd.out).aft haft).old⟩
                   have HSame : Hid (Calls Try.prog 21 #[.agg #[.int .i64 (Mo.tells s oo).err, .int .i64 (Mo.tells s oo).at_, v], .agg #[.int .i64 (Mo.tells s oo).err, .int .i64 (Mo.tells s oo).at_, .slice pr nr cr]] G1 fun e w' => e = .returned (.bool true) ∧ Below G1.heap.size G1 w') := by
                     refine Same_eq _ _ (PoR.ofRow hrow) ?_
                     have hp := HF.out.2.2.2.1
                     have h2 : RowC F 2 (.slice pr nr cr) (Mo.tells s oo).posts.length (poCells (Mo.tells s oo).posts) := by rw [← hp.1]; exact hp.2
                     refine PoR.ofRow (RowC.carry h2 (fun g' hg' => ?_))
                     have h3 := (HF.out.2.2.2.2.1 g' hg').1
                     have h4 := RowC.lt h2 (by decide) hg'
                     exact haft.2.2.block g' h4 h3
                   clear hrow hnew haft hG9)
                | (go_at_call 21; refine HSame.out.mono ?_; rintro e G2 ⟨rfl, hb2⟩
                   have HG2 : Hid (Below G1.heap.size G1 G2) := hb2
                   have hS9' : (G2.cell? ⟨b9, 0, none⟩ = some (.int .i64 (Mo.tells s oo).err) ∧ G2.cell? ⟨b9, 1, none⟩ = some (.int .i64 (Mo.tells s oo).at_) ∧ G2.cell? ⟨b9, 2, none⟩ = some (.slice pr nr cr)) ∧ G2.cell? ⟨g, o + k * 9, none⟩ = some (.int .i64 oo.kind) ∧ G2.cell? ⟨g, o + k * 9 + 1, none⟩ = some (.string oo.space) ∧ G2.cell? ⟨g, o + k * 9 + 2, none⟩ = some (.string oo.channel) ∧ G2.cell? ⟨g, o + k * 9 + 3, none⟩ = some (.string oo.user) ∧ G2.cell? ⟨g, o + k * 9 + 4, none⟩ = some (.string oo.text) ∧ G2.cell? ⟨g, o + k * 9 + 5, none⟩ = some (.string oo.toSpace) ∧ G2.cell? ⟨g, o + k * 9 + 6, none⟩ = some (.string oo.to) ∧ G2.cell? ⟨g, o + k * 9 + 7, none⟩ = some (.int .i64 oo.frm) ∧ G2.cell? ⟨g, o + k * 9 + 8, none⟩ = some (.int .i64 oo.most) := by
                     obtain ⟨⟨q1, q2, q3⟩, q4, q5, q6, q7, q8, q9, q10, q11, q12⟩ := hS9
                     have no : ∀ (b j : Nat) (x : Value), G1.cell? ⟨b, j, none⟩ = some x → G2.cell? ⟨b, j, none⟩ = some x := fun b j x hx => (HG2.out.cell (p := ⟨b, j, none⟩) (World.block_lt_of_cell? _ _ hx)).trans hx
                     exact ⟨⟨no _ _ _ q1, no _ _ _ q2, no _ _ _ q3⟩, no _ _ _ q4, no _ _ _ q5, no _ _ _ q6, no _ _ _ q7, no _ _ _ q8, no _ _ _ q9, no _ _ _ q10, no _ _ _ q11, no _ _ _ q12⟩
                   clear hb2))
            have HC4 : Hid (Core w G2 B (Mo.does s oo) who' (k + 1) b4 b6 l0 l1 o0 o1 u5) := ((HC3.out.below HFd.out).aft HG1.out.2).below HG2.out
            have HD4 : Hid (Dv (Sf who' b4 b6) G2 (.agg #[.slice p1 n1 c1, .slice p2 n2 c2]) (Mp.dDo q oo).1) := ((HF.out.2.2.2.2.2.1.below HFd.out).aft HG1.out.2).below HG2.out
            have HQ8 : Hid (Bq b8 (.slice p1 n1 c1) (.slice p2 n2 c2) G2) := by
              have h1 := (HC2.out.new b8 HF.out.2.2.2.2.2.2.1).1
              have h2 := HF.out.2.1.below HFd.out
              exact (h2.keep (HG1.out.2.2.2.block b8 h2.lt h1)).below HG2.out
            have HR4 : Hid (Mp.Rel (Mo.does s oo) (Mp.dDo q oo).1 ∧ Lb (Mp.dDo q oo).1 ∧ Sz (k + 1) (Mp.dDo q oo).1) := ⟨(HD.out.2.1.step oo).1, HD.out.2.2.1.step oo, HD.out.2.2.2.step oo⟩
            clear hS9 hS9' hFd HSame HMd HS13 HG2 HG1 HFd HF HC3 HC2 HD2
            obtain ⟨d0, d1, _, _⟩ := HQ8.out
            obtain ⟨e0, e1, f0, f1⟩ := HC4.out.q4
            obtain ⟨G3, hG3⟩ : ∃ G3, G3 = (G2.setCell ⟨b4, 0, none⟩ (.slice p1 n1 c1)).setCell ⟨b4, 1, none⟩ (.slice p2 n2 c2) := ⟨_, rfl⟩
            have HC5 : Hid (Core w G3 B (Mo.does s oo) who' (k + 1) b4 b6 (.slice p1 n1 c1) (.slice p2 n2 c2) o0 o1 u5) := by rw [hG3]; exact HC4.out.set4 _ _
            have HD5 : Hid (Dv (Sf who' b4 b6) G3 (.agg #[.slice p1 n1 c1, .slice p2 n2 c2]) (Mp.dDo q oo).1) := by rw [hG3]; exact HD4.out.set4 _ _
            have HE3 : Hid (G3 = (G2.setCell ⟨b4, 0, none⟩ (.slice p1 n1 c1)).setCell ⟨b4, 1, none⟩ (.slice p2 n2 c2)) := hG3
            clear hG3
            go_upto_region 16 with fail
            rw [← HE3.out]
            clear d0 d1 e0 e1 f0 f1 HE3 HC4 HD4 HQ8
            by_cases hh : ((k : Int) == (n0 : Int) / 2) = true
            · have HCp : Hid (Calls Try.prog 22 #[.pointer (some ⟨B, 0, none⟩)] G3 fun e w' => ∃ B2 who2, e = .returned (.pointer (some ⟨B2, 0, none⟩)) ∧ Below G3.heap.size G3 w' ∧ Md w' B2 (Mo.does s oo) who2 (k + 1 + (k + 1)) ∧ ∀ k, who2 k ≠ 0 → G3.heap.size ≤ k) := by
                obtain ⟨bc, bo, f, cs, hV⟩ := HC5.out.md
                exact Copy_c hV (by omega)
              go_wp2_with fail
              refine Calls.mono HCp.out ?_
              rintro e G4 ⟨B2, who2, rfl, hb4, hm2, hlo2⟩
              have HM2 : Hid (Md G4 B2 (Mo.does s oo) who2 (k + 1 + (k + 1)) ∧ ∀ k, who2 k ≠ 0 → G3.heap.size ≤ k) := ⟨hm2, hlo2⟩
              have HC6 : Hid (Core w G4 B (Mo.does s oo) who' (k + 1) b4 b6 (.slice p1 n1 c1) (.slice p2 n2 c2) o0 o1 u5) := HC5.out.below hb4
              have HD6 : Hid (Dv (Sf who' b4 b6) G4 (.agg #[.slice p1 n1 c1, .slice p2 n2 c2]) (Mp.dDo q oo).1) := HD5.out.below hb4
              clear hb4 hm2 hlo2
              obtain ⟨e0, e1, _, _⟩ := HC6.out.q4
              obtain ⟨d0, d1, f0, f1⟩ := HC6.out.q6
              obtain ⟨G5, hG5⟩ : ∃ G5, G5 = (G4.setCell ⟨b6, 0, none⟩ (.slice p1 n1 c1)).setCell ⟨b6, 1, none⟩ (.slice p2 n2 c2) := ⟨_, rfl⟩
              have HC7 : Hid (Core w G5 B (Mo.does s oo) who' (k + 1) b4 b6 (.slice p1 n1 c1) (.slice p2 n2 c2) (.slice p1 n1 c1) (.slice p2 n2 c2) (.pointer (some ⟨B2, 0, none⟩))) := by
                rw [hG5]
                exact HC6.out.set6 _ _ _ (.inr ⟨B2, _, who2, _, _, rfl, HM2.out.1, by omega, fun j hj => HC5.out.new j (HM2.out.2 j hj), HD6.out, HR4.out.1, HR4.out.2.1, HR4.out.2.2.mono (by omega)⟩)
              have HN : Hid (Pst w G5 B b4 b6 (k + 1) (.pointer (some ⟨B2, 0, none⟩))) := ⟨who', _, _, _, _, _, _, HC7.out, by rw [hG5]; exact HD6.out.set6 _ _, HR4.out.1, HR4.out.2.1, HR4.out.2.2⟩
              have HE5 : Hid (G5 = (G4.setCell ⟨b6, 0, none⟩ (.slice p1 n1 c1)).setCell ⟨b6, 1, none⟩ (.slice p2 n2 c2)) := hG5
              clear hG5
              go_upto_region 19 with fail
              rw [← HE5.out]
              clear e0 e1 d0 d1 f0 f1 HE5
              go_wp2
              go_roundw
              case rel => exact ⟨k + 1, by go_num, by omega, by omega, HN⟩
              case measure => simp [intOf]; omega
            · have hh2 : ((k : Int) == (n0 : Int) / 2) = false := Bool.eq_false_iff.2 hh
              clear hh
              have HN : Hid (Pst w G3 B b4 b6 (k + 1) u5) := ⟨who', _, _, _, _, _, _, HC5.out, HD5.out, HR4.out.1, HR4.out.2.1, HR4.out.2.2⟩
              go_wp2
              go_roundw
              case rel => exact ⟨k + 1, by go_num, by omega, by omega, HN⟩
              case measure => simp [intOf]; omega
        · go_simp
          obtain ⟨b9, hb⟩ : ∃ b9, b9 = V.heap.size := ⟨_, rfl⟩
          obtain ⟨XB, hW⟩ : ∃ XB, XB = V.alloc (.cells #[.int .i64 0, .int .i64 0, .slice none 0 0] 29) := ⟨_, rfl⟩
          have Hb9 : Hid (Below V.heap.size V XB ∧ XB.heap.size = V.heap.size + 1 ∧ R3 b9 (.int .i64 0) (.int .i64 0) (.slice none 0 0) XB ∧ b9 = V.heap.size) := by
            refine ⟨by rw [hW]; exact below_alloc _ _, by rw [hW]; simp, ?_, hb⟩
            rw [hW, hb]
            exact R3.start _ _ _ _ _
          have HbXB : Hid (Below C2.heap.size C2 XB) := HbV.out.trans (Hb9.out.1.mono HbV.out.size)
          rw [← hW, ← hb]
          clear hb hW
          refine hK.out _ _ (HS12.out XB HbXB.out) (fun hHeld => ?_)
          clear hK K
          try simp only [Act.put, List.setIfInBounds_toArray, List.set_cons_zero, List.set_cons_succ]
          refine wpAnyH_ready (rs := [5, 9]) (by kernel_rfl) (by simp) ?_
          refine AllReadyH.cons rfl (fun K hK => ?_) (AllReadyH.cons rfl (fun K hK => ?_) AllReadyH.nil)
          · refine stepCall 42 rfl rfl 20 #[.agg #[l0, l1], .agg #[.int .i64 oo.kind, .string oo.space, .string oo.channel, .string oo.user, .string oo.text, .string oo.toSpace, .string oo.to, .int .i64 oo.frm, .int .i64 oo.most]] (by kernel_rfl) (HDo.out XB HbXB.out) ?_
            rintro e Y ⟨p1, n1, c1, p2, n2, c2, pr, nr, cr, rfl, hbY, HRe⟩
            refine ⟨_, rfl, ?_⟩
            have HY : Hid (Below XB.heap.size XB Y) := hbY
            have HbY : Hid (Below C2.heap.size C2 Y) := HbXB.out.trans (hbY.mono HbXB.out.size)
            clear hbY
            refine hK.out _ _ (HS12.out Y HbY.out) (fun hHeld => ?_)
            clear hK K
            try simp only [Act.put, List.setIfInBounds_toArray, List.set_cons_zero, List.set_cons_succ]
            refine take7 (i := 6) (d := 36) (v := .tuple #[.agg #[.slice p1 n1 c1, .slice p2 n2 c2], .agg #[.int .i64 (Mo.tells s oo).err, .int .i64 (Mo.tells s oo).at_, .slice pr nr cr]]) rfl rfl (by kernel_rfl) (by kernel_rfl) (by kernel_rfl) (fun _ _ _ h => h) (Or.inl ⟨by rfl, ?_⟩) (by assumption) ?_
            · intro X hSw
              go_simp
            simp only [Act.put, List.setIfInBounds_toArray, List.set_cons_zero, List.set_cons_succ]
            refine take7 (i := 7) (d := 43) (v := .agg #[.slice p1 n1 c1, .slice p2 n2 c2]) rfl rfl (by kernel_rfl) (by kernel_rfl) (by kernel_rfl) (fun _ _ _ h => h) (Or.inl ⟨by rfl, ?_⟩) (by assumption) ?_
            · intro X hSw
              go_simp
            simp only [Act.put, List.setIfInBounds_toArray, List.set_cons_zero, List.set_cons_succ]
            refine take7 (i := 8) (d := 44) (v := .agg #[.int .i64 (Mo.tells s oo).err, .int .i64 (Mo.tells s oo).at_, .slice pr nr cr]) rfl rfl (by kernel_rfl) (by kernel_rfl) (by kernel_rfl) (fun _ _ _ h => h) (Or.inl ⟨by rfl, ?_⟩) (by assumption) ?_
            · intro X hSw
              go_simp
            simp only [Act.put, List.setIfInBounds_toArray, List.set_cons_zero, List.set_cons_succ]
            refine wpAnyH_ready (rs := [9]) (by kernel_rfl) (by simp) ?_
            refine AllReadyH.cons rfl (fun K hK => ?_) AllReadyH.nil
            go_simp
            obtain ⟨b8, hb⟩ : ∃ b8, b8 = Y.heap.size := ⟨_, rfl⟩
            obtain ⟨XA, hW⟩ : ∃ XA, XA = Y.alloc (.cells #[.slice none 0 0, .slice none 0 0] 54) := ⟨_, rfl⟩
            have Hb8 : Hid (Below Y.heap.size Y XA ∧ XA.heap.size = Y.heap.size + 1 ∧ Bq b8 (.slice none 0 0) (.slice none 0 0) XA ∧ b8 = Y.heap.size) := by
              refine ⟨by rw [hW]; exact below_alloc _ _, by rw [hW]; simp, ?_, hb⟩
              rw [hW, hb]
              exact Bq.start _ _ _ _
            have HbXA : Hid (Below C2.heap.size C2 XA) := HbY.out.trans (Hb8.out.1.mono HbY.out.size)
            rw [← hW, ← hb]
            clear hb hW
            refine hK.out _ _ (HS12.out XA HbXA.out) (fun hHeld => ?_)
            clear hK K
            try simp only [Act.put, List.setIfInBounds_toArray, List.set_cons_zero, List.set_cons_succ]
            have HYZ : Hid (Below Y.heap.size Y XA) := (Below.refl Y.heap.size Y).trans (Hb8.out.1.mono (Below.refl Y.heap.size Y).size)
            have HA8 : Hid (Bq b8 (.slice none 0 0) (.slice none 0 0) XA) := Hb8.out.2.2.1
            have HA9 : Hid (R3 b9 (.int .i64 0) (.int .i64 0) (.slice none 0 0) XA) := ((Hb9.out.2.2.1).below HY.out).below Hb8.out.1
            have HNs : Hid (C2.heap.size ≤ b8 ∧ C2.heap.size ≤ b9 ∧ b9 ≠ b8 ∧ (b8 < XB.heap.size ∨ Y.heap.size ≤ b8) ∧ (b9 < XB.heap.size ∨ Y.heap.size ≤ b9)) := by
              have m0 := HbV.out.size; have m1 := HY.out.size; have m2 := Hb8.out.2.1; have m3 := Hb8.out.2.2.2; have m4 := Hb9.out.2.1; have m5 := Hb9.out.2.2.2
              exact ⟨by omega, by omega, by omega, by omega, by omega⟩
            have HL12 : Hid (∀ g, Lc (Sf who b4 b6) C2.heap.size XB.heap.size g → g < Y.heap.size → g ≠ b8 ∧ g ≠ b9) := fun g hg hs => by
              have h1 := hg.2
              have h2 := HNs.out
              exact ⟨by omega, by omega⟩
            obtain ⟨g1, g2, g3⟩ := ex9_cells HA8.out HA9.out HNs.out.2.2.1 (.slice p1 n1 c1) (.slice p2 n2 c2) (.int .i64 (Mo.tells s oo).err) (.int .i64 (Mo.tells s oo).at_) (.slice pr nr cr)
            obtain ⟨F, hF⟩ : ∃ F, F = ex9 XA b8 b9 (.slice p1 n1 c1) (.slice p2 n2 c2) (.int .i64 (Mo.tells s oo).err) (.int .i64 (Mo.tells s oo).at_) (.slice pr nr cr) := ⟨_, rfl⟩
            rw [← hF] at g2 g3
            have HF : Hid (Below C2.heap.size C2 F ∧ Bq b8 (.slice p1 n1 c1) (.slice p2 n2 c2) F ∧ R3 b9 (.int .i64 (Mo.tells s oo).err) (.int .i64 (Mo.tells s oo).at_) (.slice pr nr cr) F ∧ (nr = (Mo.tells s oo).posts.length ∧ RowC F 2 (.slice pr nr cr) nr (poCells (Mo.tells s oo).posts)) ∧ (∀ g, cBlk (.slice pr nr cr) = some g → Sf who b4 b6 g) ∧ Dv (Sf who b4 b6) F (.agg #[.slice p1 n1 c1, .slice p2 n2 c2]) (Mp.dDo q oo).1 ∧ C2.heap.size ≤ b8 ∧ C2.heap.size ≤ b9) := by
              have ho : ∀ g, Lc (Sf who b4 b6) C2.heap.size XB.heap.size g → g < Y.heap.size → F.heap[g]? = Y.heap[g]? := fun g hg hs => by
                obtain ⟨a1, a2⟩ := HL12.out g hg hs
                rw [hF, ex9_other a1 a2, HYZ.out.block g hs]
              obtain ⟨r1, r2, r3, r4⟩ := HRe.out
              exact ⟨by rw [hF]; exact ex9_below HbXA.out HNs.out.1 HNs.out.2.1 _ _ _ _ _, g2, g3, ⟨r1, RowC.carry r2 (fun g hg => ho g (r3 g hg) (RowC.lt r2 (by decide) hg))⟩, fun g hg => (r3 g hg).1, r4.move ho (fun g hg _ => hg.1), HNs.out.1, HNs.out.2.1⟩
            clear g2 g3
            have HF9 : Hid (F = ex9 XA b8 b9 (.slice p1 n1 c1) (.slice p2 n2 c2) (.int .i64 (Mo.tells s oo).err) (.int .i64 (Mo.tells s oo).at_) (.slice pr nr cr)) := hF
            clear hF
            obtain ⟨z0, z1, h0, h1⟩ := HA8.out
            obtain ⟨y0, y1, y2, j0, j1, j2⟩ := g1
            refine wpAnyH_ready (rs := [11]) (by kernel_rfl) (by simp) ?_
            refine AllReadyH.cons rfl (fun K hK => ?_) AllReadyH.nil
            go_simp
            refine hK.out _ _ (HS12.out _ ((HbXA.out.setCell (p := ⟨b8, 0, none⟩) HNs.out.1 _).setCell (p := ⟨b8, 1, none⟩) HNs.out.1 _)) (fun hHeld => ?_)
            clear hK K
            try simp only [Act.put, List.setIfInBounds_toArray, List.set_cons_zero, List.set_cons_succ]
            refine wpAnyH_ready (rs := [12]) (by kernel_rfl) (by simp) ?_
            refine AllReadyH.cons rfl (fun K hK => ?_) AllReadyH.nil
            go_simp
            refine hK.out _ _ (HS12.out _ (((((HbXA.out.setCell (p := ⟨b8, 0, none⟩) HNs.out.1 _).setCell (p := ⟨b8, 1, none⟩) HNs.out.1 _).setCell (p := ⟨b9, 0, none⟩) HNs.out.2.1 _).setCell (p := ⟨b9, 1, none⟩) HNs.out.2.1 _).setCell (p := ⟨b9, 2, none⟩) HNs.out.2.1 _)) (fun hHeld => ?_)
            clear hK K hHeld
            refine wpAnyH_done (by kernel_rfl) ?_ _
            clear z0 z1 h0 h1 y0 y1 y2 j0 j1 j2
            have hF := HF9.out
            unfold ex9 at hF
            rw [← hF]
            clear hF HF9 HA8 HA9 HNs HL12 HYZ HRe HY HDo HS12

            have HC3 : Hid (Core w F B s who k b4 b6 l0 l1 o0 o1 u5) := HC2.out.below HF.out.1
            go_upto_region 13 with fail
            have HFd : Hid (Below F.heap.size F F.drew) := below_drewN F 1
            have hFd : Below F.heap.size F F.drew := HFd.out
            have HMd : Hid (∀ X, Below F.heap.size F X → Calls Try.prog 10 #[.pointer (some ⟨B, 0, none⟩), .agg #[.int .i64 oo.kind, .string oo.space, .string oo.channel, .string oo.user, .string oo.text, .string oo.toSpace, .string oo.to, .int .i64 oo.frm, .int .i64 oo.most]] X (DoOut who X B s k oo)) := fun X hX => Do_any (HC3.out.below hX).md (by omega) oo HOp.out
            have HS13 : Hid (∀ X, Below F.heap.size F X → ((X.cell? ⟨b9, 0, none⟩ = some (.int .i64 (Mo.tells s oo).err) ∧ X.cell? ⟨b9, 1, none⟩ = some (.int .i64 (Mo.tells s oo).at_) ∧ X.cell? ⟨b9, 2, none⟩ = some (.slice pr nr cr)) ∧ X.cell? ⟨g, o + k * 9, none⟩ = some (.int .i64 oo.kind) ∧ X.cell? ⟨g, o + k * 9 + 1, none⟩ = some (.string oo.space) ∧ X.cell? ⟨g, o + k * 9 + 2, none⟩ = some (.string oo.channel) ∧ X.cell? ⟨g, o + k * 9 + 3, none⟩ = some (.string oo.user) ∧ X.cell? ⟨g, o + k * 9 + 4, none⟩ = some (.string oo.text) ∧ X.cell? ⟨g, o + k * 9 + 5, none⟩ = some (.string oo.toSpace) ∧ X.cell? ⟨g, o + k * 9 + 6, none⟩ = some (.string oo.to) ∧ X.cell? ⟨g, o + k * 9 + 7, none⟩ = some (.int .i64 oo.frm) ∧ X.cell? ⟨g, o + k * 9 + 8, none⟩ = some (.int .i64 oo.most))) := fun X hX => ⟨⟨(HF.out.2.2.1.below hX).c0, (HF.out.2.2.1.below hX).c1, (HF.out.2.2.1.below hX).c2⟩, HSx.out X (HC3.out.old.trans (hX.mono HC3.out.old.size))⟩
            go_region_held (fun X => (X.cell? ⟨b9, 0, none⟩ = some (.int .i64 (Mo.tells s oo).err) ∧ X.cell? ⟨b9, 1, none⟩ = some (.int .i64 (Mo.tells s oo).at_) ∧ X.cell? ⟨b9, 2, none⟩ = some (.slice pr nr cr)) ∧ X.cell? ⟨g, o + k * 9, none⟩ = some (.int .i64 oo.kind) ∧ X.cell? ⟨g, o + k * 9 + 1, none⟩ = some (.string oo.space) ∧ X.cell? ⟨g, o + k * 9 + 2, none⟩ = some (.string oo.channel) ∧ X.cell? ⟨g, o + k * 9 + 3, none⟩ = some (.string oo.user) ∧ X.cell? ⟨g, o + k * 9 + 4, none⟩ = some (.string oo.text) ∧ X.cell? ⟨g, o + k * 9 + 5, none⟩ = some (.string oo.toSpace) ∧ X.cell? ⟨g, o + k * 9 + 6, none⟩ = some (.string oo.to) ∧ X.cell? ⟨g, o + k * 9 + 7, none⟩ = some (.int .i64 oo.frm) ∧ X.cell? ⟨g, o + k * 9 + 8, none⟩ = some (.int .i64 oo.most))
              (with_reducible first | assumption | exact HS13.out _ (by assumption))
              (first
                | (go_at_call 10; refine (HMd.out _ (by assumption)).mono ?_; rintro e G1 ⟨v, who', rfl, hrow, hnew, haft⟩
                   have HG1 : Hid (RowC G1 2 v (Mo.tells s oo).posts.length (poCells (Mo.tells s oo).posts) ∧ AftM who F.drew G1 B (Mo.does s oo) (k + 1) who') := ⟨hrow, haft⟩
                   have hG9 : who b9 = 0 ∧ b9 < F.drew.heap.size := by
                     have h1 := (HC2.out.new b9 HF.out.2.2.2.2.2.2.2).1
                     exact ⟨h1, HF.out.2.2.1.lt⟩
                   have hS9 : (G1.cell? ⟨b9, 0, none⟩ = some (.int .i64 (Mo.tells s oo).err) ∧ G1.cell? ⟨b9, 1, none⟩ = some (.int .i64 (Mo.tells s oo).at_) ∧ G1.cell? ⟨b9, 2, none⟩ = some (.slice pr nr cr)) ∧ G1.cell? ⟨g, o + k * 9, none⟩ = some (.int .i64 oo.kind) ∧ G1.cell? ⟨g, o + k * 9 + 1, none⟩ = some (.string oo.space) ∧ G1.cell? ⟨g, o + k * 9 + 2, none⟩ = some (.string oo.channel) ∧ G1.cell? ⟨g, o + k * 9 + 3, none⟩ = some (.string oo.user) ∧ G1.cell? ⟨g, o + k * 9 + 4, none⟩ = some (.string oo.text) ∧ G1.cell? ⟨g, o + k * 9 + 5, none⟩ = some (.string oo.toSpace) ∧ G1.cell? ⟨g, o + k * 9 + 6, none⟩ = some (.string oo.to) ∧ G1.cell? ⟨g, o + k * 9 + 7, none⟩ = some (.int .i64 oo.frm) ∧ G1.cell? ⟨g, o + k * 9 + 8, none⟩ = some (.int .i64 oo.most) := by
                     have hb : G1.heap[b9]? = F.drew.heap[b9]? := haft.2.2.block b9 hG9.2 hG9.1
                     have hr := (HF.out.2.2.1.below HFd.out).keep hb
                     exact ⟨⟨hr.c0, hr.c1, hr.c2⟩, HSx.out G1 ((HC3.out.below HFd.out).aft haft).old⟩
                   have HSame : Hid (Calls Try.prog 21 #[.agg #[.int .i64 (Mo.tells s oo).err, .int .i64 (Mo.tells s oo).at_, v], .agg #[.int .i64 (Mo.tells s oo).err, .int .i64 (Mo.tells s oo).at_, .slice pr nr cr]] G1 fun e w' => e = .returned (.bool true) ∧ Below G1.heap.size G1 w') := by
                     refine Same_eq _ _ (PoR.ofRow hrow) ?_
                     have hp := HF.out.2.2.2.1
                     have h2 : RowC F 2 (.slice pr nr cr) (Mo.tells s oo).posts.length (poCells (Mo.tells s oo).posts) := by rw [← hp.1]; exact hp.2
                     refine PoR.ofRow (RowC.carry h2 (fun g' hg' => ?_))
                     have h3 := (HF.out.2.2.2.2.1 g' hg').1
                     have h4 := RowC.lt h2 (by decide) hg'
                     exact haft.2.2.block g' h4 h3
                   clear hrow hnew haft hG9)
                | (go_at_call 21; refine HSame.out.mono ?_; rintro e G2 ⟨rfl, hb2⟩
                   have HG2 : Hid (Below G1.heap.size G1 G2) := hb2
                   have hS9' : (G2.cell? ⟨b9, 0, none⟩ = some (.int .i64 (Mo.tells s oo).err) ∧ G2.cell? ⟨b9, 1, none⟩ = some (.int .i64 (Mo.tells s oo).at_) ∧ G2.cell? ⟨b9, 2, none⟩ = some (.slice pr nr cr)) ∧ G2.cell? ⟨g, o + k * 9, none⟩ = some (.int .i64 oo.kind) ∧ G2.cell? ⟨g, o + k * 9 + 1, none⟩ = some (.string oo.space) ∧ G2.cell? ⟨g, o + k * 9 + 2, none⟩ = some (.string oo.channel) ∧ G2.cell? ⟨g, o + k * 9 + 3, none⟩ = some (.string oo.user) ∧ G2.cell? ⟨g, o + k * 9 + 4, none⟩ = some (.string oo.text) ∧ G2.cell? ⟨g, o + k * 9 + 5, none⟩ = some (.string oo.toSpace) ∧ G2.cell? ⟨g, o + k * 9 + 6, none⟩ = some (.string oo.to) ∧ G2.cell? ⟨g, o + k * 9 + 7, none⟩ = some (.int .i64 oo.frm) ∧ G2.cell? ⟨g, o + k * 9 + 8, none⟩ = some (.int .i64 oo.most) := by
                     obtain ⟨⟨q1, q2, q3⟩, q4, q5, q6, q7, q8, q9, q10, q11, q12⟩ := hS9
                     have no : ∀ (b j : Nat) (x : Value), G1.cell? ⟨b, j, none⟩ = some x → G2.cell? ⟨b, j, none⟩ = some x := fun b j x hx => (HG2.out.cell (p := ⟨b, j, none⟩) (World.block_lt_of_cell? _ _ hx)).trans hx
                     exact ⟨⟨no _ _ _ q1, no _ _ _ q2, no _ _ _ q3⟩, no _ _ _ q4, no _ _ _ q5, no _ _ _ q6, no _ _ _ q7, no _ _ _ q8, no _ _ _ q9, no _ _ _ q10, no _ _ _ q11, no _ _ _ q12⟩
                   clear hb2))
            have HC4 : Hid (Core w G2 B (Mo.does s oo) who' (k + 1) b4 b6 l0 l1 o0 o1 u5) := ((HC3.out.below HFd.out).aft HG1.out.2).below HG2.out
            have HD4 : Hid (Dv (Sf who' b4 b6) G2 (.agg #[.slice p1 n1 c1, .slice p2 n2 c2]) (Mp.dDo q oo).1) := ((HF.out.2.2.2.2.2.1.below HFd.out).aft HG1.out.2).below HG2.out
            have HQ8 : Hid (Bq b8 (.slice p1 n1 c1) (.slice p2 n2 c2) G2) := by
              have h1 := (HC2.out.new b8 HF.out.2.2.2.2.2.2.1).1
              have h2 := HF.out.2.1.below HFd.out
              exact (h2.keep (HG1.out.2.2.2.block b8 h2.lt h1)).below HG2.out
            have HR4 : Hid (Mp.Rel (Mo.does s oo) (Mp.dDo q oo).1 ∧ Lb (Mp.dDo q oo).1 ∧ Sz (k + 1) (Mp.dDo q oo).1) := ⟨(HD.out.2.1.step oo).1, HD.out.2.2.1.step oo, HD.out.2.2.2.step oo⟩
            clear hS9 hS9' hFd HSame HMd HS13 HG2 HG1 HFd HF HC3 HC2 HD2
            obtain ⟨d0, d1, _, _⟩ := HQ8.out
            obtain ⟨e0, e1, f0, f1⟩ := HC4.out.q4
            obtain ⟨G3, hG3⟩ : ∃ G3, G3 = (G2.setCell ⟨b4, 0, none⟩ (.slice p1 n1 c1)).setCell ⟨b4, 1, none⟩ (.slice p2 n2 c2) := ⟨_, rfl⟩
            have HC5 : Hid (Core w G3 B (Mo.does s oo) who' (k + 1) b4 b6 (.slice p1 n1 c1) (.slice p2 n2 c2) o0 o1 u5) := by rw [hG3]; exact HC4.out.set4 _ _
            have HD5 : Hid (Dv (Sf who' b4 b6) G3 (.agg #[.slice p1 n1 c1, .slice p2 n2 c2]) (Mp.dDo q oo).1) := by rw [hG3]; exact HD4.out.set4 _ _
            have HE3 : Hid (G3 = (G2.setCell ⟨b4, 0, none⟩ (.slice p1 n1 c1)).setCell ⟨b4, 1, none⟩ (.slice p2 n2 c2)) := hG3
            clear hG3
            go_upto_region 16 with fail
            rw [← HE3.out]
            clear d0 d1 e0 e1 f0 f1 HE3 HC4 HD4 HQ8
            by_cases hh : ((k : Int) == (n0 : Int) / 2) = true
            · have HCp : Hid (Calls Try.prog 22 #[.pointer (some ⟨B, 0, none⟩)] G3 fun e w' => ∃ B2 who2, e = .returned (.pointer (some ⟨B2, 0, none⟩)) ∧ Below G3.heap.size G3 w' ∧ Md w' B2 (Mo.does s oo) who2 (k + 1 + (k + 1)) ∧ ∀ k, who2 k ≠ 0 → G3.heap.size ≤ k) := by
                obtain ⟨bc, bo, f, cs, hV⟩ := HC5.out.md
                exact Copy_c hV (by omega)
              go_wp2_with fail
              refine Calls.mono HCp.out ?_
              rintro e G4 ⟨B2, who2, rfl, hb4, hm2, hlo2⟩
              have HM2 : Hid (Md G4 B2 (Mo.does s oo) who2 (k + 1 + (k + 1)) ∧ ∀ k, who2 k ≠ 0 → G3.heap.size ≤ k) := ⟨hm2, hlo2⟩
              have HC6 : Hid (Core w G4 B (Mo.does s oo) who' (k + 1) b4 b6 (.slice p1 n1 c1) (.slice p2 n2 c2) o0 o1 u5) := HC5.out.below hb4
              have HD6 : Hid (Dv (Sf who' b4 b6) G4 (.agg #[.slice p1 n1 c1, .slice p2 n2 c2]) (Mp.dDo q oo).1) := HD5.out.below hb4
              clear hb4 hm2 hlo2
              obtain ⟨e0, e1, _, _⟩ := HC6.out.q4
              obtain ⟨d0, d1, f0, f1⟩ := HC6.out.q6
              obtain ⟨G5, hG5⟩ : ∃ G5, G5 = (G4.setCell ⟨b6, 0, none⟩ (.slice p1 n1 c1)).setCell ⟨b6, 1, none⟩ (.slice p2 n2 c2) := ⟨_, rfl⟩
              have HC7 : Hid (Core w G5 B (Mo.does s oo) who' (k + 1) b4 b6 (.slice p1 n1 c1) (.slice p2 n2 c2) (.slice p1 n1 c1) (.slice p2 n2 c2) (.pointer (some ⟨B2, 0, none⟩))) := by
                rw [hG5]
                exact HC6.out.set6 _ _ _ (.inr ⟨B2, _, who2, _, _, rfl, HM2.out.1, by omega, fun j hj => HC5.out.new j (HM2.out.2 j hj), HD6.out, HR4.out.1, HR4.out.2.1, HR4.out.2.2.mono (by omega)⟩)
              have HN : Hid (Pst w G5 B b4 b6 (k + 1) (.pointer (some ⟨B2, 0, none⟩))) := ⟨who', _, _, _, _, _, _, HC7.out, by rw [hG5]; exact HD6.out.set6 _ _, HR4.out.1, HR4.out.2.1, HR4.out.2.2⟩
              have HE5 : Hid (G5 = (G4.setCell ⟨b6, 0, none⟩ (.slice p1 n1 c1)).setCell ⟨b6, 1, none⟩ (.slice p2 n2 c2)) := hG5
              clear hG5
              go_upto_region 19 with fail
              rw [← HE5.out]
              clear e0 e1 d0 d1 f0 f1 HE5
              go_wp2
              go_roundw
              case rel => exact ⟨k + 1, by go_num, by omega, by omega, HN⟩
              case measure => simp [intOf]; omega
            · have hh2 : ((k : Int) == (n0 : Int) / 2) = false := Bool.eq_false_iff.2 hh
              clear hh
              have HN : Hid (Pst w G3 B b4 b6 (k + 1) u5) := ⟨who', _, _, _, _, _, _, HC5.out, HD5.out, HR4.out.1, HR4.out.2.1, HR4.out.2.2⟩
              go_wp2
              go_roundw
              case rel => exact ⟨k + 1, by go_num, by omega, by omega, HN⟩
              case measure => simp [intOf]; omega
          · go_simp
            obtain ⟨b8, hb⟩ : ∃ b8, b8 = XB.heap.size := ⟨_, rfl⟩
            obtain ⟨XA, hW⟩ : ∃ XA, XA = XB.alloc (.cells #[.slice none 0 0, .slice none 0 0] 54) := ⟨_, rfl⟩
            have Hb8 : Hid (Below XB.heap.size XB XA ∧ XA.heap.size = XB.heap.size + 1 ∧ Bq b8 (.slice none 0 0) (.slice none 0 0) XA ∧ b8 = XB.heap.size) := by
              refine ⟨by rw [hW]; exact below_alloc _ _, by rw [hW]; simp, ?_, hb⟩
              rw [hW, hb]
              exact Bq.start _ _ _ _
            have HbXA : Hid (Below C2.heap.size C2 XA) := HbXB.out.trans (Hb8.out.1.mono HbXB.out.size)
            rw [← hW, ← hb]
            clear hb hW
            refine hK.out _ _ (HS12.out XA HbXA.out) (fun hHeld => ?_)
            clear hK K
            try simp only [Act.put, List.setIfInBounds_toArray, List.set_cons_zero, List.set_cons_succ]
            refine wpAnyH_ready (rs := [5]) (by kernel_rfl) (by simp) ?_
            refine AllReadyH.cons rfl (fun K hK => ?_) AllReadyH.nil
            refine stepCall 42 rfl rfl 20 #[.agg #[l0, l1], .agg #[.int .i64 oo.kind, .string oo.space, .string oo.channel, .string oo.user, .string oo.text, .string oo.toSpace, .string oo.to, .int .i64 oo.frm, .int .i64 oo.most]] (by kernel_rfl) (HDo.out XA HbXA.out) ?_
            rintro e Y ⟨p1, n1, c1, p2, n2, c2, pr, nr, cr, rfl, hbY, HRe⟩
            refine ⟨_, rfl, ?_⟩
            have HY : Hid (Below XA.heap.size XA Y) := hbY
            have HbY : Hid (Below C2.heap.size C2 Y) := HbXA.out.trans (hbY.mono HbXA.out.size)
            clear hbY
            refine hK.out _ _ (HS12.out Y HbY.out) (fun hHeld => ?_)
            clear hK K
            try simp only [Act.put, List.setIfInBounds_toArray, List.set_cons_zero, List.set_cons_succ]
            refine take7 (i := 6) (d := 36) (v := .tuple #[.agg #[.slice p1 n1 c1, .slice p2 n2 c2], .agg #[.int .i64 (Mo.tells s oo).err, .int .i64 (Mo.tells s oo).at_, .slice pr nr cr]]) rfl rfl (by kernel_rfl) (by kernel_rfl) (by kernel_rfl) (fun _ _ _ h => h) (Or.inl ⟨by rfl, ?_⟩) (by assumption) ?_
            · intro X hSw
              go_simp
            simp only [Act.put, List.setIfInBounds_toArray, List.set_cons_zero, List.set_cons_succ]
            refine take7 (i := 7) (d := 43) (v := .agg #[.slice p1 n1 c1, .slice p2 n2 c2]) rfl rfl (by kernel_rfl) (by kernel_rfl) (by kernel_rfl) (fun _ _ _ h => h) (Or.inl ⟨by rfl, ?_⟩) (by assumption) ?_
            · intro X hSw
              go_simp
            simp only [Act.put, List.setIfInBounds_toArray, List.set_cons_zero, List.set_cons_succ]
            refine take7 (i := 8) (d := 44) (v := .agg #[.int .i64 (Mo.tells s oo).err, .int .i64 (Mo.tells s oo).at_, .slice pr nr cr]) rfl rfl (by kernel_rfl) (by kernel_rfl) (by kernel_rfl) (fun _ _ _ h => h) (Or.inl ⟨by rfl, ?_⟩) (by assumption) ?_
            · intro X hSw
              go_simp
            simp only [Act.put, List.setIfInBounds_toArray, List.set_cons_zero, List.set_cons_succ]
            have HYZ : Hid (Below Y.heap.size Y Y) := Below.refl Y.heap.size Y
            have HA8 : Hid (Bq b8 (.slice none 0 0) (.slice none 0 0) Y) := (Hb8.out.2.2.1).below HY.out
            have HA9 : Hid (R3 b9 (.int .i64 0) (.int .i64 0) (.slice none 0 0) Y) := ((Hb9.out.2.2.1).below Hb8.out.1).below HY.out
            have HNs : Hid (C2.heap.size ≤ b8 ∧ C2.heap.size ≤ b9 ∧ b9 ≠ b8 ∧ (b8 < XA.heap.size ∨ Y.heap.size ≤ b8) ∧ (b9 < XA.heap.size ∨ Y.heap.size ≤ b9)) := by
              have m0 := HbV.out.size; have m1 := HY.out.size; have m2 := Hb8.out.2.1; have m3 := Hb8.out.2.2.2; have m4 := Hb9.out.2.1; have m5 := Hb9.out.2.2.2
              exact ⟨by omega, by omega, by omega, by omega, by omega⟩
            have HL12 : Hid (∀ g, Lc (Sf who b4 b6) C2.heap.size XA.heap.size g → g < Y.heap.size → g ≠ b8 ∧ g ≠ b9) := fun g hg hs => by
              have h1 := hg.2
              have h2 := HNs.out
              exact ⟨by omega, by omega⟩
            obtain ⟨g1, g2, g3⟩ := ex9_cells HA8.out HA9.out HNs.out.2.2.1 (.slice p1 n1 c1) (.slice p2 n2 c2) (.int .i64 (Mo.tells s oo).err) (.int .i64 (Mo.tells s oo).at_) (.slice pr nr cr)
            obtain ⟨F, hF⟩ : ∃ F, F = ex9 Y b8 b9 (.slice p1 n1 c1) (.slice p2 n2 c2) (.int .i64 (Mo.tells s oo).err) (.int .i64 (Mo.tells s oo).at_) (.slice pr nr cr) := ⟨_, rfl⟩
            rw [← hF] at g2 g3
            have HF : Hid (Below C2.heap.size C2 F ∧ Bq b8 (.slice p1 n1 c1) (.slice p2 n2 c2) F ∧ R3 b9 (.int .i64 (Mo.tells s oo).err) (.int .i64 (Mo.tells s oo).at_) (.slice pr nr cr) F ∧ (nr = (Mo.tells s oo).posts.length ∧ RowC F 2 (.slice pr nr cr) nr (poCells (Mo.tells s oo).posts)) ∧ (∀ g, cBlk (.slice pr nr cr) = some g → Sf who b4 b6 g) ∧ Dv (Sf who b4 b6) F (.agg #[.slice p1 n1 c1, .slice p2 n2 c2]) (Mp.dDo q oo).1 ∧ C2.heap.size ≤ b8 ∧ C2.heap.size ≤ b9) := by
              have ho : ∀ g, Lc (Sf who b4 b6) C2.heap.size XA.heap.size g → g < Y.heap.size → F.heap[g]? = Y.heap[g]? := fun g hg hs => by
                obtain ⟨a1, a2⟩ := HL12.out g hg hs
                rw [hF, ex9_other a1 a2, HYZ.out.block g hs]
              obtain ⟨r1, r2, r3, r4⟩ := HRe.out
              exact ⟨by rw [hF]; exact ex9_below HbY.out HNs.out.1 HNs.out.2.1 _ _ _ _ _, g2, g3, ⟨r1, RowC.carry r2 (fun g hg => ho g (r3 g hg) (RowC.lt r2 (by decide) hg))⟩, fun g hg => (r3 g hg).1, r4.move ho (fun g hg _ => hg.1), HNs.out.1, HNs.out.2.1⟩
            clear g2 g3
            have HF9 : Hid (F = ex9 Y b8 b9 (.slice p1 n1 c1) (.slice p2 n2 c2) (.int .i64 (Mo.tells s oo).err) (.int .i64 (Mo.tells s oo).at_) (.slice pr nr cr)) := hF
            clear hF
            obtain ⟨z0, z1, h0, h1⟩ := HA8.out
            obtain ⟨y0, y1, y2, j0, j1, j2⟩ := g1
            refine wpAnyH_ready (rs := [11]) (by kernel_rfl) (by simp) ?_
            refine AllReadyH.cons rfl (fun K hK => ?_) AllReadyH.nil
            go_simp
            refine hK.out _ _ (HS12.out _ ((HbY.out.setCell (p := ⟨b8, 0, none⟩) HNs.out.1 _).setCell (p := ⟨b8, 1, none⟩) HNs.out.1 _)) (fun hHeld => ?_)
            clear hK K
            try simp only [Act.put, List.setIfInBounds_toArray, List.set_cons_zero, List.set_cons_succ]
            refine wpAnyH_ready (rs := [12]) (by kernel_rfl) (by simp) ?_
            refine AllReadyH.cons rfl (fun K hK => ?_) AllReadyH.nil
            go_simp
            refine hK.out _ _ (HS12.out _ (((((HbY.out.setCell (p := ⟨b8, 0, none⟩) HNs.out.1 _).setCell (p := ⟨b8, 1, none⟩) HNs.out.1 _).setCell (p := ⟨b9, 0, none⟩) HNs.out.2.1 _).setCell (p := ⟨b9, 1, none⟩) HNs.out.2.1 _).setCell (p := ⟨b9, 2, none⟩) HNs.out.2.1 _)) (fun hHeld => ?_)
            clear hK K hHeld
            refine wpAnyH_done (by kernel_rfl) ?_ _
            clear z0 z1 h0 h1 y0 y1 y2 j0 j1 j2
            have hF := HF9.out
            unfold ex9 at hF
            rw [← hF]
            clear hF HF9 HA8 HA9 HNs HL12 HYZ HRe HY HDo HS12

            have HC3 : Hid (Core w F B s who k b4 b6 l0 l1 o0 o1 u5) := HC2.out.below HF.out.1
            go_upto_region 13 with fail
            have HFd : Hid (Below F.heap.size F F.drew) := below_drewN F 1
            have hFd : Below F.heap.size F F.drew := HFd.out
            have HMd : Hid (∀ X, Below F.heap.size F X → Calls Try.prog 10 #[.pointer (some ⟨B, 0, none⟩), .agg #[.int .i64 oo.kind, .string oo.space, .string oo.channel, .string oo.user, .string oo.text, .string oo.toSpace, .string oo.to, .int .i64 oo.frm, .int .i64 oo.most]] X (DoOut who X B s k oo)) := fun X hX => Do_any (HC3.out.below hX).md (by omega) oo HOp.out
            have HS13 : Hid (∀ X, Below F.heap.size F X → ((X.cell? ⟨b9, 0, none⟩ = some (.int .i64 (Mo.tells s oo).err) ∧ X.cell? ⟨b9, 1, none⟩ = some (.int .i64 (Mo.tells s oo).at_) ∧ X.cell? ⟨b9, 2, none⟩ = some (.slice pr nr cr)) ∧ X.cell? ⟨g, o + k * 9, none⟩ = some (.int .i64 oo.kind) ∧ X.cell? ⟨g, o + k * 9 + 1, none⟩ = some (.string oo.space) ∧ X.cell? ⟨g, o + k * 9 + 2, none⟩ = some (.string oo.channel) ∧ X.cell? ⟨g, o + k * 9 + 3, none⟩ = some (.string oo.user) ∧ X.cell? ⟨g, o + k * 9 + 4, none⟩ = some (.string oo.text) ∧ X.cell? ⟨g, o + k * 9 + 5, none⟩ = some (.string oo.toSpace) ∧ X.cell? ⟨g, o + k * 9 + 6, none⟩ = some (.string oo.to) ∧ X.cell? ⟨g, o + k * 9 + 7, none⟩ = some (.int .i64 oo.frm) ∧ X.cell? ⟨g, o + k * 9 + 8, none⟩ = some (.int .i64 oo.most))) := fun X hX => ⟨⟨(HF.out.2.2.1.below hX).c0, (HF.out.2.2.1.below hX).c1, (HF.out.2.2.1.below hX).c2⟩, HSx.out X (HC3.out.old.trans (hX.mono HC3.out.old.size))⟩
            go_region_held (fun X => (X.cell? ⟨b9, 0, none⟩ = some (.int .i64 (Mo.tells s oo).err) ∧ X.cell? ⟨b9, 1, none⟩ = some (.int .i64 (Mo.tells s oo).at_) ∧ X.cell? ⟨b9, 2, none⟩ = some (.slice pr nr cr)) ∧ X.cell? ⟨g, o + k * 9, none⟩ = some (.int .i64 oo.kind) ∧ X.cell? ⟨g, o + k * 9 + 1, none⟩ = some (.string oo.space) ∧ X.cell? ⟨g, o + k * 9 + 2, none⟩ = some (.string oo.channel) ∧ X.cell? ⟨g, o + k * 9 + 3, none⟩ = some (.string oo.user) ∧ X.cell? ⟨g, o + k * 9 + 4, none⟩ = some (.string oo.text) ∧ X.cell? ⟨g, o + k * 9 + 5, none⟩ = some (.string oo.toSpace) ∧ X.cell? ⟨g, o + k * 9 + 6, none⟩ = some (.string oo.to) ∧ X.cell? ⟨g, o + k * 9 + 7, none⟩ = some (.int .i64 oo.frm) ∧ X.cell? ⟨g, o + k * 9 + 8, none⟩ = some (.int .i64 oo.most))
              (with_reducible first | assumption | exact HS13.out _ (by assumption))
              (first
                | (go_at_call 10; refine (HMd.out _ (by assumption)).mono ?_; rintro e G1 ⟨v, who', rfl, hrow, hnew, haft⟩
                   have HG1 : Hid (RowC G1 2 v (Mo.tells s oo).posts.length (poCells (Mo.tells s oo).posts) ∧ AftM who F.drew G1 B (Mo.does s oo) (k + 1) who') := ⟨hrow, haft⟩
                   have hG9 : who b9 = 0 ∧ b9 < F.drew.heap.size := by
                     have h1 := (HC2.out.new b9 HF.out.2.2.2.2.2.2.2).1
                     exact ⟨h1, HF.out.2.2.1.lt⟩
                   have hS9 : (G1.cell? ⟨b9, 0, none⟩ = some (.int .i64 (Mo.tells s oo).err) ∧ G1.cell? ⟨b9, 1, none⟩ = some (.int .i64 (Mo.tells s oo).at_) ∧ G1.cell? ⟨b9, 2, none⟩ = some (.slice pr nr cr)) ∧ G1.cell? ⟨g, o + k * 9, none⟩ = some (.int .i64 oo.kind) ∧ G1.cell? ⟨g, o + k * 9 + 1, none⟩ = some (.string oo.space) ∧ G1.cell? ⟨g, o + k * 9 + 2, none⟩ = some (.string oo.channel) ∧ G1.cell? ⟨g, o + k * 9 + 3, none⟩ = some (.string oo.user) ∧ G1.cell? ⟨g, o + k * 9 + 4, none⟩ = some (.string oo.text) ∧ G1.cell? ⟨g, o + k * 9 + 5, none⟩ = some (.string oo.toSpace) ∧ G1.cell? ⟨g, o + k * 9 + 6, none⟩ = some (.string oo.to) ∧ G1.cell? ⟨g, o + k * 9 + 7, none⟩ = some (.int .i64 oo.frm) ∧ G1.cell? ⟨g, o + k * 9 + 8, none⟩ = some (.int .i64 oo.most) := by
                     have hb : G1.heap[b9]? = F.drew.heap[b9]? := haft.2.2.block b9 hG9.2 hG9.1
                     have hr := (HF.out.2.2.1.below HFd.out).keep hb
                     exact ⟨⟨hr.c0, hr.c1, hr.c2⟩, HSx.out G1 ((HC3.out.below HFd.out).aft haft).old⟩
                   have HSame : Hid (Calls Try.prog 21 #[.agg #[.int .i64 (Mo.tells s oo).err, .int .i64 (Mo.tells s oo).at_, v], .agg #[.int .i64 (Mo.tells s oo).err, .int .i64 (Mo.tells s oo).at_, .slice pr nr cr]] G1 fun e w' => e = .returned (.bool true) ∧ Below G1.heap.size G1 w') := by
                     refine Same_eq _ _ (PoR.ofRow hrow) ?_
                     have hp := HF.out.2.2.2.1
                     have h2 : RowC F 2 (.slice pr nr cr) (Mo.tells s oo).posts.length (poCells (Mo.tells s oo).posts) := by rw [← hp.1]; exact hp.2
                     refine PoR.ofRow (RowC.carry h2 (fun g' hg' => ?_))
                     have h3 := (HF.out.2.2.2.2.1 g' hg').1
                     have h4 := RowC.lt h2 (by decide) hg'
                     exact haft.2.2.block g' h4 h3
                   clear hrow hnew haft hG9)
                | (go_at_call 21; refine HSame.out.mono ?_; rintro e G2 ⟨rfl, hb2⟩
                   have HG2 : Hid (Below G1.heap.size G1 G2) := hb2
                   have hS9' : (G2.cell? ⟨b9, 0, none⟩ = some (.int .i64 (Mo.tells s oo).err) ∧ G2.cell? ⟨b9, 1, none⟩ = some (.int .i64 (Mo.tells s oo).at_) ∧ G2.cell? ⟨b9, 2, none⟩ = some (.slice pr nr cr)) ∧ G2.cell? ⟨g, o + k * 9, none⟩ = some (.int .i64 oo.kind) ∧ G2.cell? ⟨g, o + k * 9 + 1, none⟩ = some (.string oo.space) ∧ G2.cell? ⟨g, o + k * 9 + 2, none⟩ = some (.string oo.channel) ∧ G2.cell? ⟨g, o + k * 9 + 3, none⟩ = some (.string oo.user) ∧ G2.cell? ⟨g, o + k * 9 + 4, none⟩ = some (.string oo.text) ∧ G2.cell? ⟨g, o + k * 9 + 5, none⟩ = some (.string oo.toSpace) ∧ G2.cell? ⟨g, o + k * 9 + 6, none⟩ = some (.string oo.to) ∧ G2.cell? ⟨g, o + k * 9 + 7, none⟩ = some (.int .i64 oo.frm) ∧ G2.cell? ⟨g, o + k * 9 + 8, none⟩ = some (.int .i64 oo.most) := by
                     obtain ⟨⟨q1, q2, q3⟩, q4, q5, q6, q7, q8, q9, q10, q11, q12⟩ := hS9
                     have no : ∀ (b j : Nat) (x : Value), G1.cell? ⟨b, j, none⟩ = some x → G2.cell? ⟨b, j, none⟩ = some x := fun b j x hx => (HG2.out.cell (p := ⟨b, j, none⟩) (World.block_lt_of_cell? _ _ hx)).trans hx
                     exact ⟨⟨no _ _ _ q1, no _ _ _ q2, no _ _ _ q3⟩, no _ _ _ q4, no _ _ _ q5, no _ _ _ q6, no _ _ _ q7, no _ _ _ q8, no _ _ _ q9, no _ _ _ q10, no _ _ _ q11, no _ _ _ q12⟩
                   clear hb2))
            have HC4 : Hid (Core w G2 B (Mo.does s oo) who' (k + 1) b4 b6 l0 l1 o0 o1 u5) := ((HC3.out.below HFd.out).aft HG1.out.2).below HG2.out
            have HD4 : Hid (Dv (Sf who' b4 b6) G2 (.agg #[.slice p1 n1 c1, .slice p2 n2 c2]) (Mp.dDo q oo).1) := ((HF.out.2.2.2.2.2.1.below HFd.out).aft HG1.out.2).below HG2.out
            have HQ8 : Hid (Bq b8 (.slice p1 n1 c1) (.slice p2 n2 c2) G2) := by
              have h1 := (HC2.out.new b8 HF.out.2.2.2.2.2.2.1).1
              have h2 := HF.out.2.1.below HFd.out
              exact (h2.keep (HG1.out.2.2.2.block b8 h2.lt h1)).below HG2.out
            have HR4 : Hid (Mp.Rel (Mo.does s oo) (Mp.dDo q oo).1 ∧ Lb (Mp.dDo q oo).1 ∧ Sz (k + 1) (Mp.dDo q oo).1) := ⟨(HD.out.2.1.step oo).1, HD.out.2.2.1.step oo, HD.out.2.2.2.step oo⟩
            clear hS9 hS9' hFd HSame HMd HS13 HG2 HG1 HFd HF HC3 HC2 HD2
            obtain ⟨d0, d1, _, _⟩ := HQ8.out
            obtain ⟨e0, e1, f0, f1⟩ := HC4.out.q4
            obtain ⟨G3, hG3⟩ : ∃ G3, G3 = (G2.setCell ⟨b4, 0, none⟩ (.slice p1 n1 c1)).setCell ⟨b4, 1, none⟩ (.slice p2 n2 c2) := ⟨_, rfl⟩
            have HC5 : Hid (Core w G3 B (Mo.does s oo) who' (k + 1) b4 b6 (.slice p1 n1 c1) (.slice p2 n2 c2) o0 o1 u5) := by rw [hG3]; exact HC4.out.set4 _ _
            have HD5 : Hid (Dv (Sf who' b4 b6) G3 (.agg #[.slice p1 n1 c1, .slice p2 n2 c2]) (Mp.dDo q oo).1) := by rw [hG3]; exact HD4.out.set4 _ _
            have HE3 : Hid (G3 = (G2.setCell ⟨b4, 0, none⟩ (.slice p1 n1 c1)).setCell ⟨b4, 1, none⟩ (.slice p2 n2 c2)) := hG3
            clear hG3
            go_upto_region 16 with fail
            rw [← HE3.out]
            clear d0 d1 e0 e1 f0 f1 HE3 HC4 HD4 HQ8
            by_cases hh : ((k : Int) == (n0 : Int) / 2) = true
            · have HCp : Hid (Calls Try.prog 22 #[.pointer (some ⟨B, 0, none⟩)] G3 fun e w' => ∃ B2 who2, e = .returned (.pointer (some ⟨B2, 0, none⟩)) ∧ Below G3.heap.size G3 w' ∧ Md w' B2 (Mo.does s oo) who2 (k + 1 + (k + 1)) ∧ ∀ k, who2 k ≠ 0 → G3.heap.size ≤ k) := by
                obtain ⟨bc, bo, f, cs, hV⟩ := HC5.out.md
                exact Copy_c hV (by omega)
              go_wp2_with fail
              refine Calls.mono HCp.out ?_
              rintro e G4 ⟨B2, who2, rfl, hb4, hm2, hlo2⟩
              have HM2 : Hid (Md G4 B2 (Mo.does s oo) who2 (k + 1 + (k + 1)) ∧ ∀ k, who2 k ≠ 0 → G3.heap.size ≤ k) := ⟨hm2, hlo2⟩
              have HC6 : Hid (Core w G4 B (Mo.does s oo) who' (k + 1) b4 b6 (.slice p1 n1 c1) (.slice p2 n2 c2) o0 o1 u5) := HC5.out.below hb4
              have HD6 : Hid (Dv (Sf who' b4 b6) G4 (.agg #[.slice p1 n1 c1, .slice p2 n2 c2]) (Mp.dDo q oo).1) := HD5.out.below hb4
              clear hb4 hm2 hlo2
              obtain ⟨e0, e1, _, _⟩ := HC6.out.q4
              obtain ⟨d0, d1, f0, f1⟩ := HC6.out.q6
              obtain ⟨G5, hG5⟩ : ∃ G5, G5 = (G4.setCell ⟨b6, 0, none⟩ (.slice p1 n1 c1)).setCell ⟨b6, 1, none⟩ (.slice p2 n2 c2) := ⟨_, rfl⟩
              have HC7 : Hid (Core w G5 B (Mo.does s oo) who' (k + 1) b4 b6 (.slice p1 n1 c1) (.slice p2 n2 c2) (.slice p1 n1 c1) (.slice p2 n2 c2) (.pointer (some ⟨B2, 0, none⟩))) := by
                rw [hG5]
                exact HC6.out.set6 _ _ _ (.inr ⟨B2, _, who2, _, _, rfl, HM2.out.1, by omega, fun j hj => HC5.out.new j (HM2.out.2 j hj), HD6.out, HR4.out.1, HR4.out.2.1, HR4.out.2.2.mono (by omega)⟩)
              have HN : Hid (Pst w G5 B b4 b6 (k + 1) (.pointer (some ⟨B2, 0, none⟩))) := ⟨who', _, _, _, _, _, _, HC7.out, by rw [hG5]; exact HD6.out.set6 _ _, HR4.out.1, HR4.out.2.1, HR4.out.2.2⟩
              have HE5 : Hid (G5 = (G4.setCell ⟨b6, 0, none⟩ (.slice p1 n1 c1)).setCell ⟨b6, 1, none⟩ (.slice p2 n2 c2)) := hG5
              clear hG5
              go_upto_region 19 with fail
              rw [← HE5.out]
              clear e0 e1 d0 d1 f0 f1 HE5
              go_wp2
              go_roundw
              case rel => exact ⟨k + 1, by go_num, by omega, by omega, HN⟩
              case measure => simp [intOf]; omega
            · have hh2 : ((k : Int) == (n0 : Int) / 2) = false := Bool.eq_false_iff.2 hh
              clear hh
              have HN : Hid (Pst w G3 B b4 b6 (k + 1) u5) := ⟨who', _, _, _, _, _, _, HC5.out, HD5.out, HR4.out.1, HR4.out.2.1, HR4.out.2.2⟩
              go_wp2
              go_roundw
              case rel => exact ⟨k + 1, by go_num, by omega, by omega, HN⟩
              case measure => simp [intOf]; omega

      · have hi1 : (k : Int) < (n0 : Int) := by omega
        have hi2 : ¬ (k : Int) < 200 := by omega
        clear HI
        obtain ⟨who, s, q, l0, l1, o0, o1, hC, hD, hR, hL, hS⟩ := HP.out
        have HC : Hid (Core w wr B s who k b4 b6 l0 l1 o0 o1 u5) := hC
        have HT1 : Hid (Calls Try.prog 23 #[.pointer (some ⟨B, 0, none⟩), .agg #[l0, l1]] wr fun e w' => e = .returned (.bool true) ∧ Below wr.heap.size wr w') := told_any hC.md (by omega) hD hR hL hS (by omega)
        have hcp := hC.cp
        obtain ⟨e0, e1, _, _⟩ := hC.q4
        rcases hcp with hcv | ⟨Bc, sc, whoc, nc, qo, hcv, m1, m2, m3, m4, m5, m6, m7⟩
        · subst hcv
          clear hC hD hR hL hS
          go_wp2_with fail
          refine Calls.mono HT1.out ?_
          rintro e T1 ⟨rfl, hbT⟩
          have HTw : Hid (Below w.heap.size w T1) := HC.out.old.trans (hbT.mono HC.out.old.size)
          clear hbT e0 e1
          go_wp2_with fail
          refine (HA.out _).mono ?_
          rintro e T2 ⟨rfl, hbE⟩
          have HE : Hid (Below w.heap.size w T2) := HTw.out.trans (hbE.mono HTw.out.size)
          clear hbE
          go_wp2
          go_ret
          exact ⟨rfl, HE.out⟩
        · subst hcv
          have HT2 : Hid (∀ X, Below wr.heap.size wr X → Calls Try.prog 23 #[.pointer (some ⟨Bc, 0, none⟩), .agg #[o0, o1]] X fun e w' => e = .returned (.bool true) ∧ Below X.heap.size X w') := fun X hX => told_any (m1.below hX) m2 (m4.below hX) m5 m6 m7 (by omega)
          clear hC hD hR hL hS m1 m2 m3 m4 m5 m6 m7
          go_wp2_with fail
          refine Calls.mono HT1.out ?_
          rintro e T1 ⟨rfl, hbT⟩
          have HT3 : Hid (Below wr.heap.size wr T1) := hbT
          have HTw : Hid (Below w.heap.size w T1) := HC.out.old.trans (hbT.mono HC.out.old.size)
          clear hbT e0 e1
          obtain ⟨d0, d1, _, _⟩ := HC.out.q6.below HT3.out
          go_wp2_with fail
          refine (HT2.out T1 HT3.out).mono ?_
          rintro e T2 ⟨rfl, hbT2⟩
          have HTw2 : Hid (Below w.heap.size w T2) := HTw.out.trans (hbT2.mono HTw.out.size)
          clear hbT2 d0 d1
          go_wp2_with fail
          refine (HA.out _).mono ?_
          rintro e T4 ⟨rfl, hbE⟩
          have HE : Hid (Below w.heap.size w T4) := HTw2.out.trans (hbE.mono HTw2.out.size)
          clear hbE
          go_wp2
          go_ret
          exact ⟨rfl, HE.out⟩

    · have hi1 : ¬ (k : Int) < (n0 : Int) := by omega
      clear HI
      obtain ⟨who, s, q, l0, l1, o0, o1, hC, hD, hR, hL, hS⟩ := HP.out
      have HC : Hid (Core w wr B s who k b4 b6 l0 l1 o0 o1 u5) := hC
      have HT1 : Hid (Calls Try.prog 23 #[.pointer (some ⟨B, 0, none⟩), .agg #[l0, l1]] wr fun e w' => e = .returned (.bool true) ∧ Below wr.heap.size wr w') := told_any hC.md (by omega) hD hR hL hS (by omega)
      have hcp := hC.cp
      obtain ⟨e0, e1, _, _⟩ := hC.q4
      rcases hcp with hcv | ⟨Bc, sc, whoc, nc, qo, hcv, m1, m2, m3, m4, m5, m6, m7⟩
      · subst hcv
        clear hC hD hR hL hS
        go_wp2_with fail
        refine Calls.mono HT1.out ?_
        rintro e T1 ⟨rfl, hbT⟩
        have HTw : Hid (Below w.heap.size w T1) := HC.out.old.trans (hbT.mono HC.out.old.size)
        clear hbT e0 e1
        go_wp2_with fail
        refine (HA.out _).mono ?_
        rintro e T2 ⟨rfl, hbE⟩
        have HE : Hid (Below w.heap.size w T2) := HTw.out.trans (hbE.mono HTw.out.size)
        clear hbE
        go_wp2
        go_ret
        exact ⟨rfl, HE.out⟩
      · subst hcv
        have HT2 : Hid (∀ X, Below wr.heap.size wr X → Calls Try.prog 23 #[.pointer (some ⟨Bc, 0, none⟩), .agg #[o0, o1]] X fun e w' => e = .returned (.bool true) ∧ Below X.heap.size X w') := fun X hX => told_any (m1.below hX) m2 (m4.below hX) m5 m6 m7 (by omega)
        clear hC hD hR hL hS m1 m2 m3 m4 m5 m6 m7
        go_wp2_with fail
        refine Calls.mono HT1.out ?_
        rintro e T1 ⟨rfl, hbT⟩
        have HT3 : Hid (Below wr.heap.size wr T1) := hbT
        have HTw : Hid (Below w.heap.size w T1) := HC.out.old.trans (hbT.mono HC.out.old.size)
        clear hbT e0 e1
        obtain ⟨d0, d1, _, _⟩ := HC.out.q6.below HT3.out
        go_wp2_with fail
        refine (HT2.out T1 HT3.out).mono ?_
        rintro e T2 ⟨rfl, hbT2⟩
        have HTw2 : Hid (Below w.heap.size w T2) := HTw.out.trans (hbT2.mono HTw.out.size)
        clear hbT2 d0 d1
        go_wp2_with fail
        refine (HA.out _).mono ?_
        rintro e T4 ⟨rfl, hbE⟩
        have HE : Hid (Below w.heap.size w T4) := HTw2.out.trans (hbE.mono HTw2.out.size)
        clear hbE
        go_wp2
        go_ret
        exact ⟨rfl, HE.out⟩

theorem laidOut : laidOutB Try.prog = true := by kernel_rfl

theorem own : ownKnob Try.prog.godebug = none := by kernel_rfl

set_option maxRecDepth 100000 in
theorem lifted (os : Os) (started : os.Started) (H : Type) (enc : TypeId × Value → H) :
    ReturnsInHanded {} Try.checked os 8 .any (Rows.modelPlaysSpec.pre6 enc Try.prog Try.f8 Rows.modelPlaysRow.domain false) (Rows.modelPlaysSpec.post enc Try.prog Try.f8 false true false false) := by
  refine returnsInHanded_of_change_sized (C := Try.checked) own started (by kernel_rfl) Try.func8
    (ChangeSpec.witness6 (enc := enc) (C := Try.checked) false ⟨#[], #[.slice none 0 0], []⟩ 8 (by kernel_rfl) (by kernel_rfl) (by kernel_rfl) (by kernel_rfl)) ?_
  intro W base args ds gs before hval0 hW _ hsz0 _
  have hsz : (DataW.weightsEach Try.prog (Try.f8.params.toList ++ Rows.modelPlaysSpec.plain.varTypes Try.prog) (ds ++ gs)).all (· ≤ reachBytes) = true := hsz0
  have hval : ∀ (j : Nat) t v, Try.f8.params[j]? = some t → args[j]? = some v → Value.okWide Try.prog W .any base t v := hval0
  have hW' := hW
  obtain ⟨p, q, hA0, hV, rfl, hfz, hnd⟩ := hW
  have hA : DataW.TrodAll enc Try.prog W 0 (fun _ => true) true Try.f8.params.toList args.toList ds p := hA0
  rw [Try.params8] at hA hval hsz
  obtain ⟨v0, vs0, d0, ds0, p0, q0, hargs, rfl, rfl, h0, r0⟩ := trodAll_cons hA
  obtain ⟨rfl, rfl, rfl⟩ := trodAll_nil r0
  obtain rfl : args = #[v0] := by cases args; simp_all
  obtain ⟨rfl, rfl⟩ := trodVars_none hV
  have k0 := h0
  have lt0 : ∀ x ∈ p0, x.block < W.heap.size := by obtain ⟨m, hm⟩ := k0; exact DataW.trod_lt m _ _ _ hm
  obtain ⟨a0, b0⟩ := open_ops9 (hval 0 38 v0 rfl rfl) h0
  clear hA0 hval0 hsz0
  refine (walk v0 a0 W b0).mono fun e W' ⟨he, bel⟩ => ?_
  subst he
  exact ⟨_, rfl, _, _, _, [], _, [], hW', trodAll_mk1 (shut_bool Try.underlying4 _), (trodAll_cons_mk (Below.trod laidOut (by kernel_rfl) (of_decide_eq_true (by kernel_rfl)) k0 bel lt0) trodAll_mk0), rfl, bel.frame _, fun h => by cases h⟩

theorem over : Rows.modelPlaysRow.holds Try.pinned (OpenSpec.ofChange Rows.modelPlaysSpec) :=
  OpenClaim.holds_of_wide 8 Try.f8 rfl rfl rfl rfl rfl rfl rfl ⟨rfl, rfl, rfl, rfl, rfl⟩ rfl rfl rfl rfl rfl (by kernel_rfl) Try.func8 (by kernel_rfl)
    (of_decide_eq_true (by kernel_rfl)) (by unfold Func.isWrapper; first | (rw [if_pos (by decide +kernel)]; kernel_rfl) | (rw [if_neg (by decide +kernel)]; exact ⟨rfl, rfl⟩))
    (fun os started H enc _ => lifted os started H enc)


end Go.Proofs.Ytkioeahlajjmiaa.modelPlays
namespace Go.Proofs.Ytkioeahlajjmiaa
/-- The statement. -/
theorem modelPlays_holds : Rows.ModelPlaysSaid := modelPlays.over
end Go.Proofs.Ytkioeahlajjmiaa
