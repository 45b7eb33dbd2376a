/-
  The fewest records that make groups what they are, as plain mathematics: they may come one behind the other, and make just that. fewest: the fewest records that make a group what it is. fewest, whole: the fewest records that make a group what it is. A strings.Builder of a call's own: WriteString and String, by the shelf's contracts. needed: the bytes of the records that make all groups what they are.
-/
import Derived.Test.YtpfnkjfbhcffiaaWlReplay
import Derived.Test.YtpfnkjfbhcffiaaWlDo2
import Derived.Deep.RegionHeld3
import Derived.Shelf.Strings.BuilderK
import Derived.Test.YtpfnkjfbhcffiaaRows
namespace Go.Proofs.Ytpfnkjfbhcffiaa.W

/-- The records l may come, and make gs'. -/
def Goes (gs : Nat → Sv) (l : List Rec) (gs' : Nat → Sv) : Prop := Chks gs l ∧ folds gs l = gs'

theorem Goes.nil (gs : Nat → Sv) : Goes gs [] gs := ⟨trivial, rfl⟩
theorem Goes.append {gs g1 g2 : Nat → Sv} {a b : List Rec} (h : Goes gs a g1) (k : Goes g1 b g2) : Goes gs (a ++ b) g2 := by
  obtain ⟨h1, h2⟩ := h
  obtain ⟨k1, k2⟩ := k
  exact ⟨(chks_append a b gs).2 ⟨h1, by rw [h2]; exact k1⟩, by rw [folds_append, h2]; exact k2⟩
theorem Goes.one {gs : Nat → Sv} {r : Rec} (h : chk gs r = 0) : Goes gs [r] (doR gs r) := ⟨⟨h, trivial⟩, rfl⟩

theorem upd_upd {α : Type} (f : Nat → α) (i : Nat) (x y : α) : upd (upd f i x) i y = upd f i y := by
  funext j
  unfold upd
  split <;> rfl
theorem upd_self {α : Type} (f : Nat → α) (i : Nat) (x : α) (h : f i = x) : upd f i x = f := by
  funext j
  unfold upd
  split
  · rename_i e; rw [e, h]
  · rfl

/-- One record of group g, that may be and that fits. -/
theorem goes_one {gs : Nat → Sv} {g : Nat} (hg : g < 9) {s : Sv} (hs : gs g = s) (r : Rec) (hr : r.group = (g : Int)) (hm : mayK r = true) (hf : fits s r = true) : Goes gs [r] (upd gs g (fold s r)) := by
  have hn : r.group.toNat = g := by rw [hr]; rfl
  have hc : chk gs r = 0 := by
    unfold chk may
    rw [hm, isGroup_iff.2 ⟨by omega, by omega⟩, Bool.and_true, if_pos rfl, hn, hs, if_pos hf]
  have := Goes.one hc
  unfold doR at this
  rw [hn, hs] at this
  exact this

def fewH (g : Nat) (s : Sv) : List Rec := if s.term ≠ 0 ∨ s.vote ≠ -1 then [⟨(g : Int), 1, 0, s.term, s.vote, ⟨#[]⟩⟩] else []
def fewB (g : Nat) (s : Sv) : List Rec := if s.base ≠ 0 ∨ s.bterm ≠ 0 ∨ s.data ≠ ⟨#[]⟩ then [⟨(g : Int), 4, s.base, s.bterm, 0, s.data⟩] else []
def fewE (g : Nat) : Int → List (Int × ByteArray) → List Rec
  | _, [] => []
  | i, e :: l => ⟨(g : Int), 2, i, e.1, 0, e.2⟩ :: fewE g (i + 1) l
/-- The fewest records that make a group what it is. -/
def few (g : Nat) (s : Sv) : List Rec := fewH g s ++ fewB g s ++ fewE g (s.base + 1) s.ents

theorem fewE_snoc (g : Nat) : ∀ (l : List (Int × ByteArray)) (i : Int) (e : Int × ByteArray), fewE g i (l ++ [e]) = fewE g i l ++ [⟨(g : Int), 2, i + (l.length : Int), e.1, 0, e.2⟩]
  | [], i, e => by simp [fewE]
  | x :: l, i, e => by
    rw [List.cons_append, fewE, fewE, fewE_snoc g l, List.cons_append, List.length_cons]
    congr 3
    congr 1
    omega
theorem fewE_length (g : Nat) : ∀ (l : List (Int × ByteArray)) (i : Int), (fewE g i l).length = l.length
  | [], _ => rfl
  | _ :: l, i => by rw [fewE, List.length_cons, fewE_length g l, List.length_cons]

theorem no_bytes : (⟨#[]⟩ : ByteArray).toList.isEmpty = true := by
  have : (⟨#[]⟩ : ByteArray).toList = [] := by
    unfold ByteArray.toList
    rw [ByteArray.toList.loop, if_neg (by simp [ByteArray.size])]
    rfl
  rw [this]
  rfl

theorem goes_hard {gs : Nat → Sv} {g : Nat} (hg : g < 9) (hs : gs g = new) {s : Sv} (ok : Ok s) : Goes gs (fewH g s) (upd gs g { new with term := s.term, vote := s.vote }) := by
  unfold fewH
  split
  · have := goes_one hg hs ⟨(g : Int), 1, 0, s.term, s.vote, ⟨#[]⟩⟩ rfl (by
      unfold mayK mayHard
      dsimp only
      rw [if_pos rfl, ix_iff.2 ok.term, decide_eq_true ok.vote.1, decide_eq_true ok.vote.2, no_bytes]
      decide) (by unfold fits; rw [if_pos rfl])
    exact this
  · rename_i h
    have h1 : s.term = 0 := by omega
    have h2 : s.vote = -1 := by omega
    rw [h1, h2, upd_self gs g _ (by rw [hs]; rfl)]
    exact Goes.nil _

theorem goes_base {gs : Nat → Sv} {g : Nat} (hg : g < 9) {s : Sv} (ok : Ok s) (hs : gs g = { new with term := s.term, vote := s.vote }) : Goes gs (fewB g s) (upd gs g { s with ents := [] }) := by
  have hb := ok.base
  have hl := ok.last
  unfold last at hl
  unfold fewB
  split
  · have := goes_one hg hs ⟨(g : Int), 4, s.base, s.bterm, 0, s.data⟩ rfl (by
      unfold mayK mayBase
      dsimp only
      rw [if_neg (by omega), if_neg (by omega), if_neg (by omega), if_pos rfl, ix_iff.2 ⟨hb, by omega⟩, ix_iff.2 ok.bterm, decide_eq_true ok.data]
      decide) (by
      unfold fits fitsBase
      dsimp only
      rw [if_neg (by omega), if_neg (by omega), if_neg (by omega)]
      exact decide_eq_true hb)
    have e : fold { new with term := s.term, vote := s.vote } ⟨(g : Int), 4, s.base, s.bterm, 0, s.data⟩ = { s with ents := [] } := by
      unfold fold doBase new
      dsimp only
      rw [if_neg (by omega), if_neg (by omega), if_neg (by omega)]
      congr 1
      split <;> simp
    rw [e] at this
    exact this
  · rename_i h
    have h1 : s.base = 0 := Decidable.byContradiction fun e => h (.inl e)
    have h2 : s.bterm = 0 := Decidable.byContradiction fun e => h (.inr (.inl e))
    have h3 : s.data = ⟨#[]⟩ := Decidable.byContradiction fun e => h (.inr (.inr e))
    rw [upd_self gs g _ (by rw [hs, h1, h2, h3]; rfl)]
    exact Goes.nil _

theorem rise_mid : ∀ (pre : List (Int × ByteArray)) (e : Int × ByteArray) (l : List (Int × ByteArray)) (t : Int), Rise t (pre ++ e :: l) → e.2.size ≤ 131072 ∧ (((pre.getLast?).map Prod.fst).getD t) ≤ e.1
  | [], _, _, _, h => ⟨h.2.2.1, h.1⟩
  | x :: pre, e, l, t, h => by
    have q := rise_mid pre e l x.1 h.2.2.2
    refine ⟨q.1, ?_⟩
    cases pre with
    | nil => exact q.2
    | cons y pre =>
      have z : (y :: pre).getLast? = some ((y :: pre).getLast (by simp)) := List.getLast?_eq_some_getLast _
      rw [List.getLast?_cons_cons, z]
      have q2 := q.2
      rw [z] at q2
      exact q2

theorem goes_ents {g : Nat} (hg : g < 9) {s : Sv} : ∀ (l pre : List (Int × ByteArray)) (gs : Nat → Sv), Ok { s with ents := pre ++ l } → gs g = { s with ents := pre } → Goes gs (fewE g (s.base + 1 + (pre.length : Int)) l) (upd gs g { s with ents := pre ++ l })
  | [], pre, gs, _, hs => by
    rw [List.append_nil, upd_self gs g _ hs]
    exact Goes.nil _
  | e :: l, pre, gs, ok, hs => by
    have hl := ok.last
    unfold last at hl
    dsimp only at hl
    rw [List.length_append, List.length_cons] at hl
    have hb : 0 ≤ s.base := ok.base
    have hr := ok.rise
    dsimp only at hr
    have hk := rise_drop (pre ++ e :: l) s.bterm pre.length e hr (by rw [List.getElem?_append_right (Nat.le_refl _), Nat.sub_self]; rfl)
    have hbt : 0 ≤ s.bterm := ok.bterm.1
    have hd : e.2.size ≤ 131072 ∧ (((pre.getLast?).map Prod.fst).getD s.bterm) ≤ e.1 := rise_mid pre e l s.bterm hr
    have h1 := goes_one hg hs ⟨(g : Int), 2, s.base + 1 + (pre.length : Int), e.1, 0, e.2⟩ rfl (by
      unfold mayK mayEntry mayBase
      dsimp only
      rw [if_neg (by omega), if_pos rfl, ix_iff.2 ⟨by omega, by omega⟩, ix_iff.2 ⟨by omega, hk.2.2⟩, decide_eq_true hd.1, decide_eq_true (show (1 : Int) ≤ s.base + 1 + (pre.length : Int) by omega)]
      decide) (by
      unfold fits fitsEntry
      dsimp only
      rw [if_neg (by omega), if_pos rfl, termAt_last, Bool.and_eq_true]
      refine ⟨?_, decide_eq_true hd.2⟩
      unfold last
      dsimp only
      rw [beq_iff_eq]
      omega)
    have e1 : fold { s with ents := pre } ⟨(g : Int), 2, s.base + 1 + (pre.length : Int), e.1, 0, e.2⟩ = { s with ents := pre ++ [e] } := by
      unfold fold doEntry
      dsimp only
      rw [if_neg (by omega), if_pos rfl]
    rw [e1] at h1
    have h2 := goes_ents hg l (pre ++ [e]) (upd gs g { s with ents := pre ++ [e] }) (by rw [List.append_assoc]; exact ok) (upd_same _ _ _)
    rw [upd_upd, List.append_assoc, List.length_append] at h2
    have := h1.append h2
    rw [fewE]
    rw [show (s.base + 1 + ((pre.length + [e].length : Nat) : Int)) = s.base + 1 + (pre.length : Int) + 1 by simp only [List.length_cons, List.length_nil]; omega] at this
    exact this

theorem goes_few {gs : Nat → Sv} {g : Nat} (hg : g < 9) (hs : gs g = new) {s : Sv} (ok : Ok s) : Goes gs (few g s) (upd gs g s) := by
  have h1 := goes_hard hg hs ok
  have h2 := goes_base (gs := upd gs g { new with term := s.term, vote := s.vote }) hg ok (upd_same _ _ _)
  rw [upd_upd] at h2
  have h3 := goes_ents (s := s) hg s.ents [] (upd gs g { s with ents := [] }) ok (upd_same _ _ _)
  rw [upd_upd] at h3
  have := (h1.append h2).append h3
  unfold few
  simpa using this

/-- The records of the first n groups. -/
def fewTo (gs : Nat → Sv) : Nat → List Rec
  | 0 => []
  | n + 1 => fewTo gs n ++ few n (gs n)

theorem goes_to (gs : Nat → Sv) (ok : ∀ i, Ok (gs i)) : ∀ n, n ≤ 9 → Goes (fun _ => new) (fewTo gs n) (fun i => if i < n then gs i else new)
  | 0, _ => Goes.nil _
  | n + 1, hn => by
    have h1 := goes_to gs ok n (by omega)
    have h2 := goes_few (gs := fun i => if i < n then gs i else new) (g := n) (by omega) (if_neg (Nat.lt_irrefl n)) (ok n)
    have e : upd (fun i => if i < n then gs i else new) n (gs n) = fun i => if i < n + 1 then gs i else new := by
      funext j
      unfold upd
      by_cases q : j = n
      · rw [if_pos q, q, if_pos (Nat.lt_succ_self n)]
      · rw [if_neg q]
        show (if j < n then gs j else new) = _
        by_cases q2 : j < n
        · rw [if_pos q2, if_pos (by omega)]
        · rw [if_neg q2, if_neg (by omega)]
    rw [e] at h2
    exact h1.append h2

theorem folds_far : ∀ (l : List Rec) (gs : Nat → Sv), Chks gs l → ∀ i, 9 ≤ i → folds gs l i = gs i
  | [], _, _, _, _ => rfl
  | r :: l, gs, h, i, hi => by
    obtain ⟨h1, _, _⟩ := chk_ok h.1
    have := isGroup_iff.1 h1
    rw [folds, folds_far l _ h.2 i hi]
    unfold doR
    exact upd_other _ _ (by omega)

/-- All groups' fewest records. -/
theorem goes_all {gs : Nat → Sv} (ok : ∀ i, Ok (gs i)) (hf : ∀ i, 9 ≤ i → gs i = new) : Goes (fun _ => new) (fewTo gs 9) gs := by
  have := goes_to gs ok 9 (Nat.le_refl _)
  have e : (fun i => if i < 9 then gs i else new) = gs := by
    funext i
    split
    · rfl
    · rw [hf i (by omega)]
  rw [e] at this
  exact this

end Go.Proofs.Ytpfnkjfbhcffiaa.W

namespace Go.Proofs.Ytpfnkjfbhcffiaa
open Go.RowKit

/-- The cells of records. -/
def recCells (l : List W.Rec) : List Value := l.flatMap fun r => (recO r).toList
theorem recCells_snoc (l : List W.Rec) (r : W.Rec) : recCells (l ++ [r]) = recCells l ++ (recO r).toList := by simp [recCells]
theorem recCells_len (l : List W.Rec) : (recCells l).length = l.length * 6 := by
  induction l with
  | nil => rfl
  | cons r l ih =>
    have e : recCells (r :: l) = (recO r).toList ++ recCells l := by simp [recCells]
    rw [e, List.length_append, ih, List.length_cons]
    simp [recO]
    omega

theorem infoRec : (Try.prog.info? 37).map (fun i => (i.zero, i.size, i.bytes)) = some (some (.agg #[.int .i64 0, .int .i64 0, .int .i64 0, .int .i64 0, .int .i64 0, .string ⟨#[]⟩]), 6, 56) := by kernel_rfl

/-- A list of records that a call has laid. -/
structure Fe (w X : World) (v : Value) (l : List W.Rec) : Prop where
  row : RowV X 37 6 v l.length (recCells l)
  mine : ∀ k, rowBlk v = some k → w.heap.size ≤ k
  old : Below w.heap.size w X

theorem Fe.nil (w : World) : Fe w w (.slice none 0 0) [] := ⟨RowV.nil _ _ _ _, fun k hk => by simp [rowBlk] at hk, Below.refl _ _⟩

theorem Fe.below {w X Y : World} {v : Value} {l : List W.Rec} (h : Fe w X v l) (hb : Below X.heap.size X Y) : Fe w Y v l :=
  ⟨h.row.carry (fun k hk => hb.block k (h.row.lt hk)), h.mine, h.old.trans (hb.mono h.old.size)⟩

/-- One record more. -/
theorem Fe.app {w X Y : World} {v v' : Value} {l : List W.Rec} (h : Fe w X v l) (r : W.Rec) (ho : RowV Y 37 6 v' (l.length + 1) (recCells l ++ (recO r).toList)) (hg : X.grownBy Y (rowBlk v)) (hl : ∀ k, rowBlk v' = some k → rowBlk v = some k ∨ X.heap.size ≤ k) : Fe w Y v' (l ++ [r]) := by
  have hs := h.old.size
  refine ⟨?_, fun k hk => ?_, ?_⟩
  · rw [List.length_append, recCells_snoc]
    exact ho
  · rcases hl k hk with e | e
    · exact h.mine k e
    · omega
  · refine ⟨hg.os.trans h.old.os, hg.tape.trans h.old.tape, hg.output.trans h.old.output, Nat.le_trans hs hg.size, fun k hk => ?_⟩
    rw [hg.block k (by omega) (fun e => by have := h.mine k e.symm; omega)]
    exact h.old.block k hk

theorem rec_src (X : World) (r : W.Rec) : Src Try.prog 6 54 (.slice (some ⟨X.heap.size, 0, none⟩) 1 1) 1 (recO r).toList (X.alloc (.cells (recO r) 37)).drew :=
  Src.ofSlice _ Try.underlying54 _ _ _ _ rfl (fun j u hu => by
    rw [addr_add0]
    show (X.alloc (.cells (recO r) 37)).cell? _ = _
    rw [World.cell?_alloc_mark, ← hu]
    simp) (fun u hu => by
    simp [recO] at hu
    rcases hu with rfl | rfl | rfl | rfl | rfl | rfl <;> rfl)

/-- What stands behind a first part. -/
def codeRest : Code → Code
  | .seq _ r => r
  | c => c
set_option maxHeartbeats 3200000 in
set_option maxRecDepth 20000 in
/-- The loop over the entries. -/
theorem few_loop {C : Code} (hC : codeRest (codeRest (codeRest (codeRest (Try.f71.body.getD .skip)))) = C) {w X : World} {B o g : Nat} {s : W.Sv} {v v5 : Value} {pre : List W.Rec} (h : SvC w B o s v) (he : EntV w v s.ents) (hok : W.Ok s) (hF : Fe w X v5 pre) (hpre : pre.length ≤ 2) (Post : Ending → World → Prop) (HP : Hid (∀ v' Y, Fe w Y v' (pre ++ W.fewE g (s.base + 1) s.ents) → Post (.returned v') Y))
    (u2 u3 u6 u7 u8 u9 u10 u11 u12 u13 u14 u15 u16 u17 u18 u19 u20 u21 u22 u23 u24 u25 u26 u27 u28 u29 u30 u31 u32 u33 u34 u35 u36 u37 u38 u39 u40 u41 u42 u43 u44 u45 u46 u47 u48 u49 u50 u51 u52 u53 u54 u55 u56 u57 u58 u59 u60 u61 u62 u63 u64 u65 u66 u67 u68 u69 u70 u71 u72 u73 u74 u75 u76 u77 u78 u79 u80 u81 u82 u83 u84 u85 u86 u87 u88 u89 u90 u91 u92 u93 u94 u95 u96 : Value) :
    Code.wp Try.prog C (bodyPost Try.prog Try.f71 Post) ⟨#[.int .i64 (g : Int), .pointer (some ⟨B, o, none⟩), u2, u3, .slice none 0 0, v5, u6, u7, u8, u9, u10, u11, u12, u13, u14, u15, u16, u17, u18, u19, u20, u21, u22, u23, u24, u25, u26, u27, u28, u29, u30, u31, u32, u33, u34, u35, u36, u37, u38, u39, u40, u41, u42, u43, u44, u45, u46, u47, u48, u49, u50, u51, u52, u53, u54, u55, u56, u57, u58, u59, u60, u61, u62, u63, u64, u65, u66, u67, u68, u69, u70, u71, u72, u73, u74, u75, u76, u77, u78, u79, u80, u81, u82, u83, u84, u85, u86, u87, u88, u89, u90, u91, u92, u93, u94, u95, u96], []⟩ X := by
  obtain ⟨p0, c0, hvf, hc0, hc1⟩ := he.form
  obtain ⟨n, hn⟩ : ∃ n, n = s.ents.length := ⟨_, rfl⟩
  rw [← hn] at hvf hc0
  have HS : Hid (∀ Y, Below w.heap.size w Y → SvC Y B o s (.slice p0 n c0)) := fun Y hY => by
    rw [← hvf]
    exact h.carry (hY.block B h.lt)
  have HEn : Hid (EntV w (.slice p0 n c0) s.ents) := by rw [← hvf]; exact he
  have HOk : Hid (W.Ok s) := hok
  have HN : Hid (n = s.ents.length) := hn
  have HF0 : Hid (Fe w X v5 pre) := hF
  have h5 : X.cell? ⟨B, o + 5, none⟩ = some (.slice p0 n c0) := (HS.out X hF.old).c5
  have HPr : Hid (pre.length ≤ 2) := hpre
  have hb0 : 0 ≤ s.base := hok.base
  have hn1 : s.base + (n : Int) ≤ 1099511627776 := by have := hok.last; unfold W.last at this; omega
  subst hC
  generalize hQ : bodyPost Try.prog Try.f71 Post = Q
  have HQ : Hid _ := hQ
  clear hQ h he hok hF hpre hn hvf hc1
  unfold codeRest Try.f71
  dsimp only [Option.getD]
  go_wp2
  go_loopw [5, 74] (fun y i wr => ∃ k : Nat, i = .int .i64 (k : Int) ∧ k ≤ n ∧ Hid (Fe w wr y (pre ++ W.fewE g (s.base + 1) (s.ents.take k)))) (fun _ i _ => n - (intOf i).toNat)
  case atStart => exact ⟨0, rfl, Nat.zero_le _, by rw [List.take_zero, W.fewE, List.append_nil]; exact HF0.out⟩
  case round =>
    obtain ⟨k, rfl, hk, HF⟩ := hrel
    clear HF0 h5
    by_cases hlt : k < n
    · obtain ⟨x, hx⟩ : ∃ x, s.ents[k]? = some x := ⟨_, List.getElem?_eq_getElem (by have := HN.out; omega)⟩
      obtain ⟨ge, c', hpc, _, _, _, hcell⟩ := RowV.cells HEn.out (by have := HN.out; omega)
      injection hpc with e1 e2 e3
      subst e1
      rw [← HN.out] at hcell
      clear e2 e3
      obtain ⟨z0, z1⟩ := entCells_at _ _ _ hx
      obtain ⟨t, d⟩ := x
      have hge : ge < w.heap.size := World.block_lt_of_cell? _ _ ((hcell (k * 2) (by omega)).trans z0)
      have y0 : wr.cell? ⟨ge, k * 2, none⟩ = some (.int .i64 t) := (HF.out.old.cell (p := ⟨ge, k * 2, none⟩) hge).trans ((hcell (k * 2) (by omega)).trans z0)
      have y1 : wr.cell? ⟨ge, k * 2 + 1, none⟩ = some (.string d) := (HF.out.old.cell (p := ⟨ge, k * 2 + 1, none⟩) hge).trans ((hcell (k * 2 + 1) (by omega)).trans z1)
      have HX : Hid (s.ents[k]? = some (t, d)) := hx
      have hk0 : (0 : Int) ≤ (k : Int) := by omega
      have hkn : (k : Int) < (n : Int) := by omega
      clear hcell hge z0 z1 hx
      go_wp2
      obtain ⟨u1, hu1⟩ : ∃ u1, u1 = wr.alloc (.cells #[.int .i64 t, .string d] 75) := ⟨_, rfl⟩
      obtain ⟨be, hbe⟩ : ∃ be, be = wr.heap.size := ⟨_, rfl⟩
      have q0 : u1.cell? ⟨be, 0, none⟩ = some (.int .i64 t) := by rw [hu1, hbe]; exact World.cell?_alloc_mark wr _ _ _ 0
      have q1 : u1.cell? ⟨be, 1, none⟩ = some (.string d) := by rw [hu1, hbe]; exact World.cell?_alloc_mark wr _ _ _ 1
      have HF1 : Hid (Fe w u1 u5 (pre ++ W.fewE g (s.base + 1) (s.ents.take k))) := by rw [hu1]; exact HF.out.below (below_alloc _ _)
      have q2 : u1.cell? ⟨B, o + 2, none⟩ = some (.int .i64 s.base) := (HS.out u1 HF1.out.old).c2
      have HBe : Hid (be = wr.heap.size ∧ B < w.heap.size) := ⟨hbe, by have := World.block_lt_of_cell? _ _ ((HS.out w (Below.refl _ _)).c2); exact this⟩
      rw [← hu1, ← hbe]
      clear hu1 hbe y0 y1
      obtain ⟨l, hl⟩ : ∃ l, l = pre ++ W.fewE g (s.base + 1) (s.ents.take k) := ⟨_, rfl⟩
      have HL : Hid (l = pre ++ W.fewE g (s.base + 1) (s.ents.take k)) := hl
      rw [← hl] at HF1
      have hlen : l.length ≤ 2 + k := by
        rw [hl, List.length_append, W.fewE_length, List.length_take]
        have := HPr.out
        omega
      have hL1 : Hid ((l.length + 1) * 56 ≤ 140737488355328) := by show _ ≤ _; omega
      have hL2 : Hid (l.length + 1 ≤ maxLen) := by unfold maxLen; show _ ≤ _; omega
      have HF2 : Hid (Fe w (u1.alloc (.cells #[.int .i64 (g : Int), .int .i64 2, .int .i64 (IntKind.i64.wrap (IntKind.i64.wrap (s.base + 1) + (k : Int))), .int .i64 t, .int .i64 0, .string d] 37)).drew u5 l) := HF1.out.below (below_alloc _ _).drew
      have HSrc : Hid (Src Try.prog 6 54 (.slice (some ⟨u1.heap.size, 0, none⟩) 1 1) 1 [.int .i64 (g : Int), .int .i64 2, .int .i64 (IntKind.i64.wrap (IntKind.i64.wrap (s.base + 1) + (k : Int))), .int .i64 t, .int .i64 0, .string d] (u1.alloc (.cells #[.int .i64 (g : Int), .int .i64 2, .int .i64 (IntKind.i64.wrap (IntKind.i64.wrap (s.base + 1) + (k : Int))), .int .i64 t, .int .i64 0, .string d] 37)).drew) := rec_src u1 ⟨(g : Int), 2, IntKind.i64.wrap (IntKind.i64.wrap (s.base + 1) + (k : Int)), t, 0, d⟩
      have HNext : Hid (∀ (Y : World) (v' : Value), Fe w Y v' (l ++ [⟨(g : Int), 2, IntKind.i64.wrap (IntKind.i64.wrap (s.base + 1) + (k : Int)), t, 0, d⟩]) → Fe w Y v' (pre ++ W.fewE g (s.base + 1) (s.ents.take (k + 1)))) := by
        intro Y v' hY
        have e1 : s.ents.take (k + 1) = s.ents.take k ++ [(t, d)] := by rw [List.take_add_one, HX.out]; rfl
        have e2 : IntKind.i64.wrap (IntKind.i64.wrap (s.base + 1) + (k : Int)) = s.base + 1 + ((s.ents.take k).length : Int) := by
          rw [IntKind.wrap_i64, IntKind.wrap_i64, List.length_take]
          have := HN.out
          omega
        rw [e1, W.fewE_snoc, ← List.append_assoc, ← HL.out, ← e2]
        exact hY
      clear hl hlen
      have HK : Hid (∀ Y : World, Below u1.heap.size u1 Y → Y.cell? ⟨be, 0, none⟩ = some (.int .i64 t) ∧ Y.cell? ⟨be, 1, none⟩ = some (.string d) ∧ Y.cell? ⟨B, o + 2, none⟩ = some (.int .i64 s.base)) := by
        intro Y hY
        rw [hY.cell (p := ⟨be, 0, none⟩) (World.block_lt_of_cell? _ _ q0), hY.cell (p := ⟨be, 1, none⟩) (World.block_lt_of_cell? _ _ q1), hY.cell (p := ⟨B, o + 2, none⟩) (World.block_lt_of_cell? _ _ q2)]
        exact ⟨q0, q1, q2⟩
      have HKg : Hid (∀ Y : World, ((u1.alloc (.cells #[.int .i64 (g : Int), .int .i64 2, .int .i64 (IntKind.i64.wrap (IntKind.i64.wrap (s.base + 1) + (k : Int))), .int .i64 t, .int .i64 0, .string d] 37)).drew).grownBy Y (rowBlk u5) → Y.cell? ⟨be, 0, none⟩ = some (.int .i64 t) ∧ Y.cell? ⟨be, 1, none⟩ = some (.string d) ∧ Y.cell? ⟨B, o + 2, none⟩ = some (.int .i64 s.base)) := by
        intro Y hY
        have z := HK.out ((u1.alloc (.cells #[.int .i64 (g : Int), .int .i64 2, .int .i64 (IntKind.i64.wrap (IntKind.i64.wrap (s.base + 1) + (k : Int))), .int .i64 t, .int .i64 0, .string d] 37)).drew) (below_alloc _ _).drew
        have nb : ∀ q, (q = be ∨ q = B) → rowBlk u5 ≠ some q := by
          intro q hq e
          have e1 := HF.out.row.lt e
          have e2 := HF.out.mine _ e
          have e3 := HBe.out
          rcases hq with rfl | rfl <;> omega
        rw [World.cell?_of_block (a := ⟨be, 0, none⟩) (hY.block be (World.block_lt_of_cell? _ _ z.1) (fun e => nb be (.inl rfl) e.symm)), World.cell?_of_block (a := ⟨be, 1, none⟩) (hY.block be (World.block_lt_of_cell? _ _ z.1) (fun e => nb be (.inl rfl) e.symm)), World.cell?_of_block (a := ⟨B, o + 2, none⟩) (hY.block B (World.block_lt_of_cell? _ _ z.2.2) (fun e => nb B (.inr rfl) e.symm))]
        exact z
      go_region_held3 (fun Y => Y.cell? ⟨be, 0, none⟩ = some (.int .i64 t) ∧ Y.cell? ⟨be, 1, none⟩ = some (.string d) ∧ Y.cell? ⟨B, o + 2, none⟩ = some (.int .i64 s.base))
        (first | assumption | exact HK.out _ (Below.refl _ _).drew | exact HK.out _ (below_alloc _ _).drew)
        ((refine step_append_row rfl (.tmp 79) (.tmp 93) 54 54 37 rfl Try.underlying54 _ 6 56 infoRec rfl u5 l.length (recCells l) (by simp [Act.eval]) HF2.out.row _ 1 _ (by simp [Act.eval]) HSrc.out hL1.out hL2.out ?_; intro v' w1 ho hg hl; have HF3 : Hid _ := HF2.out.app ⟨(g : Int), 2, IntKind.i64.wrap (IntKind.i64.wrap (s.base + 1) + (k : Int)), t, 0, d⟩ ho hg hl; have hkp := HKg.out w1 hg; clear ho hg hl))
      go_wp2
      go_roundw
      case rel => exact ⟨k + 1, by go_num, by omega, HNext.out _ _ HF3.out⟩
      case measure => simp [intOf]; omega
    · obtain rfl : k = n := by omega
      go_wp2
      have hq := HQ.out
      subst hq
      go_ret
      refine HP.out _ _ ?_
      have := HF.out
      rw [HN.out, List.take_length] at this
      exact this

end Go.Proofs.Ytpfnkjfbhcffiaa

namespace Go.Proofs.Ytpfnkjfbhcffiaa
open Go.RowKit

/-- A first part. -/
def codeHead : Code → Code
  | .seq a _ => a
  | c => c

/-- One record more, laid into a block of its own. -/
theorem fe_one {w X : World} {v5 : Value} {pre : List W.Rec} (h : Fe w X v5 pre) (r : W.Rec) : Fe w (X.alloc (.cells (recO r) 37)).drew v5 pre := h.below (below_alloc _ _).drew

theorem data_empty {d : ByteArray} (h : d ≠ ⟨#[]⟩) : d.toList.isEmpty = false := by
  rw [ByteArray.toList_eq]
  cases hd : d.data.toList with
  | nil =>
    refine absurd ?_ h
    have e : d.data = #[] := by simpa using hd
    cases d
    simp only at e
    rw [e]
  | cons x l => rfl

set_option maxHeartbeats 3200000 in
set_option maxRecDepth 20000 in
/-- The base, then the entries. -/
theorem few_base {C : Code} (hC : codeRest (codeRest (codeRest (Try.f71.body.getD .skip))) = C) {w X : World} {B o g : Nat} {s : W.Sv} {v v5 : Value} {pre : List W.Rec} (h : SvC w B o s v) (he : EntV w v s.ents) (hok : W.Ok s) (hF : Fe w X v5 pre) (hpre : pre.length ≤ 1) (Post : Ending → World → Prop) (HP : Hid (∀ v' Y, Fe w Y v' (pre ++ W.fewB g s ++ W.fewE g (s.base + 1) s.ents) → Post (.returned v') Y))
    (u2 u3 u6 u7 u8 u9 u10 u11 u12 u13 u14 u15 u16 u17 u18 u19 u20 u21 u22 u23 u24 u25 u26 u27 u28 u29 u30 u31 u32 u33 u34 u35 u36 u37 u38 u39 u40 u41 u42 u43 u44 u45 u46 u47 u48 u49 u50 u51 u52 u53 u54 u55 u56 u57 u58 u59 u60 u61 u62 u63 u64 u65 u66 u67 u68 u69 u70 u71 u72 u73 u74 u75 u76 u77 u78 u79 u80 u81 u82 u83 u84 u85 u86 u87 u88 u89 u90 u91 u92 u93 u94 u95 u96 : Value) :
    Code.wp Try.prog C (bodyPost Try.prog Try.f71 Post) ⟨#[.int .i64 (g : Int), .pointer (some ⟨B, o, none⟩), u2, u3, .slice none 0 0, v5, u6, u7, u8, u9, u10, u11, u12, u13, u14, u15, u16, u17, u18, u19, u20, u21, u22, u23, u24, u25, u26, u27, u28, u29, u30, u31, u32, u33, u34, u35, u36, u37, u38, u39, u40, u41, u42, u43, u44, u45, u46, u47, u48, u49, u50, u51, u52, u53, u54, u55, u56, u57, u58, u59, u60, u61, u62, u63, u64, u65, u66, u67, u68, u69, u70, u71, u72, u73, u74, u75, u76, u77, u78, u79, u80, u81, u82, u83, u84, u85, u86, u87, u88, u89, u90, u91, u92, u93, u94, u95, u96], []⟩ X := by
  have HL : Hid _ := fun (Y : World) (v' : Value) (pre' : List W.Rec) (hF' : Fe w Y v' pre') (hp : pre'.length ≤ 2) => few_loop (g := g) rfl h he hok hF' hp Post
  have HS : Hid (∀ Y, Below w.heap.size w Y → SvC Y B o s v) := fun Y hY => h.carry (hY.block B h.lt)
  obtain ⟨_, _, c2, c3, c4, _, _⟩ := HS.out X hF.old
  have HF0 : Hid (Fe w X v5 pre) := hF
  have HPr : Hid (pre.length ≤ 1) := hpre
  have HLt : Hid (B < w.heap.size) := h.lt
  subst hC
  have hsplit : codeRest (codeRest (codeRest (Try.f71.body.getD .skip))) = .seq (codeHead (codeRest (codeRest (codeRest (Try.f71.body.getD .skip))))) (codeRest (codeRest (codeRest (codeRest (Try.f71.body.getD .skip))))) := rfl
  rw [hsplit]
  clear hsplit h he hok hF hpre
  by_cases hb : s.base ≠ 0 ∨ s.bterm ≠ 0 ∨ s.data ≠ ⟨#[]⟩
  · have HB : Hid (W.fewB g s = [⟨(g : Int), 4, s.base, s.bterm, 0, s.data⟩]) := by
      show _ = _
      unfold W.fewB
      rw [if_pos hb]
    have HF2 : Hid (Fe w (X.alloc (.cells #[.int .i64 (g : Int), .int .i64 4, .int .i64 s.base, .int .i64 s.bterm, .int .i64 0, .string s.data] 37)).drew v5 pre) := fe_one HF0.out ⟨(g : Int), 4, s.base, s.bterm, 0, s.data⟩
    have HSrc : Hid (Src Try.prog 6 54 (.slice (some ⟨X.heap.size, 0, none⟩) 1 1) 1 [.int .i64 (g : Int), .int .i64 4, .int .i64 s.base, .int .i64 s.bterm, .int .i64 0, .string s.data] (X.alloc (.cells #[.int .i64 (g : Int), .int .i64 4, .int .i64 s.base, .int .i64 s.bterm, .int .i64 0, .string s.data] 37)).drew) := rec_src X ⟨(g : Int), 4, s.base, s.bterm, 0, s.data⟩
    have hL1 : Hid ((pre.length + 1) * 56 ≤ 140737488355328) := by have := HPr.out; show _ ≤ _; omega
    have hL2 : Hid (pre.length + 1 ≤ maxLen) := by have := HPr.out; unfold maxLen; show _ ≤ _; omega
    have HN : Hid (∀ Y v', Fe w Y v' (pre ++ [⟨(g : Int), 4, s.base, s.bterm, 0, s.data⟩]) → ∀ (u2 u3 u6 u7 u8 u9 u10 u11 u12 u13 u14 u15 u16 u17 u18 u19 u20 u21 u22 u23 u24 u25 u26 u27 u28 u29 u30 u31 u32 u33 u34 u35 u36 u37 u38 u39 u40 u41 u42 u43 u44 u45 u46 u47 u48 u49 u50 u51 u52 u53 u54 u55 u56 u57 u58 u59 u60 u61 u62 u63 u64 u65 u66 u67 u68 u69 u70 u71 u72 u73 u74 u75 u76 u77 u78 u79 u80 u81 u82 u83 u84 u85 u86 u87 u88 u89 u90 u91 u92 u93 u94 u95 u96 : Value), Code.wp Try.prog (codeRest (codeRest (codeRest (codeRest (Try.f71.body.getD .skip))))) (bodyPost Try.prog Try.f71 Post) ⟨#[.int .i64 (g : Int), .pointer (some ⟨B, o, none⟩), u2, u3, .slice none 0 0, v', u6, u7, u8, u9, u10, u11, u12, u13, u14, u15, u16, u17, u18, u19, u20, u21, u22, u23, u24, u25, u26, u27, u28, u29, u30, u31, u32, u33, u34, u35, u36, u37, u38, u39, u40, u41, u42, u43, u44, u45, u46, u47, u48, u49, u50, u51, u52, u53, u54, u55, u56, u57, u58, u59, u60, u61, u62, u63, u64, u65, u66, u67, u68, u69, u70, u71, u72, u73, u74, u75, u76, u77, u78, u79, u80, u81, u82, u83, u84, u85, u86, u87, u88, u89, u90, u91, u92, u93, u94, u95, u96], []⟩ Y) := by
      intro Y v' hY
      refine HL.out Y v' _ hY (by rw [List.length_append]; show pre.length + 1 ≤ 2; have := HPr.out; omega) ?_
      intro v2 Y2 h2
      refine HP.out v2 Y2 ?_
      rw [HB.out]
      simpa only [List.append_assoc] using h2
    have HKc : Hid (∀ Y : World, Below X.heap.size X Y → Y.cell? ⟨B, o + 2, none⟩ = some (.int .i64 s.base) ∧ Y.cell? ⟨B, o + 3, none⟩ = some (.int .i64 s.bterm) ∧ Y.cell? ⟨B, o + 4, none⟩ = some (.string s.data)) := by
      intro Y hY
      have q := HS.out Y (HF0.out.old.trans (hY.mono HF0.out.old.size))
      exact ⟨q.c2, q.c3, q.c4⟩
    have HKg : Hid (∀ Y : World, ((X.alloc (.cells #[.int .i64 (g : Int), .int .i64 4, .int .i64 s.base, .int .i64 s.bterm, .int .i64 0, .string s.data] 37)).drew).grownBy Y (rowBlk v5) → Y.cell? ⟨B, o + 2, none⟩ = some (.int .i64 s.base) ∧ Y.cell? ⟨B, o + 3, none⟩ = some (.int .i64 s.bterm) ∧ Y.cell? ⟨B, o + 4, none⟩ = some (.string s.data)) := by
      intro Y hY
      have z := HKc.out ((X.alloc (.cells #[.int .i64 (g : Int), .int .i64 4, .int .i64 s.base, .int .i64 s.bterm, .int .i64 0, .string s.data] 37)).drew) (below_alloc _ _).drew
      have nb : rowBlk v5 ≠ some B := fun e => by
        have e2 := HF0.out.mine _ e
        have e3 := HLt.out
        omega
      have hbk := hY.block B (World.block_lt_of_cell? _ _ z.1) (fun e => nb e.symm)
      rw [World.cell?_of_block (a := ⟨B, o + 2, none⟩) hbk, World.cell?_of_block (a := ⟨B, o + 3, none⟩) hbk, World.cell?_of_block (a := ⟨B, o + 4, none⟩) hbk]
      exact z
    generalize codeRest (codeRest (codeRest (codeRest (Try.f71.body.getD .skip)))) = R at HN ⊢
    generalize bodyPost Try.prog Try.f71 Post = Q at HN ⊢
    clear HP HL HS HB HPr HLt
    by_cases q0 : s.base ≠ 0
    · have k0 : (s.base == 0) = false := by simpa using q0
      have k1 : (s.base != 0) = true := by simpa using q0
      clear hb
      unfold codeHead codeRest Try.f71
      dsimp only [Option.getD]
      go_wp2
      go_region_held3 (fun Y => Y.cell? ⟨B, o + 2, none⟩ = some (.int .i64 s.base) ∧ Y.cell? ⟨B, o + 3, none⟩ = some (.int .i64 s.bterm) ∧ Y.cell? ⟨B, o + 4, none⟩ = some (.string s.data))
        (first | assumption | exact HKc.out _ (Below.refl _ _).drew | exact HKc.out _ (below_alloc _ _).drew)
        ((refine step_append_row rfl (.tmp 52) (.tmp 67) 54 54 37 rfl Try.underlying54 _ 6 56 infoRec rfl v5 pre.length (recCells pre) (by simp [Act.eval]) HF2.out.row _ 1 _ (by simp [Act.eval]) HSrc.out hL1.out hL2.out ?_; intro v' w1 ho hg hl; have HF3 : Hid _ := HF2.out.app ⟨(g : Int), 4, s.base, s.bterm, 0, s.data⟩ ho hg hl; have hkp := HKg.out w1 hg; clear ho hg hl))
      go_wp2
      exact HN.out _ _ HF3.out _ _ _ _ _ _ _ _ _ _ _ _ _ _ _ _ _ _ _ _ _ _ _ _ _ _ _ _ _ _ _ _ _ _ _ _ _ _ _ _ _ _ _ _ _ _ _ _ _ _ _ _ _ _ _ _ _ _ _ _ _ _ _ _ _ _ _ _ _ _ _ _ _ _ _ _ _ _ _ _ _ _ _ _ _ _ _ _ _ _ _ _ _
    have z0 : s.base = 0 := Decidable.not_not.1 q0
    have j0 : (s.base == 0) = true := by simpa using z0
    have j1 : (s.base != 0) = false := by simpa using z0
    clear z0
    by_cases q1 : s.bterm ≠ 0
    · have k0 : (s.bterm == 0) = false := by simpa using q1
      have k1 : (s.bterm != 0) = true := by simpa using q1
      clear hb
      unfold codeHead codeRest Try.f71
      dsimp only [Option.getD]
      go_wp2
      go_region_held3 (fun Y => Y.cell? ⟨B, o + 2, none⟩ = some (.int .i64 s.base) ∧ Y.cell? ⟨B, o + 3, none⟩ = some (.int .i64 s.bterm) ∧ Y.cell? ⟨B, o + 4, none⟩ = some (.string s.data))
        (first | assumption | exact HKc.out _ (Below.refl _ _).drew | exact HKc.out _ (below_alloc _ _).drew)
        ((refine step_append_row rfl (.tmp 52) (.tmp 67) 54 54 37 rfl Try.underlying54 _ 6 56 infoRec rfl v5 pre.length (recCells pre) (by simp [Act.eval]) HF2.out.row _ 1 _ (by simp [Act.eval]) HSrc.out hL1.out hL2.out ?_; intro v' w1 ho hg hl; have HF3 : Hid _ := HF2.out.app ⟨(g : Int), 4, s.base, s.bterm, 0, s.data⟩ ho hg hl; have hkp := HKg.out w1 hg; clear ho hg hl))
      go_wp2
      exact HN.out _ _ HF3.out _ _ _ _ _ _ _ _ _ _ _ _ _ _ _ _ _ _ _ _ _ _ _ _ _ _ _ _ _ _ _ _ _ _ _ _ _ _ _ _ _ _ _ _ _ _ _ _ _ _ _ _ _ _ _ _ _ _ _ _ _ _ _ _ _ _ _ _ _ _ _ _ _ _ _ _ _ _ _ _ _ _ _ _ _ _ _ _ _ _ _ _ _
    have z0 : s.bterm = 0 := Decidable.not_not.1 q1
    have j2 : (s.bterm == 0) = true := by simpa using z0
    have j3 : (s.bterm != 0) = false := by simpa using z0
    clear z0
    have k3 : s.data.toList.isEmpty = false := data_empty (by
      rcases hb with e | e | e
      · exact absurd e q0
      · exact absurd e q1
      · exact e)
    clear hb
    unfold codeHead codeRest Try.f71
    dsimp only [Option.getD]
    go_wp2
    go_region_held3 (fun Y => Y.cell? ⟨B, o + 2, none⟩ = some (.int .i64 s.base) ∧ Y.cell? ⟨B, o + 3, none⟩ = some (.int .i64 s.bterm) ∧ Y.cell? ⟨B, o + 4, none⟩ = some (.string s.data))
      (first | assumption | exact HKc.out _ (Below.refl _ _).drew | exact HKc.out _ (below_alloc _ _).drew)
      ((refine step_append_row rfl (.tmp 52) (.tmp 67) 54 54 37 rfl Try.underlying54 _ 6 56 infoRec rfl v5 pre.length (recCells pre) (by simp [Act.eval]) HF2.out.row _ 1 _ (by simp [Act.eval]) HSrc.out hL1.out hL2.out ?_; intro v' w1 ho hg hl; have HF3 : Hid _ := HF2.out.app ⟨(g : Int), 4, s.base, s.bterm, 0, s.data⟩ ho hg hl; have hkp := HKg.out w1 hg; clear ho hg hl))
    go_wp2
    exact HN.out _ _ HF3.out _ _ _ _ _ _ _ _ _ _ _ _ _ _ _ _ _ _ _ _ _ _ _ _ _ _ _ _ _ _ _ _ _ _ _ _ _ _ _ _ _ _ _ _ _ _ _ _ _ _ _ _ _ _ _ _ _ _ _ _ _ _ _ _ _ _ _ _ _ _ _ _ _ _ _ _ _ _ _ _ _ _ _ _ _ _ _ _ _ _ _ _ _
  · have HB : Hid (W.fewB g s = []) := by
      show _ = _
      unfold W.fewB
      rw [if_neg hb]
    have HN : Hid (∀ (u2 u3 u6 u7 u8 u9 u10 u11 u12 u13 u14 u15 u16 u17 u18 u19 u20 u21 u22 u23 u24 u25 u26 u27 u28 u29 u30 u31 u32 u33 u34 u35 u36 u37 u38 u39 u40 u41 u42 u43 u44 u45 u46 u47 u48 u49 u50 u51 u52 u53 u54 u55 u56 u57 u58 u59 u60 u61 u62 u63 u64 u65 u66 u67 u68 u69 u70 u71 u72 u73 u74 u75 u76 u77 u78 u79 u80 u81 u82 u83 u84 u85 u86 u87 u88 u89 u90 u91 u92 u93 u94 u95 u96 : Value), Code.wp Try.prog (codeRest (codeRest (codeRest (codeRest (Try.f71.body.getD .skip))))) (bodyPost Try.prog Try.f71 Post) ⟨#[.int .i64 (g : Int), .pointer (some ⟨B, o, none⟩), u2, u3, .slice none 0 0, v5, u6, u7, u8, u9, u10, u11, u12, u13, u14, u15, u16, u17, u18, u19, u20, u21, u22, u23, u24, u25, u26, u27, u28, u29, u30, u31, u32, u33, u34, u35, u36, u37, u38, u39, u40, u41, u42, u43, u44, u45, u46, u47, u48, u49, u50, u51, u52, u53, u54, u55, u56, u57, u58, u59, u60, u61, u62, u63, u64, u65, u66, u67, u68, u69, u70, u71, u72, u73, u74, u75, u76, u77, u78, u79, u80, u81, u82, u83, u84, u85, u86, u87, u88, u89, u90, u91, u92, u93, u94, u95, u96], []⟩ X) := by
      refine HL.out X v5 _ HF0.out (by have := HPr.out; omega) ?_
      intro v2 Y2 h2
      refine HP.out v2 Y2 ?_
      rw [HB.out, List.append_nil]
      exact h2
    generalize codeRest (codeRest (codeRest (codeRest (Try.f71.body.getD .skip)))) = R at HN ⊢
    generalize bodyPost Try.prog Try.f71 Post = Q at HN ⊢
    clear HP HL HS HB HPr HLt HF0
    have h1 : s.base = 0 := Decidable.byContradiction fun e => hb (.inl e)
    have h2 : s.bterm = 0 := Decidable.byContradiction fun e => hb (.inr (.inl e))
    have h3 : s.data = ⟨#[]⟩ := Decidable.byContradiction fun e => hb (.inr (.inr e))
    rw [h1] at c2
    rw [h2] at c3
    rw [h3] at c4
    clear h1 h2 h3 hb
    unfold codeHead codeRest Try.f71
    dsimp only [Option.getD]
    go_wp2
    exact HN.out _ _ _ _ _ _ _ _ _ _ _ _ _ _ _ _ _ _ _ _ _ _ _ _ _ _ _ _ _ _ _ _ _ _ _ _ _ _ _ _ _ _ _ _ _ _ _ _ _ _ _ _ _ _ _ _ _ _ _ _ _ _ _ _ _ _ _ _ _ _ _ _ _ _ _ _ _ _ _ _ _ _ _ _ _ _ _ _ _ _ _ _ _

set_option maxHeartbeats 3200000 in
set_option maxRecDepth 20000 in
/-- The hard record, then the base, then the entries. -/
theorem few_hard {C : Code} (hC : codeRest (codeRest (Try.f71.body.getD .skip)) = C) {w X : World} {B o g : Nat} {s : W.Sv} {v v5 : Value} {pre : List W.Rec} (h : SvC w B o s v) (he : EntV w v s.ents) (hok : W.Ok s) (hF : Fe w X v5 pre) (hpre : pre.length ≤ 0) (Post : Ending → World → Prop) (HP : Hid (∀ v' Y, Fe w Y v' (pre ++ W.fewH g s ++ W.fewB g s ++ W.fewE g (s.base + 1) s.ents) → Post (.returned v') Y))
    (u2 u3 u6 u7 u8 u9 u10 u11 u12 u13 u14 u15 u16 u17 u18 u19 u20 u21 u22 u23 u24 u25 u26 u27 u28 u29 u30 u31 u32 u33 u34 u35 u36 u37 u38 u39 u40 u41 u42 u43 u44 u45 u46 u47 u48 u49 u50 u51 u52 u53 u54 u55 u56 u57 u58 u59 u60 u61 u62 u63 u64 u65 u66 u67 u68 u69 u70 u71 u72 u73 u74 u75 u76 u77 u78 u79 u80 u81 u82 u83 u84 u85 u86 u87 u88 u89 u90 u91 u92 u93 u94 u95 u96 : Value) :
    Code.wp Try.prog C (bodyPost Try.prog Try.f71 Post) ⟨#[.int .i64 (g : Int), .pointer (some ⟨B, o, none⟩), u2, u3, .slice none 0 0, v5, u6, u7, u8, u9, u10, u11, u12, u13, u14, u15, u16, u17, u18, u19, u20, u21, u22, u23, u24, u25, u26, u27, u28, u29, u30, u31, u32, u33, u34, u35, u36, u37, u38, u39, u40, u41, u42, u43, u44, u45, u46, u47, u48, u49, u50, u51, u52, u53, u54, u55, u56, u57, u58, u59, u60, u61, u62, u63, u64, u65, u66, u67, u68, u69, u70, u71, u72, u73, u74, u75, u76, u77, u78, u79, u80, u81, u82, u83, u84, u85, u86, u87, u88, u89, u90, u91, u92, u93, u94, u95, u96], []⟩ X := by
  have HL : Hid _ := fun (Y : World) (v' : Value) (pre' : List W.Rec) (hF' : Fe w Y v' pre') (hp : pre'.length ≤ 1) => few_base (g := g) rfl h he hok hF' hp Post
  have HS : Hid (∀ Y, Below w.heap.size w Y → SvC Y B o s v) := fun Y hY => h.carry (hY.block B h.lt)
  obtain ⟨c0, c1, _, _, _, _, _⟩ := HS.out X hF.old
  have HF0 : Hid (Fe w X v5 pre) := hF
  have HPr : Hid (pre.length ≤ 0) := hpre
  have HLt : Hid (B < w.heap.size) := h.lt
  subst hC
  have hsplit : codeRest (codeRest (Try.f71.body.getD .skip)) = .seq (codeHead (codeRest (codeRest (Try.f71.body.getD .skip)))) (codeRest (codeRest (codeRest (Try.f71.body.getD .skip)))) := rfl
  rw [hsplit]
  clear hsplit h he hok hF hpre
  by_cases hb : s.term ≠ 0 ∨ s.vote ≠ -1
  · have HB : Hid (W.fewH g s = [⟨(g : Int), 1, 0, s.term, s.vote, ⟨#[]⟩⟩]) := by
      show _ = _
      unfold W.fewH
      rw [if_pos hb]
    have HF2 : Hid (Fe w (X.alloc (.cells #[.int .i64 (g : Int), .int .i64 1, .int .i64 0, .int .i64 s.term, .int .i64 s.vote, .string ⟨#[]⟩] 37)).drew v5 pre) := fe_one HF0.out ⟨(g : Int), 1, 0, s.term, s.vote, ⟨#[]⟩⟩
    have HSrc : Hid (Src Try.prog 6 54 (.slice (some ⟨X.heap.size, 0, none⟩) 1 1) 1 [.int .i64 (g : Int), .int .i64 1, .int .i64 0, .int .i64 s.term, .int .i64 s.vote, .string ⟨#[]⟩] (X.alloc (.cells #[.int .i64 (g : Int), .int .i64 1, .int .i64 0, .int .i64 s.term, .int .i64 s.vote, .string ⟨#[]⟩] 37)).drew) := rec_src X ⟨(g : Int), 1, 0, s.term, s.vote, ⟨#[]⟩⟩
    have hL1 : Hid ((pre.length + 1) * 56 ≤ 140737488355328) := by have := HPr.out; show _ ≤ _; omega
    have hL2 : Hid (pre.length + 1 ≤ maxLen) := by have := HPr.out; unfold maxLen; show _ ≤ _; omega
    have HN : Hid (∀ Y v', Fe w Y v' (pre ++ [⟨(g : Int), 1, 0, s.term, s.vote, ⟨#[]⟩⟩]) → ∀ (u2 u3 u6 u7 u8 u9 u10 u11 u12 u13 u14 u15 u16 u17 u18 u19 u20 u21 u22 u23 u24 u25 u26 u27 u28 u29 u30 u31 u32 u33 u34 u35 u36 u37 u38 u39 u40 u41 u42 u43 u44 u45 u46 u47 u48 u49 u50 u51 u52 u53 u54 u55 u56 u57 u58 u59 u60 u61 u62 u63 u64 u65 u66 u67 u68 u69 u70 u71 u72 u73 u74 u75 u76 u77 u78 u79 u80 u81 u82 u83 u84 u85 u86 u87 u88 u89 u90 u91 u92 u93 u94 u95 u96 : Value), Code.wp Try.prog (codeRest (codeRest (codeRest (Try.f71.body.getD .skip)))) (bodyPost Try.prog Try.f71 Post) ⟨#[.int .i64 (g : Int), .pointer (some ⟨B, o, none⟩), u2, u3, .slice none 0 0, v', u6, u7, u8, u9, u10, u11, u12, u13, u14, u15, u16, u17, u18, u19, u20, u21, u22, u23, u24, u25, u26, u27, u28, u29, u30, u31, u32, u33, u34, u35, u36, u37, u38, u39, u40, u41, u42, u43, u44, u45, u46, u47, u48, u49, u50, u51, u52, u53, u54, u55, u56, u57, u58, u59, u60, u61, u62, u63, u64, u65, u66, u67, u68, u69, u70, u71, u72, u73, u74, u75, u76, u77, u78, u79, u80, u81, u82, u83, u84, u85, u86, u87, u88, u89, u90, u91, u92, u93, u94, u95, u96], []⟩ Y) := by
      intro Y v' hY
      refine HL.out Y v' _ hY (by rw [List.length_append]; show pre.length + 1 ≤ 1; have := HPr.out; omega) ?_
      intro v2 Y2 h2
      refine HP.out v2 Y2 ?_
      rw [HB.out]
      simpa only [List.append_assoc] using h2
    have HKc : Hid (∀ Y : World, Below X.heap.size X Y → Y.cell? ⟨B, o, none⟩ = some (.int .i64 s.term) ∧ Y.cell? ⟨B, o + 1, none⟩ = some (.int .i64 s.vote)) := by
      intro Y hY
      have q := HS.out Y (HF0.out.old.trans (hY.mono HF0.out.old.size))
      exact ⟨q.c0, q.c1⟩
    have HKg : Hid (∀ Y : World, ((X.alloc (.cells #[.int .i64 (g : Int), .int .i64 1, .int .i64 0, .int .i64 s.term, .int .i64 s.vote, .string ⟨#[]⟩] 37)).drew).grownBy Y (rowBlk v5) → Y.cell? ⟨B, o, none⟩ = some (.int .i64 s.term) ∧ Y.cell? ⟨B, o + 1, none⟩ = some (.int .i64 s.vote)) := by
      intro Y hY
      have z := HKc.out ((X.alloc (.cells #[.int .i64 (g : Int), .int .i64 1, .int .i64 0, .int .i64 s.term, .int .i64 s.vote, .string ⟨#[]⟩] 37)).drew) (below_alloc _ _).drew
      have nb : rowBlk v5 ≠ some B := fun e => by
        have e2 := HF0.out.mine _ e
        have e3 := HLt.out
        omega
      have hbk := hY.block B (World.block_lt_of_cell? _ _ z.1) (fun e => nb e.symm)
      rw [World.cell?_of_block (a := ⟨B, o, none⟩) hbk, World.cell?_of_block (a := ⟨B, o + 1, none⟩) hbk]
      exact z
    generalize codeRest (codeRest (codeRest (Try.f71.body.getD .skip))) = R at HN ⊢
    generalize bodyPost Try.prog Try.f71 Post = Q at HN ⊢
    clear HP HL HS HB HPr HLt
    by_cases q0 : s.term ≠ 0
    · have k0 : (s.term == 0) = false := by simpa using q0
      have k1 : (s.term != 0) = true := by simpa using q0
      clear hb
      unfold codeHead codeRest Try.f71
      dsimp only [Option.getD]
      go_wp2
      go_region_held3 (fun Y => Y.cell? ⟨B, o, none⟩ = some (.int .i64 s.term) ∧ Y.cell? ⟨B, o + 1, none⟩ = some (.int .i64 s.vote))
        (first | assumption | exact HKc.out _ (Below.refl _ _).drew | exact HKc.out _ (below_alloc _ _).drew)
        ((refine step_append_row rfl (.tmp 20) (.tmp 31) 54 54 37 rfl Try.underlying54 _ 6 56 infoRec rfl v5 pre.length (recCells pre) (by simp [Act.eval]) HF2.out.row _ 1 _ (by simp [Act.eval]) HSrc.out hL1.out hL2.out ?_; intro v' w1 ho hg hl; have HF3 : Hid _ := HF2.out.app ⟨(g : Int), 1, 0, s.term, s.vote, ⟨#[]⟩⟩ ho hg hl; have hkp := HKg.out w1 hg; clear ho hg hl))
      go_wp2
      exact HN.out _ _ HF3.out _ _ _ _ _ _ _ _ _ _ _ _ _ _ _ _ _ _ _ _ _ _ _ _ _ _ _ _ _ _ _ _ _ _ _ _ _ _ _ _ _ _ _ _ _ _ _ _ _ _ _ _ _ _ _ _ _ _ _ _ _ _ _ _ _ _ _ _ _ _ _ _ _ _ _ _ _ _ _ _ _ _ _ _ _ _ _ _ _ _ _ _ _
    have z0 : s.term = 0 := Decidable.not_not.1 q0
    have j0 : (s.term == 0) = true := by simpa using z0
    have j1 : (s.term != 0) = false := by simpa using z0
    clear z0
    have q1 : s.vote ≠ -1 := by
      rcases hb with e | e
      · exact absurd e q0
      · exact e
    have k0 : (s.vote == -1) = false := by simpa using q1
    have k1 : (s.vote != -1) = true := by simpa using q1
    clear hb
    unfold codeHead codeRest Try.f71
    dsimp only [Option.getD]
    go_wp2
    go_region_held3 (fun Y => Y.cell? ⟨B, o, none⟩ = some (.int .i64 s.term) ∧ Y.cell? ⟨B, o + 1, none⟩ = some (.int .i64 s.vote))
      (first | assumption | exact HKc.out _ (Below.refl _ _).drew | exact HKc.out _ (below_alloc _ _).drew)
      ((refine step_append_row rfl (.tmp 20) (.tmp 31) 54 54 37 rfl Try.underlying54 _ 6 56 infoRec rfl v5 pre.length (recCells pre) (by simp [Act.eval]) HF2.out.row _ 1 _ (by simp [Act.eval]) HSrc.out hL1.out hL2.out ?_; intro v' w1 ho hg hl; have HF3 : Hid _ := HF2.out.app ⟨(g : Int), 1, 0, s.term, s.vote, ⟨#[]⟩⟩ ho hg hl; have hkp := HKg.out w1 hg; clear ho hg hl))
    go_wp2
    exact HN.out _ _ HF3.out _ _ _ _ _ _ _ _ _ _ _ _ _ _ _ _ _ _ _ _ _ _ _ _ _ _ _ _ _ _ _ _ _ _ _ _ _ _ _ _ _ _ _ _ _ _ _ _ _ _ _ _ _ _ _ _ _ _ _ _ _ _ _ _ _ _ _ _ _ _ _ _ _ _ _ _ _ _ _ _ _ _ _ _ _ _ _ _ _ _ _ _ _
  · have HB : Hid (W.fewH g s = []) := by
      show _ = _
      unfold W.fewH
      rw [if_neg hb]
    have HN : Hid (∀ (u2 u3 u6 u7 u8 u9 u10 u11 u12 u13 u14 u15 u16 u17 u18 u19 u20 u21 u22 u23 u24 u25 u26 u27 u28 u29 u30 u31 u32 u33 u34 u35 u36 u37 u38 u39 u40 u41 u42 u43 u44 u45 u46 u47 u48 u49 u50 u51 u52 u53 u54 u55 u56 u57 u58 u59 u60 u61 u62 u63 u64 u65 u66 u67 u68 u69 u70 u71 u72 u73 u74 u75 u76 u77 u78 u79 u80 u81 u82 u83 u84 u85 u86 u87 u88 u89 u90 u91 u92 u93 u94 u95 u96 : Value), Code.wp Try.prog (codeRest (codeRest (codeRest (Try.f71.body.getD .skip)))) (bodyPost Try.prog Try.f71 Post) ⟨#[.int .i64 (g : Int), .pointer (some ⟨B, o, none⟩), u2, u3, .slice none 0 0, v5, u6, u7, u8, u9, u10, u11, u12, u13, u14, u15, u16, u17, u18, u19, u20, u21, u22, u23, u24, u25, u26, u27, u28, u29, u30, u31, u32, u33, u34, u35, u36, u37, u38, u39, u40, u41, u42, u43, u44, u45, u46, u47, u48, u49, u50, u51, u52, u53, u54, u55, u56, u57, u58, u59, u60, u61, u62, u63, u64, u65, u66, u67, u68, u69, u70, u71, u72, u73, u74, u75, u76, u77, u78, u79, u80, u81, u82, u83, u84, u85, u86, u87, u88, u89, u90, u91, u92, u93, u94, u95, u96], []⟩ X) := by
      refine HL.out X v5 _ HF0.out (by have := HPr.out; omega) ?_
      intro v2 Y2 h2
      refine HP.out v2 Y2 ?_
      rw [HB.out, List.append_nil]
      exact h2
    generalize codeRest (codeRest (codeRest (Try.f71.body.getD .skip))) = R at HN ⊢
    generalize bodyPost Try.prog Try.f71 Post = Q at HN ⊢
    clear HP HL HS HB HPr HLt HF0
    have h1 : s.term = 0 := Decidable.byContradiction fun e => hb (.inl e)
    have h2 : s.vote = -1 := Decidable.byContradiction fun e => hb (.inr e)
    rw [h1] at c0
    rw [h2] at c1
    clear h1 h2 hb
    unfold codeHead codeRest Try.f71
    dsimp only [Option.getD]
    go_wp2
    exact HN.out _ _ _ _ _ _ _ _ _ _ _ _ _ _ _ _ _ _ _ _ _ _ _ _ _ _ _ _ _ _ _ _ _ _ _ _ _ _ _ _ _ _ _ _ _ _ _ _ _ _ _ _ _ _ _ _ _ _ _ _ _ _ _ _ _ _ _ _ _ _ _ _ _ _ _ _ _ _ _ _ _ _ _ _ _ _ _ _ _ _ _ _ _

set_option maxRecDepth 20000 in
/-- The fewest records that make a group what it is. -/
theorem fewest_c {w : World} {B o g : Nat} {s : W.Sv} {v : Value} (h : SvC w B o s v) (he : EntV w v s.ents) (hok : W.Ok s) :
    Calls Try.prog 71 #[.int .i64 (g : Int), .pointer (some ⟨B, o, none⟩)] w fun e w' => ∃ v', e = .returned v' ∧ Fe w w' v' (W.few g s) := by
  have HL : Hid _ := few_hard (g := g) (X := w) rfl h he hok (Fe.nil w) (Nat.zero_le _) (fun e w' => ∃ v', e = .returned v' ∧ Fe w w' v' (W.few g s)) (fun v' Y hY => ⟨v', rfl, by unfold W.few; simpa using hY⟩)
  clear h he hok
  go_enter Try.func71, Try.ntmps71
  change Code.wp Try.prog (.seq (codeHead (Try.f71.body.getD .skip)) (.seq (codeHead (codeRest (Try.f71.body.getD .skip))) (codeRest (codeRest (Try.f71.body.getD .skip))))) _ _ _
  generalize codeRest (codeRest (Try.f71.body.getD .skip)) = R at HL ⊢
  unfold codeHead codeRest Try.f71
  dsimp only [Option.getD]
  go_wp2
  exact HL.out _ _ _ _ _ _ _ _ _ _ _ _ _ _ _ _ _ _ _ _ _ _ _ _ _ _ _ _ _ _ _ _ _ _ _ _ _ _ _ _ _ _ _ _ _ _ _ _ _ _ _ _ _ _ _ _ _ _ _ _ _ _ _ _ _ _ _ _ _ _ _ _ _ _ _ _ _ _ _ _ _ _ _ _ _ _ _ _ _ _ _ _ _

end Go.Proofs.Ytpfnkjfbhcffiaa

namespace Go.Proofs.Ytpfnkjfbhcffiaa
open Go.Shelf Go.RowKit

/-- The shelf's numbers, here. -/
def bren : Ren := ⟨fun x => if x = 166 then 72 else if x = 240 then 84 else if x = 276 then 90 else if x = 169 then 73 else 0, fun x => if x = 0 then 0 else if x = 3 then 3 else if x = 4 then 4 else if x = 9 then 9 else if x = 20 then 20 else if x = 37 then 60 else if x = 70 then 103 else if x = 72 then 105 else if x = 75 then 108 else if x = 164 then 129 else if x = 5 then 5 else if x = 127 then 122 else if x = 80 then 83 else 0, fun x => x⟩

theorem lays166 : Lays.n166 Try.prog bren where
  mixed := by kernel_rfl
  f166 := (Try.func72).trans (by kernel_rfl)
  f240 := (Try.func84).trans (by kernel_rfl)
  f276 := (Try.func90).trans (by kernel_rfl)
  t0 := Try.underlying0
  a0 := Try.isAgg0
  z0 := Try.sizeOf0
  v0 := Try.zeroValue0
  t3 := Try.underlying3
  a3 := Try.isAgg3
  z3 := Try.sizeOf3
  v3 := Try.zeroValue3
  t4 := Try.underlying4
  a4 := Try.isAgg4
  z4 := Try.sizeOf4
  v4 := Try.zeroValue4
  t9 := Try.underlying9
  a9 := Try.isAgg9
  z9 := Try.sizeOf9
  v9 := Try.zeroValue9
  t20 := Try.underlying20
  a20 := Try.isAgg20
  z20 := Try.sizeOf20
  v20 := Try.zeroValue20
  t37 := Try.underlying60
  a37 := Try.isAgg60
  z37 := Try.sizeOf60
  v37 := Try.zeroValue60
  t70 := Try.underlying103
  a70 := Try.isAgg103
  z70 := Try.sizeOf103
  v70 := Try.zeroValue103
  t72 := Try.underlying105
  a72 := Try.isAgg105
  z72 := Try.sizeOf105
  v72 := Try.zeroValue105
  t75 := Try.underlying108
  a75 := Try.isAgg108
  z75 := Try.sizeOf108
  v75 := Try.zeroValue108
  t164 := Try.underlying129
  a164 := Try.isAgg129
  z164 := Try.sizeOf129
  v164 := Try.zeroValue129

theorem lays169 : Lays.n169 Try.prog bren where
  mixed := by kernel_rfl
  f169 := (Try.func73).trans (by kernel_rfl)
  t0 := Try.underlying0
  a0 := Try.isAgg0
  z0 := Try.sizeOf0
  v0 := Try.zeroValue0
  t3 := Try.underlying3
  a3 := Try.isAgg3
  z3 := Try.sizeOf3
  v3 := Try.zeroValue3
  t9 := Try.underlying9
  a9 := Try.isAgg9
  z9 := Try.sizeOf9
  v9 := Try.zeroValue9
  t37 := Try.underlying60
  a37 := Try.isAgg60
  z37 := Try.sizeOf60
  v37 := Try.zeroValue60
  t70 := Try.underlying103
  a70 := Try.isAgg103
  z70 := Try.sizeOf103
  v70 := Try.zeroValue103
  t72 := Try.underlying105
  a72 := Try.isAgg105
  z72 := Try.sizeOf105
  v72 := Try.zeroValue105
  t127 := Try.underlying122
  a127 := Try.isAgg122
  z127 := Try.sizeOf122
  v127 := Try.zeroValue122

theorem bextra : Builder.Extra Try.prog bren where
  sizeBuilder := by kernel_rfl
  liesBuilder := by kernel_rfl
  t5 := Try.underlying5
  a5 := Try.isAgg5
  z5 := Try.sizeOf5
  v5 := Try.zeroValue5
  infoByte := by kernel_rfl
  cellsByte := by kernel_rfl
  sizeByte := by kernel_rfl
  neB5 := by decide

/-- The builder in block b holds the bytes l. -/
def Bld (w : World) (B b : Nat) (l : List UInt8) : Prop := Lib.IsBuilderF 105 5 B b (Lib.byteCells l) w

theorem bld_write {w : World} {B b : Nat} {l : List UInt8} (h : Bld w B b l) (s : ByteArray) (hl : l.length + s.size ≤ 140737488355328) (hB : B ≤ w.heap.size) :
    Calls Try.prog 72 #[.pointer (some ⟨b, 0, none⟩), .string s] w fun e w' => e = .returned (.tuple #[.int .i64 s.size, .nilIface]) ∧ Bld w' B b (l ++ s.data.toList) ∧ Below B w w' ∧ Lib.OthersKept 5 (some b) w w' := by
  refine (Any.Builder_WriteString_k lays166 bextra B b (Lib.byteCells l) s w h (by simpa [Lib.byteCells] using hl) hB).mono ?_
  rintro e w' ⟨rfl, h1, h2, h3⟩
  refine ⟨rfl, .inr ?_, h2, h3⟩
  have e : Lib.byteCells (l ++ s.data.toList) = Lib.byteCells l ++ Lib.strCells s := by simp [Lib.byteCells, Lib.strCells]
  rw [e]
  exact h1

theorem bld_string {w : World} {B b : Nat} {l : List UInt8} (h : Bld w B b l) (hB : B ≤ w.heap.size) :
    Calls Try.prog 73 #[.pointer (some ⟨b, 0, none⟩)] w fun e w' => e = .returned (.string ⟨l.toArray⟩) ∧ Below B w w' := by
  refine (Any.Builder_String_any_k lays169 bextra B b l w h hB).mono ?_
  rintro e w' ⟨rfl, _, h2, _⟩
  exact ⟨rfl, h2⟩

theorem bld_new (w : World) : Bld (w.alloc (.cells #[.pointer none, .slice none 0 0] 105)) w.heap.size w.heap.size [] :=
  .inl ⟨Nat.le_refl _, .slice none 0 0, heap_alloc_new _ _, World.ownsRowF_nil _ _ _ _, by simp [Value.ownBlock]⟩

theorem Bld.lt {w : World} {B b : Nat} {l : List UInt8} (h : Bld w B b l) : b < w.heap.size := by
  rcases h with h | h
  · exact h.lt
  · exact h.lt

theorem Bld.below {w w' : World} {B b : Nat} {l : List UInt8} (h : Bld w B b l) (hb : Below w.heap.size w w') : Bld w' B b l := by
  have hg : w.grownBy w' none := ⟨hb.os, hb.tape, hb.output, hb.size, fun k hk _ => hb.block k hk⟩
  have key : ∀ p, Lib.BuilderAtF 105 5 B b p (Lib.byteCells l) w → Lib.BuilderAtF 105 5 B b p (Lib.byteCells l) w' := by
    intro p hp
    have hlt := hp.lt
    obtain ⟨h1, v, h2, h3, h4⟩ := hp
    refine ⟨h1, v, by rw [hb.block b hlt]; exact h2, h3.kept hg ?_, h4⟩
    cases v.ownBlock with
    | none => exact .inl rfl
    | some k => exact .inr (by simp)
  rcases h with h | h
  · exact .inl (key _ h)
  · exact .inr (key _ h)

end Go.Proofs.Ytpfnkjfbhcffiaa

namespace Go.Proofs.Ytpfnkjfbhcffiaa
open Go.RowKit

namespace W
theorem chks_may : ∀ (l : List Rec) (gs : Nat → Sv), Chks gs l → ∀ r ∈ l, may r = true
  | [], _, _, _, hr => by cases hr
  | x :: l, gs, h, r, hr => by
    rcases List.mem_cons.1 hr with e | e
    · rw [e]
      exact chk_may h.1
    · exact chks_may l _ h.2 r e

theorem few_may {s : Sv} (ok : Ok s) {g : Nat} (hg : g < 9) : ∀ r ∈ few g s, may r = true :=
  chks_may _ _ (goes_few (gs := fun _ => new) hg rfl ok).1

theorem fewTo_prefix (gs : Nat → Sv) : ∀ k n, k ≤ n → ∃ rest, fewTo gs n = fewTo gs k ++ rest
  | k, 0, h => ⟨[], by rw [show k = 0 by omega, List.append_nil]⟩
  | k, n + 1, h => by
    by_cases e : k = n + 1
    · exact ⟨[], by rw [e, List.append_nil]⟩
    · obtain ⟨r, hr⟩ := fewTo_prefix gs k n (by omega)
      exact ⟨r ++ few n (gs n), by rw [fewTo, hr, List.append_assoc]⟩

theorem recs_le (a b : List Rec) : (recs a).size ≤ (recs (a ++ b)).size := by rw [recs_append, size_app]; omega

theorem few_le (gs : Nat → Sv) {k : Nat} (hk : k < 9) (j : Nat) : (recs (fewTo gs k ++ (few k (gs k)).take j)).size ≤ (recs (fewTo gs 9)).size := by
  obtain ⟨r, hr⟩ := fewTo_prefix gs (k + 1) 9 (by omega)
  rw [hr, fewTo]
  generalize few k (gs k) = f
  have e : fewTo gs k ++ f ++ r = (fewTo gs k ++ f.take j) ++ (f.drop j ++ r) := by
    rw [List.append_assoc (fewTo gs k) (f.take j), ← List.append_assoc (f.take j), List.take_append_drop, List.append_assoc]
  rw [e]
  exact recs_le _ _
end W

/-- While needed goes on: the builder in block b holds the bytes of the records l. -/
structure Nd (w X : World) (b : Nat) (l : List W.Rec) : Prop where
  old : Below w.heap.size w X
  bld : Bld X w.heap.size b (W.recs l).data.toList

/-- .. and in its inner loop: j of the records fl are written. -/
structure Ni (w X : World) (b : Nat) (v : Value) (l fl : List W.Rec) (j : Nat) : Prop where
  nd : Nd w X b (l ++ fl.take j)
  row : RowV X 37 6 v fl.length (recCells fl)
  nb : ∀ k, rowBlk v = some k → k ≠ b

theorem Nd.below {w X Y : World} {b : Nat} {l : List W.Rec} (h : Nd w X b l) (hb : Below X.heap.size X Y) : Nd w Y b l :=
  ⟨h.old.trans (hb.mono h.old.size), h.bld.below hb⟩
theorem Ni.below {w X Y : World} {b : Nat} {v : Value} {l fl : List W.Rec} {j : Nat} (h : Ni w X b v l fl j) (hb : Below X.heap.size X Y) : Ni w Y b v l fl j :=
  ⟨h.nd.below hb, h.row.carry (fun k hk => hb.block k (h.row.lt hk)), h.nb⟩

theorem RowV.others {w w' : World} {e t : TypeId} {size n : Nat} {v : Value} {xs : List Value} {b : Nat} (h : RowV w e size v n xs) (ho : Lib.OthersKept t (some b) w w') (he : e ≠ t) (hb : ∀ k, rowBlk v = some k → k ≠ b) : RowV w' e size v n xs := by
  obtain ⟨h1, h2 | ⟨g, cap, cur, hv, hg, r⟩⟩ := h
  · exact ⟨h1, .inl h2⟩
  · refine ⟨h1, .inr ⟨g, cap, cur, hv, ho g _ hg (fun q => ?_) (fun c fz q => ?_), r⟩⟩
    · injection q with q
      exact hb g (by rw [hv]; rfl) q
    · injection q with _ q
      exact he q

theorem Nd.fewest {w X : World} {p : Pl} {s : St} {own : Nat → Prop} {b : Nat} {l : List W.Rec} (hL : Lg w p s own) (h : Nd w X b l) {k : Nat} (hk : k < 9) :
    Calls Try.prog 71 #[.int .i64 (k : Int), .pointer (some ⟨p.L, 3 + k * 6, none⟩)] X fun e w' => ∃ v, e = .returned v ∧ Ni w w' b v l (W.few k (s.gs k)) 0 := by
  have hX : Lg X p s own := hL.carry h.old.size (fun q hq => h.old.block q (hL.here q hq))
  obtain ⟨dk, E, hv⟩ := hX
  refine (fewest_c (hv.sv k hk) (hv.ent k hk) (hv.ok k)).mono ?_
  rintro e w' ⟨v, rfl, hf⟩
  refine ⟨v, rfl, ?_, hf.row, fun q hq e => ?_⟩
  · rw [List.take_zero, List.append_nil]
    exact h.below hf.old
  · have h1 := hf.mine q hq
    have h2 := h.bld.lt
    omega

theorem Ni.write {w X : World} {b : Nat} {v : Value} {l fl : List W.Rec} {j : Nat} (h : Ni w X b v l fl j) {r : W.Rec} (hr : fl[j]? = some r) (hsz : (W.recs (l ++ fl.take (j + 1))).size ≤ 1000000000) :
    Calls Try.prog 72 #[.pointer (some ⟨b, 0, none⟩), .string (W.recB r)] X fun e w' => e = .returned (.tuple #[.int .i64 ((W.recB r).size : Int), .nilIface]) ∧ Ni w w' b v l fl (j + 1) := by
  have e1 : fl.take (j + 1) = fl.take j ++ [r] := by rw [List.take_add_one, hr]; rfl
  have e2 : W.recs (l ++ fl.take (j + 1)) = W.recs (l ++ fl.take j) ++ W.recB r := by
    rw [e1, ← List.append_assoc, W.recs_append]
    congr 1
    show W.recB r ++ W.recs [] = _
    apply F.ext
    simp [W.recs]
  have e3 : (W.recs (l ++ fl.take (j + 1))).data.toList = (W.recs (l ++ fl.take j)).data.toList ++ (W.recB r).data.toList := by rw [e2]; simp
  rw [e2, size_app] at hsz
  refine (bld_write h.nd.bld (W.recB r) ?_ h.nd.old.size).mono ?_
  · have : (W.recs (l ++ fl.take j)).data.toList.length = (W.recs (l ++ fl.take j)).size := by simp
    omega
  · rintro e w' ⟨rfl, h1, h2, h3⟩
    refine ⟨rfl, ⟨h.nd.old.trans h2, ?_⟩, h.row.others h3 (by decide) h.nb, h.nb⟩
    rw [e3]
    exact h1

theorem recCells_at : ∀ (l : List W.Rec) (i : Nat) (r : W.Rec), l[i]? = some r → ∀ q, q < 6 → (recCells l)[i * 6 + q]? = (recO r).toList[q]?
  | [], _, _, h, _, _ => by simp at h
  | x :: l, 0, r, h, q, hq => by
    have h' : x = r := by simpa using h
    subst h'
    have e : recCells (x :: l) = (recO x).toList ++ recCells l := by simp [recCells]
    rw [e, List.getElem?_append_left (by simp [recO]; omega), Nat.zero_mul, Nat.zero_add]
  | x :: l, i + 1, r, h, q, hq => by
    have e : recCells (x :: l) = (recO x).toList ++ recCells l := by simp [recCells]
    have hl : (recO x).toList.length = 6 := by simp [recO]
    rw [e, List.getElem?_append_right (by rw [hl]; omega), hl, show (i + 1) * 6 + q - 6 = i * 6 + q by omega]
    exact recCells_at l i r (by simpa using h) q hq

set_option maxHeartbeats 3200000 in
set_option maxRecDepth 20000 in
theorem needed_c {w : World} {p : Pl} {s : St} {own : Nat → Prop} (h : Lg w p s own) (hsz : (W.recs (W.fewTo s.gs 9)).size ≤ 1000000000) :
    Calls Try.prog 39 #[.pointer (some ⟨p.L, 0, none⟩)] w fun e w' => e = .returned (.string (W.recs (W.fewTo s.gs 9))) ∧ Below w.heap.size w w' := by
  have HF : Hid (∀ (X : World) (l : List W.Rec) (k : Nat), Nd w X w.heap.size l → k < 9 → Calls Try.prog 71 #[.int .i64 (k : Int), .pointer (some ⟨p.L, 3 + k * 6, none⟩)] X fun e w' => ∃ v, e = .returned v ∧ Ni w w' w.heap.size v l (W.few k (s.gs k)) 0) := fun X l k hX hk => hX.fewest h hk
  have HM : Hid (∀ k : Nat, k < 9 → ∀ r ∈ W.few k (s.gs k), W.may r = true) := fun k hk => W.few_may (h.ok k) hk
  have HZ : Hid (∀ k : Nat, k < 9 → ∀ j : Nat, (W.recs (W.fewTo s.gs k ++ (W.few k (s.gs k)).take j)).size ≤ 1000000000) := fun k hk j => Nat.le_trans (W.few_le s.gs hk j) hsz
  have HN0 : Hid (Nd w (w.alloc (.cells #[.pointer none, .slice none 0 0] 105)) w.heap.size (W.fewTo s.gs 0)) := ⟨below_alloc _ _, bld_new w⟩
  obtain ⟨L, hL⟩ : ∃ L, L = p.L := ⟨_, rfl⟩
  rw [← hL] at HF ⊢
  clear h hsz hL
  go_enter Try.func39, Try.ntmps39
  go_wp2
  obtain ⟨b, hb⟩ : ∃ b, b = w.heap.size := ⟨_, rfl⟩
  obtain ⟨w0, hw0⟩ : ∃ w0, w0 = w.alloc (.cells #[.pointer none, .slice none 0 0] 105) := ⟨_, rfl⟩
  rw [← hb, ← hw0] at HN0 ⊢
  rw [← hb] at HF
  have HB : Hid (b = w.heap.size) := hb
  clear hb hw0
  go_loopw [7] (fun x wr => ∃ k : Nat, x = .int .i64 (k : Int) ∧ k ≤ 9 ∧ Hid (Nd w wr b (W.fewTo s.gs k))) (fun x _ => 9 - (intOf x).toNat)
  case atStart => exact ⟨0, rfl, Nat.zero_le _, HN0⟩
  case round =>
    clear HN0
    obtain ⟨k, rfl, hk, HN⟩ := hrel
    by_cases hlt : k < 9
    · have HF1 : Hid _ := HF.out wr _ k HN.out hlt
      go_wp2_with fail
      refine Calls.mono HF1.out ?_
      rintro e w1 ⟨v, rfl, hNi⟩
      obtain ⟨q, c, hv, hqc, hcm⟩ := hNi.row.form
      subst hv
      have HI : Hid _ := hNi
      obtain ⟨n, hn⟩ : ∃ n, n = (W.few k (s.gs k)).length := ⟨_, rfl⟩
      rw [← hn] at HI hqc ⊢
      have HNn : Hid (n = (W.few k (s.gs k)).length) := hn
      clear hNi hn HF1 HN
      go_wp2
      obtain ⟨fl, hfl⟩ : ∃ fl, fl = W.few k (s.gs k) := ⟨_, rfl⟩
      have HM1 : Hid (∀ r ∈ fl, W.may r = true) := by rw [hfl]; exact HM.out k hlt
      have HZ1 : Hid (∀ j : Nat, (W.recs (W.fewTo s.gs k ++ fl.take j)).size ≤ 1000000000) := by rw [hfl]; exact HZ.out k hlt
      have HE1 : Hid (∀ X, Nd w X b (W.fewTo s.gs k ++ fl.take n) → Nd w X b (W.fewTo s.gs (k + 1))) := by
        intro X hX
        rw [HNn.out, ← hfl, List.take_length, hfl] at hX
        exact hX
      rw [← hfl] at HI HNn
      obtain ⟨l0, hl0⟩ : ∃ l0, l0 = W.fewTo s.gs k := ⟨_, rfl⟩
      rw [← hl0] at HI HZ1 HE1
      clear hfl hl0 HF HM HZ
      go_loopw [18] (fun x wr => ∃ j : Nat, x = .int .i64 (j : Int) ∧ j ≤ n ∧ Hid (Ni w wr b (.slice q n c) l0 fl j)) (fun x _ => n - (intOf x).toNat)
      case atStart => exact ⟨0, rfl, Nat.zero_le _, HI⟩
      case round =>
        clear HI
        obtain ⟨j, rfl, hj, HI⟩ := hrel
        by_cases hjn : j < n
        · obtain ⟨r, hr⟩ : ∃ r, fl[j]? = some r := ⟨_, List.getElem?_eq_getElem (by have := HNn.out; omega)⟩
          obtain ⟨gq, c', hpc, _, _, _, hcell⟩ := HI.out.row.cells (by have := HNn.out; omega)
          injection hpc with e1 e2 e3
          subst e1
          rw [← HNn.out] at hcell
          clear e2 e3
          have hc : ∀ t, t < 6 → wr.cell? ⟨gq, j * 6 + t, none⟩ = (recO r).toList[t]? := fun t ht => (hcell (j * 6 + t) (by omega)).trans (recCells_at fl j r hr t ht)
          have d0 : wr.cell? ⟨gq, j * 6, none⟩ = some (.int .i64 r.group) := hc 0 (by omega)
          have d1 : wr.cell? ⟨gq, j * 6 + 1, none⟩ = some (.int .i64 r.kind) := hc 1 (by omega)
          have d2 : wr.cell? ⟨gq, j * 6 + 2, none⟩ = some (.int .i64 r.index) := hc 2 (by omega)
          have d3 : wr.cell? ⟨gq, j * 6 + 3, none⟩ = some (.int .i64 r.term) := hc 3 (by omega)
          have d4 : wr.cell? ⟨gq, j * 6 + 4, none⟩ = some (.int .i64 r.vote) := hc 4 (by omega)
          have d5 : wr.cell? ⟨gq, j * 6 + 5, none⟩ = some (.string r.data) := hc 5 (by omega)
          have HPut : Hid (∀ u : World, Calls Try.prog 31 #[.agg #[.int .i64 r.group, .int .i64 r.kind, .int .i64 r.index, .int .i64 r.term, .int .i64 r.vote, .string r.data]] u fun e w' => e = .returned (.string (W.recB r)) ∧ Below u.heap.size u w') := fun u => putRecord_c r u (HM1.out r (List.mem_of_getElem? hr))
          have HW : Hid (∀ X, Ni w X b (.slice (some ⟨gq, 0, none⟩) n c) l0 fl j → Calls Try.prog 72 #[.pointer (some ⟨b, 0, none⟩), .string (W.recB r)] X fun e w' => e = .returned (.tuple #[.int .i64 ((W.recB r).size : Int), .nilIface]) ∧ Ni w w' b (.slice (some ⟨gq, 0, none⟩) n c) l0 fl (j + 1)) := fun X hX => hX.write hr (HZ1.out (j + 1))
          have hjn2 : (j : Int) < (n : Int) := by omega
          have hjw : (j : Int) + 1 ≤ 9223372036854775807 := by unfold maxLen at hcm; omega
          obtain ⟨R, hR⟩ : ∃ R, R = W.recB r := ⟨_, rfl⟩
          rw [← hR] at HPut HW
          have HU : Hid (Ni w (wr.alloc (.cells #[.int .i64 r.group, .int .i64 r.kind, .int .i64 r.index, .int .i64 r.term, .int .i64 r.vote, .string r.data] 37)) b (.slice (some ⟨gq, 0, none⟩) n c) l0 fl j) := HI.out.below (below_alloc _ _)
          clear hcell hc hr hR HM1 HZ1
          go_wp2_with fail
          refine Calls.mono (HPut.out _) ?_
          rintro e w2 ⟨rfl, hb2⟩
          have HI2 : Hid _ := HU.out.below hb2
          clear hb2 HU d0 d1 d2 d3 d4 d5
          go_wp2_with fail
          refine Calls.mono (HW.out _ HI2.out) ?_
          rintro e w3 ⟨rfl, h3⟩
          have HI3 : Hid _ := h3
          clear h3 HI2
          go_wp2
          go_roundw
          case rel => exact ⟨j + 1, by go_num, by omega, HI3⟩
          case measure => simp [intOf]; omega
        · obtain rfl : j = n := by omega
          have HX : Hid _ := HE1.out _ HI.out.nd
          clear HI HE1
          go_wp2
          go_roundw
          case rel => exact ⟨k + 1, by go_num, by omega, HX⟩
          case measure => simp [intOf]; omega
    · obtain rfl : k = 9 := by omega
      have HS : Hid _ := bld_string HN.out.bld HN.out.old.size
      have HO : Hid _ := HN.out.old
      clear HN HF HM HZ
      go_wp2_with fail
      refine Calls.mono HS.out ?_
      rintro e w2 ⟨rfl, hb2⟩
      have HB2 : Hid _ := HO.out.trans hb2
      clear hb2
      go_wp2
      go_ret
      exact ⟨rfl, HB2.out⟩

end Go.Proofs.Ytpfnkjfbhcffiaa
