/-
  walkList, where a list is read.
-/
import Derived.Test.YtnfjfhjhofaodaaCmRLoop
import Derived.Laws.MakeOwn
namespace Go.Proofs.Ytnfjfhjhofaodaa
open Go.RowKit

theorem rd_own2 {w : World} {R : Nat} {s : ByteArray} (h : Rd w R s) (x : Int) {b o : Nat} {y : Value} (hp : w.cell? ⟨b, o, none⟩ = some y) (hz : w.frozen? ⟨b, o, none⟩ = false) (hR : b ≠ R) (m : Nat) :
    Calls Try.prog 94 #[.pointer (some ⟨R, 0, none⟩), .pointer (some ⟨w.heap.size, 0, none⟩), .int .i64 (m : Int)] (w.alloc (.cells #[.int .i64 x] 3))
      fun e w1 => match Cm.dec [.n m] s.data.toList with
        | none => (∃ t v, e = .panicked [{ v := .iface t v, recovered := false }]) ∧ KeptC (fun c p => c = R ∨ (c = b ∧ p = o)) w w1
        | some (vs, r) => e = .returned (.tuple #[]) ∧ ∃ v : Int, vs = [(.n m, .n v)] ∧ w1.cell? ⟨w.heap.size, 0, none⟩ = some (.int .i64 v) ∧ w1.cell? ⟨b, o, none⟩ = some y ∧ w1.frozen? ⟨b, o, none⟩ = false ∧
            KeptC (fun c p => c = R ∨ (c = b ∧ p = o)) w w1 ∧ ∃ t, Rd w1 R t ∧ t.data.toList = r := by
  have hbl : b < w.heap.size := World.block_lt_of_cell? _ _ hp
  have hRl := h.lt
  have hb := alloc_below w (.cells #[.int .i64 x] 3)
  have hr1 : Rd (w.alloc (.cells #[.int .i64 x] 3)) R s := ⟨by rw [hb.block R hRl]; exact h.1, h.2⟩
  have cN : (w.alloc (.cells #[.int .i64 x] 3)).cell? ⟨w.heap.size, 0, none⟩ = some (.int .i64 x) := by simp [go_sem]
  have zN : (w.alloc (.cells #[.int .i64 x] 3)).frozen? ⟨w.heap.size, 0, none⟩ = false := by simp [go_sem]
  have hsz : (w.alloc (.cells #[.int .i64 x] 3)).heap.size = w.heap.size + 1 := by simp
  refine (rd_number hr1 w.heap.size 0 cN zN (by omega) m).mono ?_
  rintro e w1 ⟨hk, hx⟩
  have hk0 : KeptC (fun c p => c = R ∨ (c = b ∧ p = o)) w w1 := (KeptC.of_below hb).trans hk (fun c p hc hx => by
    rcases hx with x | ⟨x, -⟩
    · exact .inl x
    · omega)
  cases hq : Cm.dec [.n m] s.data.toList with
  | none =>
    rw [hq] at hx
    exact ⟨hx, hk0⟩
  | some q =>
    obtain ⟨vs, r⟩ := q
    rw [hq] at hx
    obtain ⟨he, ⟨t, ht, hr⟩, v, hv, c1⟩ := hx
    refine ⟨he, v, hv, c1, ?_, ?_, hk0, t, ht, hr⟩
    · rw [hk.cell b o (by omega) (by rintro (x | ⟨x, -⟩); exact hR x; omega), hb.cell (p := ⟨b, o, none⟩) hbl]
      exact hp
    · rw [hk.frozen b o (by omega), hb.frozen (p := ⟨b, o, none⟩) hbl]
      exact hz

theorem Cm.dec_num {m : Nat} {l r : List UInt8} {vs : List (Cm.K × Cm.V)} (h : Cm.dec [.n m] l = some (vs, r)) : ∃ c : Nat, c ≤ m ∧ vs = [(.n m, .n (c : Int))] := by
  simp only [Cm.dec, Cm.dec1] at h
  split at h
  · cases h
  · rename_i v' l' hh
    split at hh
    · rename_i hc
      simp only [Option.some.injEq, Prod.mk.injEq] at hh h
      obtain ⟨rfl, rfl⟩ := hh
      obtain ⟨rfl, rfl⟩ := h
      exact ⟨_, hc.2, rfl⟩
    · cases hh

/-- So many of a row of fields. -/
def dlist (m : Nat) (ks : List Cm.K) (l : List UInt8) : Option (List (Cm.K × Cm.V) × List UInt8) :=
  match Cm.dec [.n m] l with
  | some ([(k, .n c)], r) => match Cm.dec (List.replicate c.toNat ks).flatten r with
    | none => none
    | some (b, r') => some ((k, .n c) :: b, r')
  | _ => none

theorem dseq_dec : ∀ (qs : List Rf) (kss : List (List Cm.K)), qs.length = kss.length → (∀ (i : Nat) (q : Rf) (ks : List Cm.K), qs[i]? = some q → kss[i]? = some ks → q.D = Cm.dec ks) → dseq qs = Cm.dec kss.flatten
  | [], [], _, _ => by funext l; rfl
  | [], _ :: _, h, _ => by simp at h
  | _ :: _, [], h, _ => by simp at h
  | q :: qs, ks :: kss, h, hd => by
    funext l
    rw [List.flatten_cons, Cm.dec_append, dseq, hd 0 q ks rfl rfl, dseq_dec qs kss (by simpa using h) (fun i q ks h1 h2 => hd (i + 1) q ks (by simpa using h1) (by simpa using h2))]
    cases Cm.dec ks l with
    | none => rfl
    | some p =>
      obtain ⟨a, r⟩ := p
      simp only
      cases Cm.dec kss.flatten r with
      | none => rfl
      | some z => rfl

/-- Fields of one block whose cells lie apart. -/
theorem apart_of {b o : Nat} {qs : List Rf} (rs : List (Nat × Nat)) (_hl : qs.length = rs.length) (h : ∀ (i : Nat) (q : Rf) (x : Nat × Nat), qs[i]? = some q → rs[i]? = some x → ∀ c p, q.S c p → c = b ∧ o + x.1 ≤ p ∧ p < o + x.2)
    (hp : rs.Pairwise (fun x y => x.2 ≤ y.1 ∨ y.2 ≤ x.1)) : ∀ (i j : Nat) (q r : Rf), i ≠ j → qs[i]? = some q → qs[j]? = some r → ∀ c p, q.S c p → ¬ r.S c p := by
  intro i j q r hij h1 h2 c p hx hy
  have li : i < qs.length := (List.getElem?_eq_some_iff.1 h1).1
  have lj : j < qs.length := (List.getElem?_eq_some_iff.1 h2).1
  have e1 : rs[i]? = some (rs[i]'(by omega)) := List.getElem?_eq_getElem _
  have e2 : rs[j]? = some (rs[j]'(by omega)) := List.getElem?_eq_getElem _
  have a1 := h i q _ h1 e1 c p hx
  have a2 := h j r _ h2 e2 c p hy
  rcases Nat.lt_or_gt_of_ne hij with hlt | hlt
  · have := List.pairwise_iff_getElem.1 hp i j (by omega) (by omega) hlt
    omega
  · have := List.pairwise_iff_getElem.1 hp j i (by omega) (by omega) hlt
    omega

def qEnt (b o : Nat) : Rf := seqR [qNum b o, qStr b (o + 1)]
def qPost (b o : Nat) : Rf := seqR [qStr b o, qStr b (o + 1)]
def ksEnt : List Cm.K := [.n Cm.mI, .t]
def ksPost : List Cm.K := [.t, .t]

theorem qEnt_ok (b o : Nat) : (qEnt b o).Ok := seqR_ok (fun q hq => by
  simp only [List.mem_cons, List.not_mem_nil, or_false] at hq
  rcases hq with rfl | rfl
  · exact qNum_ok _ _
  · exact qStr_ok _ _)
theorem qPost_ok (b o : Nat) : (qPost b o).Ok := seqR_ok (fun q hq => by
  simp only [List.mem_cons, List.not_mem_nil, or_false] at hq
  rcases hq with rfl | rfl
  · exact qStr_ok _ _
  · exact qStr_ok _ _)
theorem qEnt_D (b o : Nat) : (qEnt b o).D = Cm.dec ksEnt := by
  show dseq _ = _
  rw [dseq_dec [qNum b o, qStr b (o + 1)] [[.n Cm.mI], [.t]] rfl]
  · rfl
  · intro i q ks h1 h2
    match i, h1, h2 with
    | 0, h1, h2 => simp at h1 h2; subst h1 h2; rfl
    | 1, h1, h2 => simp at h1 h2; subst h1 h2; rfl
theorem qPost_D (b o : Nat) : (qPost b o).D = Cm.dec ksPost := by
  show dseq _ = _
  rw [dseq_dec [qStr b o, qStr b (o + 1)] [[.t], [.t]] rfl]
  · rfl
  · intro i q ks h1 h2
    match i, h1, h2 with
    | 0, h1, h2 => simp at h1 h2; subst h1 h2; rfl
    | 1, h1, h2 => simp at h1 h2; subst h1 h2; rfl
theorem qEnt_S {b o c p : Nat} (h : (qEnt b o).S c p) : c = b ∧ o ≤ p ∧ p ≤ o + 1 := by
  obtain ⟨q, hq, hs⟩ := h
  simp only [List.mem_cons, List.not_mem_nil, or_false] at hq
  rcases hq with rfl | rfl
  · obtain ⟨rfl, rfl⟩ := hs; omega
  · obtain ⟨rfl, rfl⟩ := hs; omega
theorem qPost_S {b o c p : Nat} (h : (qPost b o).S c p) : c = b ∧ o ≤ p ∧ p ≤ o + 1 := by
  obtain ⟨q, hq, hs⟩ := h
  simp only [List.mem_cons, List.not_mem_nil, or_false] at hq
  rcases hq with rfl | rfl
  · obtain ⟨rfl, rfl⟩ := hs; omega
  · obtain ⟨rfl, rfl⟩ := hs; omega
theorem walkEnt_r (b o : Nat) : RWalkC (fields b o .ent) (qEnt b o) := by
  refine walk_r rfl ?_ ?_ ?_ (by simp [fields])
  · intro k f q h1 h2
    match k, h1, h2 with
    | 0, h1, h2 => simp [fields] at h1 h2; subst h1 h2; rfl
    | 1, h1, h2 => simp [fields] at h1 h2; subst h1 h2; rfl
  · intro q hq
    simp only [List.mem_cons, List.not_mem_nil, or_false] at hq
    rcases hq with rfl | rfl
    · exact qNum_ok _ _
    · exact qStr_ok _ _
  · exact apart_of (b := b) (o := o) [(0, 1), (1, 2)] rfl (fun i q x h1 h2 => by
      match i, h1, h2 with
      | 0, h1, h2 => simp at h1 h2; subst h1 h2; rintro c p ⟨rfl, rfl⟩; exact ⟨rfl, by omega, by omega⟩
      | 1, h1, h2 => simp at h1 h2; subst h1 h2; rintro c p ⟨rfl, rfl⟩; exact ⟨rfl, by omega, by omega⟩) (by decide)
theorem walkPost_r (b o : Nat) : RWalkC (fields b o .post) (qPost b o) := by
  refine walk_r rfl ?_ ?_ ?_ (by simp [fields])
  · intro k f q h1 h2
    match k, h1, h2 with
    | 0, h1, h2 => simp [fields] at h1 h2; subst h1 h2; rfl
    | 1, h1, h2 => simp [fields] at h1 h2; subst h1 h2; rfl
  · intro q hq
    simp only [List.mem_cons, List.not_mem_nil, or_false] at hq
    rcases hq with rfl | rfl
    · exact qStr_ok _ _
    · exact qStr_ok _ _
  · exact apart_of (b := b) (o := o) [(0, 1), (1, 2)] rfl (fun i q x h1 h2 => by
      match i, h1, h2 with
      | 0, h1, h2 => simp at h1 h2; subst h1 h2; rintro c p ⟨rfl, rfl⟩; exact ⟨rfl, by omega, by omega⟩
      | 1, h1, h2 => simp at h1 h2; subst h1 h2; rintro c p ⟨rfl, rfl⟩; exact ⟨rfl, by omega, by omega⟩) (by decide)

/-- One field alone. -/
theorem walk_one {t : St} {b o : Nat} {q : Rf} (hok : q.Ok) (h : RWalkC (fields b o t) q) : RWalkC [.sub t b o] q := by
  have h1 : RWalkC [.sub t b o] (seqR [q]) := walk_r rfl (fun k f r e1 e2 => by
    match k, e1, e2 with
    | 0, e1, e2 => simp at e1 e2; subst e1 e2; exact h) (fun r hr => by simp at hr; subst hr; exact hok) (fun i j x y hij e1 e2 => by
    match i, j, e1, e2, hij with
    | 0, j + 1, _, e2, _ => simp at e2
    | i + 1, _, e1, _, _ => simp at e1) (by simp)
  intro w R s eb hr hE hne hz hR hEb hl
  have hS : ∀ c p, (seqR [q]).S c p ↔ q.S c p := fun c p => ⟨fun ⟨x, hx, hs⟩ => by simp at hx; subst hx; exact hs, fun hs => ⟨q, by simp, hs⟩⟩
  refine (h1 w R s eb hr hE hne (fun x hx => by simp at hx; subst hx; exact hz) (fun o x => hR o ((hS _ _).1 x)) (fun o x => hEb o ((hS _ _).1 x)) (fun c p x => hl c p ((hS _ _).1 x))).mono ?_
  rintro e w' ⟨hk, hx⟩
  refine ⟨hk.mono (fun c p _ x => by rcases x with x | x; exact .inl x; exact .inr ((hS _ _).1 x)), ?_⟩
  have hD : (seqR [q]).D s.data.toList = q.D s.data.toList := dseq_one q _
  rw [hD] at hx
  cases hq : q.D s.data.toList with
  | none => rw [hq] at hx; exact hx
  | some p =>
    obtain ⟨a, r⟩ := p
    rw [hq] at hx
    obtain ⟨he, ht, x, y, rfl, hH, hy⟩ := hx
    have : y = [] := hy
    subst this
    rw [List.append_nil]
    exact ⟨he, ht, hH⟩

/-- A list of so many that is read. -/
def qEnts (b o : Nat) : Rf where
  D := dlist 16 ksEnt
  S := fun c p => c = b ∧ p = o
  Z := fun w => w.cell? ⟨b, o, none⟩ = some (.slice none 0 0) ∧ w.frozen? ⟨b, o, none⟩ = false
  H := fun N w vs => ∃ (c : Nat) (vs' : List (Cm.K × Cm.V)), c ≤ 16 ∧ vs = (.n 16, .n (c : Int)) :: vs' ∧ ((c = 0 ∧ w.cell? ⟨b, o, none⟩ = some (.slice none 0 0) ∧ vs' = []) ∨ ∃ nb, c ≠ 0 ∧ w.cell? ⟨b, o, none⟩ = some (.slice (some ⟨nb, 0, none⟩) c c) ∧ N ≤ nb ∧ nb < w.heap.size ∧ seqH ((List.range c).map fun i => qEnt nb (i * 2)) N w vs')

theorem qEnts_ok (b o : Nat) : (qEnts b o).Ok := by
  refine ⟨?_, ?_, ?_⟩
  · rintro T w w' ⟨hc, hz⟩ hk hs
    have hl : b < w.heap.size := World.block_lt_of_cell? _ _ hc
    exact ⟨by rw [hk.cell b o hl (hs b o ⟨rfl, rfl⟩)]; exact hc, by rw [hk.frozen b o hl]; exact hz⟩
  · rintro T N w w' vs ⟨c, vs', hcm, hv, hh⟩ hk hs
    refine ⟨c, vs', hcm, hv, ?_⟩
    rcases hh with ⟨h0, hc, h2⟩ | ⟨nb, h0, hc, hn, hl2, hh⟩
    · have hl : b < w.heap.size := World.block_lt_of_cell? _ _ hc
      exact .inl ⟨h0, by rw [hk.cell b o hl (fun x => (hs b o x).2 ⟨rfl, rfl⟩)]; exact hc, h2⟩
    · have hl : b < w.heap.size := World.block_lt_of_cell? _ _ hc
      refine .inr ⟨nb, h0, by rw [hk.cell b o hl (fun x => (hs b o x).2 ⟨rfl, rfl⟩)]; exact hc, hn, Nat.lt_of_lt_of_le hl2 hk.size, ?_⟩
      refine seqH_h _ (fun q hq => ?_) T N w w' vs' hh hk (fun c p x => ⟨(hs c p x).1, fun q hq y => ?_⟩)
      · obtain ⟨i, -, rfl⟩ := List.mem_map.1 hq
        exact qEnt_ok _ _
      · obtain ⟨i, -, rfl⟩ := List.mem_map.1 hq
        have := (qEnt_S y).1
        have := (hs c p x).1
        omega
  · rintro N N' w vs ⟨c, vs', hcm, hv, hh⟩ hn
    refine ⟨c, vs', hcm, hv, ?_⟩
    rcases hh with hh | ⟨nb, h0, hc, hn2, hl2, hh⟩
    · exact .inl hh
    · refine .inr ⟨nb, h0, hc, Nat.le_trans hn hn2, hl2, seqH_m _ (fun q hq => ?_) N N' w vs' hh hn⟩
      obtain ⟨i, -, rfl⟩ := List.mem_map.1 hq
      exact qEnt_ok _ _

theorem infoEnts : (Try.prog.info? 123).map (fun i => (i.zero, i.size, i.bytes)) = some (some (.agg #[.int .i64 0, .string ⟨#[]⟩]), 2, 24) := by kernel_rfl

theorem makeEnts (n : Nat) (hn : n ≤ 16) (W : World) : (Instr.makeSlice 142 (.int .i64 (n : Int)) (.int .i64 (n : Int))).run Try.prog W = .ok (.slice (some ⟨W.heap.size, 0, none⟩) n n) (W.alloc (.cells (madeCells #[.int .i64 0, .string ⟨#[]⟩] (n * 2)) 123)) := by
  obtain ⟨i0, hi, hz0, hz1, hz2⟩ := info_parts infoEnts
  have h := run_make (P := Try.prog) W 142 123 i0 (.agg #[.int .i64 0, .string ⟨#[]⟩]) Try.underlying142 hi hz0 .i64 .i64 n n (by omega) (by omega) (by rw [hz2]; omega) (by omega)
  rw [hz1] at h
  exact h

theorem madeEnts_Z (W : World) (n i : Nat) (hi : i < n) : (qEnt W.heap.size (i * 2)).Z (W.alloc (.cells (madeCells #[.int .i64 0, .string ⟨#[]⟩] (n * 2)) 123)) := by
  have hb : (W.alloc (.cells (madeCells #[.int .i64 0, .string ⟨#[]⟩] (n * 2)) 123)).heap[W.heap.size]? = some (.cells (madeCells #[.int .i64 0, .string ⟨#[]⟩] (n * 2)) 123 (0, 0)) := heap_alloc_new _ _
  have c0 : (W.alloc (.cells (madeCells #[.int .i64 0, .string ⟨#[]⟩] (n * 2)) 123)).cell? ⟨W.heap.size, i * 2, none⟩ = some (.int .i64 0) := by
    rw [Lib.cell_of_heap hb]
    unfold madeCells
    rw [Array.getElem?_map, Array.getElem?_range, if_pos (by omega)]
    simp
  have c1 : (W.alloc (.cells (madeCells #[.int .i64 0, .string ⟨#[]⟩] (n * 2)) 123)).cell? ⟨W.heap.size, i * 2 + 1, none⟩ = some (.string ⟨#[]⟩) := by
    rw [Lib.cell_of_heap hb]
    unfold madeCells
    rw [Array.getElem?_map, Array.getElem?_range, if_pos (by omega)]
    have : (i * 2 + 1) % 2 = 1 := by omega
    simp [this]
  have hz : ∀ o, (W.alloc (.cells (madeCells #[.int .i64 0, .string ⟨#[]⟩] (n * 2)) 123)).frozen? ⟨W.heap.size, o, none⟩ = false := fun o => by rw [World.frozen?_alloc_mark]; simp
  intro q hq
  simp only [List.mem_cons, List.not_mem_nil, or_false] at hq
  rcases hq with rfl | rfl
  · exact ⟨⟨_, c0⟩, hz _⟩
  · exact ⟨⟨_, c1⟩, hz _⟩

theorem dlistEnts (nb c : Nat) (l : List UInt8) : dseq ((List.range c).map fun i => qEnt nb (i * 2)) l = Cm.dec (List.replicate c ksEnt).flatten l := by
  rw [dseq_dec _ (List.replicate c ksEnt) (by simp)]
  intro i q ks h1 h2
  rw [List.getElem?_map] at h1
  obtain ⟨j, hj, rfl⟩ := Option.map_eq_some_iff.1 h1
  rw [List.getElem?_replicate] at h2
  split at h2
  · simp only [Option.some.injEq] at h2
    subst h2
    exact qEnt_D _ _
  · cases h2

/-- The list is made: so it begins. -/
theorem list_start_Ents {w w1 : World} {R b o n : Nat} {t : ByteArray} (hk : KeptC (fun c p => c = R ∨ (c = b ∧ p = o)) w w1) (ht : Rd w1 R t) (hbR : b ≠ R) (c2 : w1.cell? ⟨b, o, none⟩ = some (.slice none 0 0)) {W : World}
    (hW : W = ((w1.setCell ⟨b, o, none⟩ (.slice (some ⟨w1.heap.size, 0, none⟩) n n)).alloc (.cells (madeCells #[.int .i64 0, .string ⟨#[]⟩] (n * 2)) 123)).drew) :
    KeptC (fun c p => c = R ∨ (c = b ∧ p = o)) w W ∧ W.cell? ⟨b, o, none⟩ = some (.slice (some ⟨w1.heap.size, 0, none⟩) n n) ∧ W.heap.size = w1.heap.size + 1 ∧ Ry W W R t.data.toList ((List.range n).map fun i => qEnt w1.heap.size (i * 2)) 0 := by
  have hb1 : b < w1.heap.size := World.block_lt_of_cell? _ _ c2
  have hRl := ht.lt
  have hs : (w1.setCell ⟨b, o, none⟩ (.slice (some ⟨w1.heap.size, 0, none⟩) n n)).heap.size = w1.heap.size := by simp
  have h1 : KeptC (fun c p => c = R ∨ (c = b ∧ p = o)) w (w1.setCell ⟨b, o, none⟩ (.slice (some ⟨w1.heap.size, 0, none⟩) n n)) := hk.setCell (fun _ => .inr ⟨rfl, rfl⟩) _
  have hc1 : (w1.setCell ⟨b, o, none⟩ (.slice (some ⟨w1.heap.size, 0, none⟩) n n)).cell? ⟨b, o, none⟩ = some (.slice (some ⟨w1.heap.size, 0, none⟩) n n) := World.cell?_setCell_same _ _ _ c2
  have ht1 : Rd (w1.setCell ⟨b, o, none⟩ (.slice (some ⟨w1.heap.size, 0, none⟩) n n)) R t := ht.kept ((KeptC.refl (fun c p => c = b ∧ p = o) w1).setCell (fun _ => ⟨rfl, rfl⟩) _) (fun _ x => hbR x.1.symm)
  have hZ : ∀ i, i < n → (qEnt w1.heap.size (i * 2)).Z ((w1.setCell ⟨b, o, none⟩ (.slice (some ⟨w1.heap.size, 0, none⟩) n n)).alloc (.cells (madeCells #[.int .i64 0, .string ⟨#[]⟩] (n * 2)) 123)) := fun i hi => by
    have := madeEnts_Z (w1.setCell ⟨b, o, none⟩ (.slice (some ⟨w1.heap.size, 0, none⟩) n n)) n i hi
    rw [hs] at this
    exact this
  generalize w1.setCell ⟨b, o, none⟩ (.slice (some ⟨w1.heap.size, 0, none⟩) n n) = u at *
  have hbl := alloc_below u (.cells (madeCells #[.int .i64 0, .string ⟨#[]⟩] (n * 2)) 123)
  have hsz : W.heap.size = w1.heap.size + 1 := by rw [hW]; show (u.alloc _).heap.size = _; rw [← hs]; simp
  have hbW : Below u.heap.size u W := by rw [hW]; exact hbl.drew
  refine ⟨h1.trans (KeptC.of_below (S := fun _ _ => False) hbW) (fun _ _ _ => False.elim), by rw [hbW.cell (p := ⟨b, o, none⟩) (by rw [hs]; exact hb1)]; exact hc1, hsz, ?_⟩
  have hmem : ∀ q ∈ ((List.range n).map fun i => qEnt w1.heap.size (i * 2)), ∃ i, i < n ∧ q = qEnt w1.heap.size (i * 2) := fun q hq => by
    obtain ⟨i, hi, rfl⟩ := List.mem_map.1 hq
    exact ⟨i, by simpa using hi, rfl⟩
  have hap : ∀ (i j : Nat) (q r : Rf), i ≠ j → ((List.range n).map fun i => qEnt w1.heap.size (i * 2))[i]? = some q → ((List.range n).map fun i => qEnt w1.heap.size (i * 2))[j]? = some r → ∀ c p, q.S c p → ¬ r.S c p := by
    intro i j q r hij e1 e2 c p x y
    rw [List.getElem?_map] at e1 e2
    obtain ⟨i', hi', rfl⟩ := Option.map_eq_some_iff.1 e1
    obtain ⟨j', hj', rfl⟩ := Option.map_eq_some_iff.1 e2
    obtain ⟨_, a1⟩ := List.getElem?_eq_some_iff.1 hi'
    obtain ⟨_, a2⟩ := List.getElem?_eq_some_iff.1 hj'
    rw [List.getElem_range] at a1 a2
    have b1 := qEnt_S x
    have b2 := qEnt_S y
    omega
  refine Ry.start (s := t) ⟨by rw [hbW.block R (by rw [hs]; exact hRl)]; exact ht1.1, ht1.2⟩ (fun q hq => ?_) (fun p ⟨q, hq, x⟩ => ?_) (fun c p ⟨q, hq, x⟩ => ?_) (fun q hq => ?_) hap
  · obtain ⟨i, hi, rfl⟩ := hmem q hq
    have := hZ i hi
    exact (qEnt_ok _ _).z (fun _ _ => False) _ _ this (by rw [hW]; exact (KeptC.refl _ _).drew) (fun _ _ _ => id)
  · obtain ⟨i, hi, rfl⟩ := hmem q hq
    have := (qEnt_S x).1
    omega
  · obtain ⟨i, hi, rfl⟩ := hmem q hq
    have := (qEnt_S x).1
    omega
  · obtain ⟨i, hi, rfl⟩ := hmem q hq
    exact qEnt_ok _ _

/-- The list is read. -/
theorem list_end_Ents {w W w' : World} {R b o n nb : Nat} {l : List UInt8} {e : Ending} (hn : n ≤ 16) (h0 : n ≠ 0) (hbR : b ≠ R) (hbn : b < nb) (hk : KeptC (fun c p => c = R ∨ (c = b ∧ p = o)) w W) (hc : W.cell? ⟨b, o, none⟩ = some (.slice (some ⟨nb, 0, none⟩) n n)) (hN : w.heap.size ≤ nb) (hnW : nb < W.heap.size)
    (hx : ROut W R (seqR ((List.range n).map fun i => qEnt nb (i * 2))).S ((seqR ((List.range n).map fun i => qEnt nb (i * 2))).D l) ((seqR ((List.range n).map fun i => qEnt nb (i * 2))).H W.heap.size) e w') :
    ROut w R (fun c p => c = b ∧ p = o) (match Cm.dec (List.replicate n ksEnt).flatten l with
      | none => none
      | some (b, r') => some ((Cm.K.n 16, Cm.V.n (n : Int)) :: b, r')) ((qEnts b o).H w.heap.size) e w' := by
  obtain ⟨h1, h2⟩ := hx
  have hS : ∀ c p, (seqR ((List.range n).map fun i => qEnt nb (i * 2))).S c p → c = nb := fun c p ⟨q, hq, x⟩ => by
    obtain ⟨i, hi, rfl⟩ := List.mem_map.1 hq
    exact (qEnt_S x).1
  refine ⟨hk.trans h1 (fun c p hc x => ?_), ?_⟩
  · rcases x with x | x
    · exact .inl x
    · have := hS c p x; omega
  · have hD : (seqR ((List.range n).map fun i => qEnt nb (i * 2))).D l = Cm.dec (List.replicate n ksEnt).flatten l := dlistEnts nb n l
    rw [hD] at h2
    cases hq : Cm.dec (List.replicate n ksEnt).flatten l with
    | none => rw [hq] at h2; exact h2
    | some p =>
      obtain ⟨a, r⟩ := p
      rw [hq] at h2
      obtain ⟨he, ht, hh⟩ := h2
      refine ⟨he, ht, n, a, hn, rfl, .inr ⟨nb, h0, ?_, hN, Nat.lt_of_lt_of_le hnW h1.size, seqH_m _ (fun q hq => ?_) _ _ _ _ hh hk.size⟩⟩
      · rw [h1.cell b o (by omega) (by rintro (x | x); exact hbR x; have := hS _ _ x; omega)]; exact hc
      · obtain ⟨i, hi, rfl⟩ := List.mem_map.1 hq
        exact qEnt_ok _ _

set_option maxHeartbeats 4000000 in
set_option maxRecDepth 100000 in
theorem list_r_Ents (b o : Nat) : RListC 53 16 b o (qEnts b o) := by
  rintro w R s hr ⟨hc, hz⟩ hR hl
  have hbR : b ≠ R := fun e => hR o ⟨e.symm, rfl⟩
  have hbl : b < w.heap.size := World.block_lt_of_cell? _ _ hc
  have hRl := hr.lt
  have hn := rd_own2 hr 0 hc hz hbR 16
  have hDe : (qEnts b o).D s.data.toList = dlist 16 ksEnt s.data.toList := rfl
  show Calls _ _ _ _ (ROut w R (fun c p => c = b ∧ p = o) ((qEnts b o).D s.data.toList) _)
  rw [hDe]
  have m1 := m_rnum
  obtain ⟨D, hD⟩ : ∃ D, D = dlist 16 ksEnt s.data.toList := ⟨_, rfl⟩
  rw [← hD]
  unfold dlist at hD
  cases hq : Cm.dec [.n 16] s.data.toList with
  | none =>
    rw [hq] at hn hD
    simp only at hD
    subst hD
    have HN := hidden hn
    clear hn hq hl hR hr hz hDe
    unfold rdV
    go_enter Try.func53, Try.ntmps53
    go_wp2_with (go_at_call 94; refine (HN.out).mono ?_; rintro e w1 ⟨⟨t, v, rfl⟩, hk⟩)
    exact ⟨rfl, hk, _, _, rfl⟩
  | some q =>
    obtain ⟨vs, r⟩ := q
    obtain ⟨n, hnm, rfl⟩ := Cm.dec_num hq
    rw [hq] at hn hD
    have hD2 : D = match Cm.dec (List.replicate n ksEnt).flatten r with
      | none => none
      | some (b, r') => some ((Cm.K.n 16, Cm.V.n (n : Int)) :: b, r') := by
      rw [hD]
      simp only [Int.toNat_natCast]
    have HDD := hidden hD2
    clear hD hD2
    have HN := hidden hn
    have HB := hidden (And.intro hbl hRl)
    clear hn hq hl hR hr hDe
    unfold rdV
    by_cases h0 : n = 0
    · subst h0
      have hD0 : D = some ([(Cm.K.n 16, Cm.V.n 0)], r) := by
        rw [HDD.out]
        simp only [List.replicate_zero, List.flatten_nil, Cm.dec]
        rfl
      subst hD0
      clear HDD
      go_enter Try.func53, Try.ntmps53
      go_wp2_with (go_at_call 94; refine (HN.out).mono ?_; rintro e w1 ⟨rfl, v, hv, c1, c2, z2, hk, t, ht, hr⟩; have HK := hidden hk; have HT := hidden ht; have HR := hidden hr; clear hk ht hr; obtain rfl : v = 0 := by simpa using hv.symm)
      clear hv
      go_region
      all_goals go_wp2
      all_goals
        go_loopw [29] (fun i wr => i = .int .i64 0 ∧ wr = w1.drew) (fun _ _ => 0)
        case atStart => exact ⟨rfl, rfl⟩
        case round =>
          obtain ⟨rfl, rfl⟩ := hrel
          go_wp2
          go_end0
          exact ⟨HK.out.drew, rfl, ⟨t, HT.out, HR.out⟩, 0, [], by omega, rfl, .inl ⟨rfl, c2, rfl⟩⟩
    · have hpos : 0 < n := by omega
      have hposi : (0 : Int) < (n : Int) := by omega
      have hmk := makeEnts n hnm
      have HW : Hid (∀ nb o, RWalkC [.sub .ent nb o] (qEnt nb o)) := fun nb o => walk_one (qEnt_ok nb o) (walkEnt_r nb o)
      have HZ : Hid (∀ (w1 : World) (t : ByteArray), KeptC (fun c p => c = R ∨ (c = b ∧ p = o)) w w1 → Rd w1 R t → w1.cell? ⟨b, o, none⟩ = some (.slice none 0 0) → ∀ W, W = ((w1.setCell ⟨b, o, none⟩ (.slice (some ⟨w1.heap.size, 0, none⟩) n n)).alloc (.cells (madeCells #[.int .i64 0, .string ⟨#[]⟩] (n * 2)) 123)).drew → KeptC (fun c p => c = R ∨ (c = b ∧ p = o)) w W ∧ W.cell? ⟨b, o, none⟩ = some (.slice (some ⟨w1.heap.size, 0, none⟩) n n) ∧ W.heap.size = w1.heap.size + 1 ∧ Ry W W R t.data.toList ((List.range n).map fun i => qEnt w1.heap.size (i * 2)) 0) := fun w1 t hk ht c2 W hW => list_start_Ents hk ht hbR c2 hW
      have HQS : Hid (∀ nb, ((List.range n).map fun i => qEnt nb (i * 2)).length = n ∧ ∀ k, k < n → ((List.range n).map fun i => qEnt nb (i * 2))[k]? = some (qEnt nb (k * 2))) := fun nb => ⟨by simp, fun k hk => by rw [List.getElem?_map, List.getElem?_range hk]; rfl⟩
      obtain ⟨row, hrow⟩ : ∃ row, row = madeCells #[.int .i64 0, .string ⟨#[]⟩] (n * 2) := ⟨_, rfl⟩
      rw [← hrow] at hmk HZ
      clear hrow
      go_enter Try.func53, Try.ntmps53
      go_wp2_with (go_at_call 94; refine (HN.out).mono ?_; rintro e w1 ⟨rfl, v, hv, c1, c2, z2, hk, t, ht, hr⟩; have HK := hidden hk; have HT := hidden ht; have HR := hidden hr; clear hk ht hr; obtain rfl : v = (n : Int) := by simpa using hv.symm)
      clear hv
      have hb1 : b < w1.heap.size := World.block_lt_of_cell? _ _ c2
      have ca : (w1.alloc (.cells row 123)).cell? ⟨b, o, none⟩ = some (.slice none 0 0) := by rw [(alloc_below w1 _).cell (p := ⟨b, o, none⟩) hb1]; exact c2
      have za : (w1.alloc (.cells row 123)).frozen? ⟨b, o, none⟩ = false := by rw [(alloc_below w1 _).frozen (p := ⟨b, o, none⟩) hb1]; exact z2
      go_region
      all_goals go_wp2
      all_goals
        obtain ⟨nb, hnb⟩ : ∃ nb, nb = w1.heap.size := ⟨_, rfl⟩
        obtain ⟨W, hW⟩ : ∃ W, W = ((w1.setCell ⟨b, o, none⟩ (.slice (some ⟨w1.heap.size, 0, none⟩) n n)).alloc (.cells row 123)).drew := ⟨_, rfl⟩
        obtain ⟨hkW, hcW, hsW, hyW⟩ := HZ.out w1 t HK.out HT.out c2 W hW
        have HNW : Hid (w.heap.size ≤ nb ∧ nb < W.heap.size ∧ b < nb) := ⟨by rw [hnb]; exact HK.out.size, by omega, by omega⟩
        rw [← hW, ← hnb]
        rw [← hnb] at hcW hyW
        have HKW := hidden hkW
        have HCW := hidden hcW
        have HYW := hidden hyW
        clear hkW hsW hyW hb1 ca za c1 c2 z2 hnb hW HK HN hmk
        have HRB : Hid (R < nb) := by
          have a1 := HKW.out.size
          have a2 := HB.out.2
          have a3 := HNW.out.1
          show R < nb
          omega
        go_loopw [29] (fun i wr => ∃ k : Nat, i = .int .i64 (k : Int) ∧ k ≤ n ∧ Hid (Ry W wr R t.data.toList ((List.range n).map fun i => qEnt nb (i * 2)) k))
          (fun i _ => n - (intOf i).toNat)
        case atStart => exact ⟨0, rfl, Nat.zero_le _, HYW⟩
        case round =>
          obtain ⟨k, rfl, hkn, Hy⟩ := hrel
          by_cases hlt : k < n
          · have hqk := (HQS.out nb).2 k hlt
            obtain ⟨vs0, t0, hd0, hr0, hh0⟩ := Hy.out.out
            have hcr : wr.cell? ⟨b, o, none⟩ = some (.slice (some ⟨nb, 0, none⟩) n n) := by
              rw [Hy.out.kept.cell b o (by have := HNW.out; omega) ?_]
              · exact HCW.out
              · rintro (x | ⟨q, hq, x⟩)
                · exact hbR x
                · obtain ⟨i, -, rfl⟩ := List.mem_map.1 hq
                  have a1 := (qEnt_S x).1
                  have a2 := HNW.out
                  omega
            have HA : Hid (Below wr.heap.size wr (wr.alloc (.cells #[(Fd.sub .ent nb (k * 2)).val] 20))) := alloc_below wr _
            have hsz : (wr.alloc (.cells #[(Fd.sub .ent nb (k * 2)).val] 20)).heap.size = wr.heap.size + 1 := by simp
            have hlow := Hy.out.kept.size
            have hEl : Elems (wr.alloc (.cells #[(Fd.sub .ent nb (k * 2)).val] 20)) wr.heap.size [.sub .ent nb (k * 2)] := heap_alloc_new _ _
            have hn0 := HW.out nb (k * 2) _ R t0 wr.heap.size ⟨by rw [HA.out.block R hr0.lt]; exact hr0.1, hr0.2⟩ hEl (by have := hr0.lt; omega)
              ((qEnt_ok _ _).z (fun _ _ => False) _ _ (Hy.out.zero k _ (Nat.le_refl _) hqk) (KeptC.of_below HA.out) (fun _ _ _ => id))
              (fun p x => by have a1 := (qEnt_S x).1; have a2 := HRB.out; omega)
              (fun p x => by have a1 := (qEnt_S x).1; have a2 := HNW.out; omega)
              (fun c p x => by have a1 := (qEnt_S x).1; have a2 := HNW.out; omega)
            have HSZ : Hid (W.heap.size ≤ (wr.alloc (.cells #[(Fd.sub .ent nb (k * 2)).val] 20)).heap.size) := by unfold Hid; omega
            unfold rdV Fd.val at hn0
            simp only [List.length_cons, List.length_nil, Nat.zero_add] at hn0
            unfold Fd.val at HA HSZ
            unfold St.ty at hn0 HA HSZ
            simp only at hn0 HA HSZ
            have HQ0 := hidden hqk
            have HD0 := hidden hd0
            have HH0 := hidden hh0
            clear hqk hd0 hr0 hh0 hsz hlow hEl
            cases hq : (qEnt nb (k * 2)).D t0.data.toList with
            | none =>
              rw [hq] at hn0
              have HN2 := hidden hn0
              have HQ := hidden hq
              clear hn0 hq
              go_wp2_with (go_at_call 43; refine (HN2.out).mono ?_; rintro e w2 ⟨hk2, t2, u, rfl⟩)
              refine ⟨rfl, ?_⟩
              have hx := Hy.out.panic (v := u) (ty := t2) HQ0.out HD0.out HQ.out ((KeptC.of_below HA.out).trans hk2 (fun _ _ _ x => x))
              rw [HR.out] at hx
              rw [HDD.out]
              exact list_end_Ents hnm h0 hbR HNW.out.2.2 HKW.out HCW.out HNW.out.1 HNW.out.2.1 hx
            | some p1 =>
              obtain ⟨a1, r1⟩ := p1
              rw [hq] at hn0
              have HN2 := hidden hn0
              have HQ := hidden hq
              clear hn0 hq
              go_wp2_with (go_at_call 43; refine (HN2.out).mono ?_; rintro e w2 ⟨hk2, rfl, ⟨t2, ht2, hr2⟩, hhf⟩; have HHf := hidden hhf; clear hhf)
              go_roundw
              case rel => exact ⟨k + 1, by go_num, hlt, hidden (Hy.out.step HQ0.out HD0.out HH0.out HQ.out ht2 hr2 HSZ.out HHf.out ((KeptC.of_below HA.out).trans hk2 (fun _ _ _ x => x)))⟩
              case measure => simp [intOf]; omega
          · obtain rfl : k = n := by omega
            go_wp2
            go_end0
            have he : Ry W wr R t.data.toList ((List.range k).map fun i => qEnt nb (i * 2)) ((List.range k).map fun i => qEnt nb (i * 2)).length := by rw [(HQS.out nb).1]; exact Hy.out
            have hx := he.end_
            rw [HR.out] at hx
            rw [HDD.out]
            exact list_end_Ents hnm h0 hbR HNW.out.2.2 HKW.out HCW.out HNW.out.1 HNW.out.2.1 hx

/-- A list of so many that is read. -/
def qPosts (b o : Nat) : Rf where
  D := dlist 64 ksPost
  S := fun c p => c = b ∧ p = o
  Z := fun w => w.cell? ⟨b, o, none⟩ = some (.slice none 0 0) ∧ w.frozen? ⟨b, o, none⟩ = false
  H := fun N w vs => ∃ (c : Nat) (vs' : List (Cm.K × Cm.V)), c ≤ 64 ∧ vs = (.n 64, .n (c : Int)) :: vs' ∧ ((c = 0 ∧ w.cell? ⟨b, o, none⟩ = some (.slice none 0 0) ∧ vs' = []) ∨ ∃ nb, c ≠ 0 ∧ w.cell? ⟨b, o, none⟩ = some (.slice (some ⟨nb, 0, none⟩) c c) ∧ N ≤ nb ∧ nb < w.heap.size ∧ seqH ((List.range c).map fun i => qPost nb (i * 2)) N w vs')

theorem qPosts_ok (b o : Nat) : (qPosts b o).Ok := by
  refine ⟨?_, ?_, ?_⟩
  · rintro T w w' ⟨hc, hz⟩ hk hs
    have hl : b < w.heap.size := World.block_lt_of_cell? _ _ hc
    exact ⟨by rw [hk.cell b o hl (hs b o ⟨rfl, rfl⟩)]; exact hc, by rw [hk.frozen b o hl]; exact hz⟩
  · rintro T N w w' vs ⟨c, vs', hcm, hv, hh⟩ hk hs
    refine ⟨c, vs', hcm, hv, ?_⟩
    rcases hh with ⟨h0, hc, h2⟩ | ⟨nb, h0, hc, hn, hl2, hh⟩
    · have hl : b < w.heap.size := World.block_lt_of_cell? _ _ hc
      exact .inl ⟨h0, by rw [hk.cell b o hl (fun x => (hs b o x).2 ⟨rfl, rfl⟩)]; exact hc, h2⟩
    · have hl : b < w.heap.size := World.block_lt_of_cell? _ _ hc
      refine .inr ⟨nb, h0, by rw [hk.cell b o hl (fun x => (hs b o x).2 ⟨rfl, rfl⟩)]; exact hc, hn, Nat.lt_of_lt_of_le hl2 hk.size, ?_⟩
      refine seqH_h _ (fun q hq => ?_) T N w w' vs' hh hk (fun c p x => ⟨(hs c p x).1, fun q hq y => ?_⟩)
      · obtain ⟨i, -, rfl⟩ := List.mem_map.1 hq
        exact qPost_ok _ _
      · obtain ⟨i, -, rfl⟩ := List.mem_map.1 hq
        have := (qPost_S y).1
        have := (hs c p x).1
        omega
  · rintro N N' w vs ⟨c, vs', hcm, hv, hh⟩ hn
    refine ⟨c, vs', hcm, hv, ?_⟩
    rcases hh with hh | ⟨nb, h0, hc, hn2, hl2, hh⟩
    · exact .inl hh
    · refine .inr ⟨nb, h0, hc, Nat.le_trans hn hn2, hl2, seqH_m _ (fun q hq => ?_) N N' w vs' hh hn⟩
      obtain ⟨i, -, rfl⟩ := List.mem_map.1 hq
      exact qPost_ok _ _

theorem infoPosts : (Try.prog.info? 74).map (fun i => (i.zero, i.size, i.bytes)) = some (some (.agg #[.string ⟨#[]⟩, .string ⟨#[]⟩]), 2, 32) := by kernel_rfl

theorem makePosts (n : Nat) (hn : n ≤ 64) (W : World) : (Instr.makeSlice 29 (.int .i64 (n : Int)) (.int .i64 (n : Int))).run Try.prog W = .ok (.slice (some ⟨W.heap.size, 0, none⟩) n n) (W.alloc (.cells (madeCells #[.string ⟨#[]⟩, .string ⟨#[]⟩] (n * 2)) 74)) := by
  obtain ⟨i0, hi, hz0, hz1, hz2⟩ := info_parts infoPosts
  have h := run_make (P := Try.prog) W 29 74 i0 (.agg #[.string ⟨#[]⟩, .string ⟨#[]⟩]) Try.underlying29 hi hz0 .i64 .i64 n n (by omega) (by omega) (by rw [hz2]; omega) (by omega)
  rw [hz1] at h
  exact h

theorem madePosts_Z (W : World) (n i : Nat) (hi : i < n) : (qPost W.heap.size (i * 2)).Z (W.alloc (.cells (madeCells #[.string ⟨#[]⟩, .string ⟨#[]⟩] (n * 2)) 74)) := by
  have hb : (W.alloc (.cells (madeCells #[.string ⟨#[]⟩, .string ⟨#[]⟩] (n * 2)) 74)).heap[W.heap.size]? = some (.cells (madeCells #[.string ⟨#[]⟩, .string ⟨#[]⟩] (n * 2)) 74 (0, 0)) := heap_alloc_new _ _
  have c0 : (W.alloc (.cells (madeCells #[.string ⟨#[]⟩, .string ⟨#[]⟩] (n * 2)) 74)).cell? ⟨W.heap.size, i * 2, none⟩ = some (.string ⟨#[]⟩) := by
    rw [Lib.cell_of_heap hb]
    unfold madeCells
    rw [Array.getElem?_map, Array.getElem?_range, if_pos (by omega)]
    simp
  have c1 : (W.alloc (.cells (madeCells #[.string ⟨#[]⟩, .string ⟨#[]⟩] (n * 2)) 74)).cell? ⟨W.heap.size, i * 2 + 1, none⟩ = some (.string ⟨#[]⟩) := by
    rw [Lib.cell_of_heap hb]
    unfold madeCells
    rw [Array.getElem?_map, Array.getElem?_range, if_pos (by omega)]
    have : (i * 2 + 1) % 2 = 1 := by omega
    simp [this]
  have hz : ∀ o, (W.alloc (.cells (madeCells #[.string ⟨#[]⟩, .string ⟨#[]⟩] (n * 2)) 74)).frozen? ⟨W.heap.size, o, none⟩ = false := fun o => by rw [World.frozen?_alloc_mark]; simp
  intro q hq
  simp only [List.mem_cons, List.not_mem_nil, or_false] at hq
  rcases hq with rfl | rfl
  · exact ⟨⟨_, c0⟩, hz _⟩
  · exact ⟨⟨_, c1⟩, hz _⟩

theorem dlistPosts (nb c : Nat) (l : List UInt8) : dseq ((List.range c).map fun i => qPost nb (i * 2)) l = Cm.dec (List.replicate c ksPost).flatten l := by
  rw [dseq_dec _ (List.replicate c ksPost) (by simp)]
  intro i q ks h1 h2
  rw [List.getElem?_map] at h1
  obtain ⟨j, hj, rfl⟩ := Option.map_eq_some_iff.1 h1
  rw [List.getElem?_replicate] at h2
  split at h2
  · simp only [Option.some.injEq] at h2
    subst h2
    exact qPost_D _ _
  · cases h2

/-- The list is made: so it begins. -/
theorem list_start_Posts {w w1 : World} {R b o n : Nat} {t : ByteArray} (hk : KeptC (fun c p => c = R ∨ (c = b ∧ p = o)) w w1) (ht : Rd w1 R t) (hbR : b ≠ R) (c2 : w1.cell? ⟨b, o, none⟩ = some (.slice none 0 0)) {W : World}
    (hW : W = ((w1.setCell ⟨b, o, none⟩ (.slice (some ⟨w1.heap.size, 0, none⟩) n n)).alloc (.cells (madeCells #[.string ⟨#[]⟩, .string ⟨#[]⟩] (n * 2)) 74)).drew) :
    KeptC (fun c p => c = R ∨ (c = b ∧ p = o)) w W ∧ W.cell? ⟨b, o, none⟩ = some (.slice (some ⟨w1.heap.size, 0, none⟩) n n) ∧ W.heap.size = w1.heap.size + 1 ∧ Ry W W R t.data.toList ((List.range n).map fun i => qPost w1.heap.size (i * 2)) 0 := by
  have hb1 : b < w1.heap.size := World.block_lt_of_cell? _ _ c2
  have hRl := ht.lt
  have hs : (w1.setCell ⟨b, o, none⟩ (.slice (some ⟨w1.heap.size, 0, none⟩) n n)).heap.size = w1.heap.size := by simp
  have h1 : KeptC (fun c p => c = R ∨ (c = b ∧ p = o)) w (w1.setCell ⟨b, o, none⟩ (.slice (some ⟨w1.heap.size, 0, none⟩) n n)) := hk.setCell (fun _ => .inr ⟨rfl, rfl⟩) _
  have hc1 : (w1.setCell ⟨b, o, none⟩ (.slice (some ⟨w1.heap.size, 0, none⟩) n n)).cell? ⟨b, o, none⟩ = some (.slice (some ⟨w1.heap.size, 0, none⟩) n n) := World.cell?_setCell_same _ _ _ c2
  have ht1 : Rd (w1.setCell ⟨b, o, none⟩ (.slice (some ⟨w1.heap.size, 0, none⟩) n n)) R t := ht.kept ((KeptC.refl (fun c p => c = b ∧ p = o) w1).setCell (fun _ => ⟨rfl, rfl⟩) _) (fun _ x => hbR x.1.symm)
  have hZ : ∀ i, i < n → (qPost w1.heap.size (i * 2)).Z ((w1.setCell ⟨b, o, none⟩ (.slice (some ⟨w1.heap.size, 0, none⟩) n n)).alloc (.cells (madeCells #[.string ⟨#[]⟩, .string ⟨#[]⟩] (n * 2)) 74)) := fun i hi => by
    have := madePosts_Z (w1.setCell ⟨b, o, none⟩ (.slice (some ⟨w1.heap.size, 0, none⟩) n n)) n i hi
    rw [hs] at this
    exact this
  generalize w1.setCell ⟨b, o, none⟩ (.slice (some ⟨w1.heap.size, 0, none⟩) n n) = u at *
  have hbl := alloc_below u (.cells (madeCells #[.string ⟨#[]⟩, .string ⟨#[]⟩] (n * 2)) 74)
  have hsz : W.heap.size = w1.heap.size + 1 := by rw [hW]; show (u.alloc _).heap.size = _; rw [← hs]; simp
  have hbW : Below u.heap.size u W := by rw [hW]; exact hbl.drew
  refine ⟨h1.trans (KeptC.of_below (S := fun _ _ => False) hbW) (fun _ _ _ => False.elim), by rw [hbW.cell (p := ⟨b, o, none⟩) (by rw [hs]; exact hb1)]; exact hc1, hsz, ?_⟩
  have hmem : ∀ q ∈ ((List.range n).map fun i => qPost w1.heap.size (i * 2)), ∃ i, i < n ∧ q = qPost w1.heap.size (i * 2) := fun q hq => by
    obtain ⟨i, hi, rfl⟩ := List.mem_map.1 hq
    exact ⟨i, by simpa using hi, rfl⟩
  have hap : ∀ (i j : Nat) (q r : Rf), i ≠ j → ((List.range n).map fun i => qPost w1.heap.size (i * 2))[i]? = some q → ((List.range n).map fun i => qPost w1.heap.size (i * 2))[j]? = some r → ∀ c p, q.S c p → ¬ r.S c p := by
    intro i j q r hij e1 e2 c p x y
    rw [List.getElem?_map] at e1 e2
    obtain ⟨i', hi', rfl⟩ := Option.map_eq_some_iff.1 e1
    obtain ⟨j', hj', rfl⟩ := Option.map_eq_some_iff.1 e2
    obtain ⟨_, a1⟩ := List.getElem?_eq_some_iff.1 hi'
    obtain ⟨_, a2⟩ := List.getElem?_eq_some_iff.1 hj'
    rw [List.getElem_range] at a1 a2
    have b1 := qPost_S x
    have b2 := qPost_S y
    omega
  refine Ry.start (s := t) ⟨by rw [hbW.block R (by rw [hs]; exact hRl)]; exact ht1.1, ht1.2⟩ (fun q hq => ?_) (fun p ⟨q, hq, x⟩ => ?_) (fun c p ⟨q, hq, x⟩ => ?_) (fun q hq => ?_) hap
  · obtain ⟨i, hi, rfl⟩ := hmem q hq
    have := hZ i hi
    exact (qPost_ok _ _).z (fun _ _ => False) _ _ this (by rw [hW]; exact (KeptC.refl _ _).drew) (fun _ _ _ => id)
  · obtain ⟨i, hi, rfl⟩ := hmem q hq
    have := (qPost_S x).1
    omega
  · obtain ⟨i, hi, rfl⟩ := hmem q hq
    have := (qPost_S x).1
    omega
  · obtain ⟨i, hi, rfl⟩ := hmem q hq
    exact qPost_ok _ _

/-- The list is read. -/
theorem list_end_Posts {w W w' : World} {R b o n nb : Nat} {l : List UInt8} {e : Ending} (hn : n ≤ 64) (h0 : n ≠ 0) (hbR : b ≠ R) (hbn : b < nb) (hk : KeptC (fun c p => c = R ∨ (c = b ∧ p = o)) w W) (hc : W.cell? ⟨b, o, none⟩ = some (.slice (some ⟨nb, 0, none⟩) n n)) (hN : w.heap.size ≤ nb) (hnW : nb < W.heap.size)
    (hx : ROut W R (seqR ((List.range n).map fun i => qPost nb (i * 2))).S ((seqR ((List.range n).map fun i => qPost nb (i * 2))).D l) ((seqR ((List.range n).map fun i => qPost nb (i * 2))).H W.heap.size) e w') :
    ROut w R (fun c p => c = b ∧ p = o) (match Cm.dec (List.replicate n ksPost).flatten l with
      | none => none
      | some (b, r') => some ((Cm.K.n 64, Cm.V.n (n : Int)) :: b, r')) ((qPosts b o).H w.heap.size) e w' := by
  obtain ⟨h1, h2⟩ := hx
  have hS : ∀ c p, (seqR ((List.range n).map fun i => qPost nb (i * 2))).S c p → c = nb := fun c p ⟨q, hq, x⟩ => by
    obtain ⟨i, hi, rfl⟩ := List.mem_map.1 hq
    exact (qPost_S x).1
  refine ⟨hk.trans h1 (fun c p hc x => ?_), ?_⟩
  · rcases x with x | x
    · exact .inl x
    · have := hS c p x; omega
  · have hD : (seqR ((List.range n).map fun i => qPost nb (i * 2))).D l = Cm.dec (List.replicate n ksPost).flatten l := dlistPosts nb n l
    rw [hD] at h2
    cases hq : Cm.dec (List.replicate n ksPost).flatten l with
    | none => rw [hq] at h2; exact h2
    | some p =>
      obtain ⟨a, r⟩ := p
      rw [hq] at h2
      obtain ⟨he, ht, hh⟩ := h2
      refine ⟨he, ht, n, a, hn, rfl, .inr ⟨nb, h0, ?_, hN, Nat.lt_of_lt_of_le hnW h1.size, seqH_m _ (fun q hq => ?_) _ _ _ _ hh hk.size⟩⟩
      · rw [h1.cell b o (by omega) (by rintro (x | x); exact hbR x; have := hS _ _ x; omega)]; exact hc
      · obtain ⟨i, hi, rfl⟩ := List.mem_map.1 hq
        exact qPost_ok _ _

set_option maxHeartbeats 4000000 in
set_option maxRecDepth 100000 in
theorem list_r_Posts (b o : Nat) : RListC 54 64 b o (qPosts b o) := by
  rintro w R s hr ⟨hc, hz⟩ hR hl
  have hbR : b ≠ R := fun e => hR o ⟨e.symm, rfl⟩
  have hbl : b < w.heap.size := World.block_lt_of_cell? _ _ hc
  have hRl := hr.lt
  have hn := rd_own2 hr 0 hc hz hbR 64
  have hDe : (qPosts b o).D s.data.toList = dlist 64 ksPost s.data.toList := rfl
  show Calls _ _ _ _ (ROut w R (fun c p => c = b ∧ p = o) ((qPosts b o).D s.data.toList) _)
  rw [hDe]
  have m1 := m_rnum
  obtain ⟨D, hD⟩ : ∃ D, D = dlist 64 ksPost s.data.toList := ⟨_, rfl⟩
  rw [← hD]
  unfold dlist at hD
  cases hq : Cm.dec [.n 64] s.data.toList with
  | none =>
    rw [hq] at hn hD
    simp only at hD
    subst hD
    have HN := hidden hn
    clear hn hq hl hR hr hz hDe
    unfold rdV
    go_enter Try.func54, Try.ntmps54
    go_wp2_with (go_at_call 94; refine (HN.out).mono ?_; rintro e w1 ⟨⟨t, v, rfl⟩, hk⟩)
    exact ⟨rfl, hk, _, _, rfl⟩
  | some q =>
    obtain ⟨vs, r⟩ := q
    obtain ⟨n, hnm, rfl⟩ := Cm.dec_num hq
    rw [hq] at hn hD
    have hD2 : D = match Cm.dec (List.replicate n ksPost).flatten r with
      | none => none
      | some (b, r') => some ((Cm.K.n 64, Cm.V.n (n : Int)) :: b, r') := by
      rw [hD]
      simp only [Int.toNat_natCast]
    have HDD := hidden hD2
    clear hD hD2
    have HN := hidden hn
    have HB := hidden (And.intro hbl hRl)
    clear hn hq hl hR hr hDe
    unfold rdV
    by_cases h0 : n = 0
    · subst h0
      have hD0 : D = some ([(Cm.K.n 64, Cm.V.n 0)], r) := by
        rw [HDD.out]
        simp only [List.replicate_zero, List.flatten_nil, Cm.dec]
        rfl
      subst hD0
      clear HDD
      go_enter Try.func54, Try.ntmps54
      go_wp2_with (go_at_call 94; refine (HN.out).mono ?_; rintro e w1 ⟨rfl, v, hv, c1, c2, z2, hk, t, ht, hr⟩; have HK := hidden hk; have HT := hidden ht; have HR := hidden hr; clear hk ht hr; obtain rfl : v = 0 := by simpa using hv.symm)
      clear hv
      go_region
      all_goals go_wp2
      all_goals
        go_loopw [29] (fun i wr => i = .int .i64 0 ∧ wr = w1.drew) (fun _ _ => 0)
        case atStart => exact ⟨rfl, rfl⟩
        case round =>
          obtain ⟨rfl, rfl⟩ := hrel
          go_wp2
          go_end0
          exact ⟨HK.out.drew, rfl, ⟨t, HT.out, HR.out⟩, 0, [], by omega, rfl, .inl ⟨rfl, c2, rfl⟩⟩
    · have hpos : 0 < n := by omega
      have hposi : (0 : Int) < (n : Int) := by omega
      have hmk := makePosts n hnm
      have HW : Hid (∀ nb o, RWalkC [.sub .post nb o] (qPost nb o)) := fun nb o => walk_one (qPost_ok nb o) (walkPost_r nb o)
      have HZ : Hid (∀ (w1 : World) (t : ByteArray), KeptC (fun c p => c = R ∨ (c = b ∧ p = o)) w w1 → Rd w1 R t → w1.cell? ⟨b, o, none⟩ = some (.slice none 0 0) → ∀ W, W = ((w1.setCell ⟨b, o, none⟩ (.slice (some ⟨w1.heap.size, 0, none⟩) n n)).alloc (.cells (madeCells #[.string ⟨#[]⟩, .string ⟨#[]⟩] (n * 2)) 74)).drew → KeptC (fun c p => c = R ∨ (c = b ∧ p = o)) w W ∧ W.cell? ⟨b, o, none⟩ = some (.slice (some ⟨w1.heap.size, 0, none⟩) n n) ∧ W.heap.size = w1.heap.size + 1 ∧ Ry W W R t.data.toList ((List.range n).map fun i => qPost w1.heap.size (i * 2)) 0) := fun w1 t hk ht c2 W hW => list_start_Posts hk ht hbR c2 hW
      have HQS : Hid (∀ nb, ((List.range n).map fun i => qPost nb (i * 2)).length = n ∧ ∀ k, k < n → ((List.range n).map fun i => qPost nb (i * 2))[k]? = some (qPost nb (k * 2))) := fun nb => ⟨by simp, fun k hk => by rw [List.getElem?_map, List.getElem?_range hk]; rfl⟩
      obtain ⟨row, hrow⟩ : ∃ row, row = madeCells #[.string ⟨#[]⟩, .string ⟨#[]⟩] (n * 2) := ⟨_, rfl⟩
      rw [← hrow] at hmk HZ
      clear hrow
      go_enter Try.func54, Try.ntmps54
      go_wp2_with (go_at_call 94; refine (HN.out).mono ?_; rintro e w1 ⟨rfl, v, hv, c1, c2, z2, hk, t, ht, hr⟩; have HK := hidden hk; have HT := hidden ht; have HR := hidden hr; clear hk ht hr; obtain rfl : v = (n : Int) := by simpa using hv.symm)
      clear hv
      have hb1 : b < w1.heap.size := World.block_lt_of_cell? _ _ c2
      have ca : (w1.alloc (.cells row 74)).cell? ⟨b, o, none⟩ = some (.slice none 0 0) := by rw [(alloc_below w1 _).cell (p := ⟨b, o, none⟩) hb1]; exact c2
      have za : (w1.alloc (.cells row 74)).frozen? ⟨b, o, none⟩ = false := by rw [(alloc_below w1 _).frozen (p := ⟨b, o, none⟩) hb1]; exact z2
      go_region
      all_goals go_wp2
      all_goals
        obtain ⟨nb, hnb⟩ : ∃ nb, nb = w1.heap.size := ⟨_, rfl⟩
        obtain ⟨W, hW⟩ : ∃ W, W = ((w1.setCell ⟨b, o, none⟩ (.slice (some ⟨w1.heap.size, 0, none⟩) n n)).alloc (.cells row 74)).drew := ⟨_, rfl⟩
        obtain ⟨hkW, hcW, hsW, hyW⟩ := HZ.out w1 t HK.out HT.out c2 W hW
        have HNW : Hid (w.heap.size ≤ nb ∧ nb < W.heap.size ∧ b < nb) := ⟨by rw [hnb]; exact HK.out.size, by omega, by omega⟩
        rw [← hW, ← hnb]
        rw [← hnb] at hcW hyW
        have HKW := hidden hkW
        have HCW := hidden hcW
        have HYW := hidden hyW
        clear hkW hsW hyW hb1 ca za c1 c2 z2 hnb hW HK HN hmk
        have HRB : Hid (R < nb) := by
          have a1 := HKW.out.size
          have a2 := HB.out.2
          have a3 := HNW.out.1
          show R < nb
          omega
        go_loopw [29] (fun i wr => ∃ k : Nat, i = .int .i64 (k : Int) ∧ k ≤ n ∧ Hid (Ry W wr R t.data.toList ((List.range n).map fun i => qPost nb (i * 2)) k))
          (fun i _ => n - (intOf i).toNat)
        case atStart => exact ⟨0, rfl, Nat.zero_le _, HYW⟩
        case round =>
          obtain ⟨k, rfl, hkn, Hy⟩ := hrel
          by_cases hlt : k < n
          · have hqk := (HQS.out nb).2 k hlt
            obtain ⟨vs0, t0, hd0, hr0, hh0⟩ := Hy.out.out
            have hcr : wr.cell? ⟨b, o, none⟩ = some (.slice (some ⟨nb, 0, none⟩) n n) := by
              rw [Hy.out.kept.cell b o (by have := HNW.out; omega) ?_]
              · exact HCW.out
              · rintro (x | ⟨q, hq, x⟩)
                · exact hbR x
                · obtain ⟨i, -, rfl⟩ := List.mem_map.1 hq
                  have a1 := (qPost_S x).1
                  have a2 := HNW.out
                  omega
            have HA : Hid (Below wr.heap.size wr (wr.alloc (.cells #[(Fd.sub .post nb (k * 2)).val] 20))) := alloc_below wr _
            have hsz : (wr.alloc (.cells #[(Fd.sub .post nb (k * 2)).val] 20)).heap.size = wr.heap.size + 1 := by simp
            have hlow := Hy.out.kept.size
            have hEl : Elems (wr.alloc (.cells #[(Fd.sub .post nb (k * 2)).val] 20)) wr.heap.size [.sub .post nb (k * 2)] := heap_alloc_new _ _
            have hn0 := HW.out nb (k * 2) _ R t0 wr.heap.size ⟨by rw [HA.out.block R hr0.lt]; exact hr0.1, hr0.2⟩ hEl (by have := hr0.lt; omega)
              ((qPost_ok _ _).z (fun _ _ => False) _ _ (Hy.out.zero k _ (Nat.le_refl _) hqk) (KeptC.of_below HA.out) (fun _ _ _ => id))
              (fun p x => by have a1 := (qPost_S x).1; have a2 := HRB.out; omega)
              (fun p x => by have a1 := (qPost_S x).1; have a2 := HNW.out; omega)
              (fun c p x => by have a1 := (qPost_S x).1; have a2 := HNW.out; omega)
            have HSZ : Hid (W.heap.size ≤ (wr.alloc (.cells #[(Fd.sub .post nb (k * 2)).val] 20)).heap.size) := by unfold Hid; omega
            unfold rdV Fd.val at hn0
            simp only [List.length_cons, List.length_nil, Nat.zero_add] at hn0
            unfold Fd.val at HA HSZ
            unfold St.ty at hn0 HA HSZ
            simp only at hn0 HA HSZ
            have HQ0 := hidden hqk
            have HD0 := hidden hd0
            have HH0 := hidden hh0
            clear hqk hd0 hr0 hh0 hsz hlow hEl
            cases hq : (qPost nb (k * 2)).D t0.data.toList with
            | none =>
              rw [hq] at hn0
              have HN2 := hidden hn0
              have HQ := hidden hq
              clear hn0 hq
              go_wp2_with (go_at_call 43; refine (HN2.out).mono ?_; rintro e w2 ⟨hk2, t2, u, rfl⟩)
              refine ⟨rfl, ?_⟩
              have hx := Hy.out.panic (v := u) (ty := t2) HQ0.out HD0.out HQ.out ((KeptC.of_below HA.out).trans hk2 (fun _ _ _ x => x))
              rw [HR.out] at hx
              rw [HDD.out]
              exact list_end_Posts hnm h0 hbR HNW.out.2.2 HKW.out HCW.out HNW.out.1 HNW.out.2.1 hx
            | some p1 =>
              obtain ⟨a1, r1⟩ := p1
              rw [hq] at hn0
              have HN2 := hidden hn0
              have HQ := hidden hq
              clear hn0 hq
              go_wp2_with (go_at_call 43; refine (HN2.out).mono ?_; rintro e w2 ⟨hk2, rfl, ⟨t2, ht2, hr2⟩, hhf⟩; have HHf := hidden hhf; clear hhf)
              go_roundw
              case rel => exact ⟨k + 1, by go_num, hlt, hidden (Hy.out.step HQ0.out HD0.out HH0.out HQ.out ht2 hr2 HSZ.out HHf.out ((KeptC.of_below HA.out).trans hk2 (fun _ _ _ x => x)))⟩
              case measure => simp [intOf]; omega
          · obtain rfl : k = n := by omega
            go_wp2
            go_end0
            have he : Ry W wr R t.data.toList ((List.range k).map fun i => qPost nb (i * 2)) ((List.range k).map fun i => qPost nb (i * 2)).length := by rw [(HQS.out nb).1]; exact Hy.out
            have hx := he.end_
            rw [HR.out] at hx
            rw [HDD.out]
            exact list_end_Posts hnm h0 hbR HNW.out.2.2 HKW.out HCW.out HNW.out.1 HNW.out.2.1 hx

end Go.Proofs.Ytnfjfhjhofaodaa
