/-
  FromAsk.
-/
import Derived.Test.YtgkcchbignakcaaCmAwake
import Derived.Deep.RegionHeld3
namespace Go.Proofs.Ytgkcchbignakcaa
open Go.RowKit

def ksAsk : List Cm.K := ksId ++ ksOp
def qAsk (b : Nat) : Rf := seqR [seqR (qsId b 0), seqR (qsOp (b + 1) 0)]

theorem qAsk_ok (b : Nat) : (qAsk b).Ok := seqR_ok (fun q hq => by
  simp only [List.mem_cons, List.not_mem_nil, or_false] at hq
  rcases hq with rfl | rfl
  · exact seqR_ok (qsId_ok _ _)
  · exact seqR_ok (qsOp_ok _ _))
theorem qAsk_S {b c p : Nat} (h : (qAsk b).S c p) : c = b ∨ c = b + 1 := by
  obtain ⟨q, hq, hs⟩ := h
  simp only [List.mem_cons, List.not_mem_nil, or_false] at hq
  rcases hq with rfl | rfl
  · exact .inl (qId_S hs).1
  · exact .inr (qOp_S hs).1
theorem walkAsk_r (b : Nat) : RWalkC [.sub .id b 0, .sub .op (b + 1) 0] (qAsk b) := by
  refine walk_r rfl ?_ ?_ ?_ (by simp)
  · intro k f q h1 h2
    match k, h1, h2 with
    | 0, h1, h2 => simp at h1 h2; subst h1 h2; exact walkId_r b 0
    | 1, h1, h2 => simp at h1 h2; subst h1 h2; exact walkOp_r (b + 1) 0
  · intro q hq
    simp only [List.mem_cons, List.not_mem_nil, or_false] at hq
    rcases hq with rfl | rfl
    · exact seqR_ok (qsId_ok _ _)
    · exact seqR_ok (qsOp_ok _ _)
  · intro i j q r hij h1 h2 c p x y
    have hi : i < 2 := (List.getElem?_eq_some_iff.1 h1).1
    have hj : j < 2 := (List.getElem?_eq_some_iff.1 h2).1
    have : (i = 0 ∧ j = 1) ∨ (i = 1 ∧ j = 0) := by omega
    rcases this with ⟨rfl, rfl⟩ | ⟨rfl, rfl⟩
    · simp at h1 h2; subst h1 h2
      have a1 := (qId_S x).1
      have a2 := (qOp_S y).1
      omega
    · simp at h1 h2; subst h1 h2
      have a1 := (qOp_S x).1
      have a2 := (qId_S y).1
      omega
theorem qAsk_D (b : Nat) : (qAsk b).D = Cm.dec ksAsk := dseq_dec2 (kss := [ksId, ksOp]) ⟨qId_D _ _, qOp_D _ _, trivial⟩
theorem hAsk {N : Nat} {w : World} {b : Nat} {vs : List (Cm.K × Cm.V)} (h : (qAsk b).H N w vs) : ∃ (i : IdD) (x : OpD), vs = i.pss.flatten ++ x.pss.flatten ∧ i.at w b 0 ∧ x.at w (b + 1) 0 := by
  obtain ⟨_, _, rfl, h1, _, _, rfl, h2, rfl⟩ := h
  obtain ⟨i, rfl, hi⟩ := hId h1
  obtain ⟨x, rfl, hx⟩ := hOp h2
  exact ⟨i, x, by rw [List.append_nil], hi, hx⟩

theorem IdD.one (x : IdD) : x.cells.toArray.all (·.oneCell') = true := all_oneCell_toArray (fun v hv => by
  simp only [IdD.cells, List.mem_cons, List.not_mem_nil, or_false] at hv
  rcases hv with rfl | rfl <;> rfl)
theorem OpD.one (x : OpD) : x.cells.toArray.all (·.oneCell') = true := all_oneCell_toArray (fun v hv => by
  simp only [OpD.cells, List.mem_cons, List.not_mem_nil, or_false] at hv
  rcases hv with rfl | rfl | rfl | rfl | rfl | rfl | rfl | rfl | rfl <;> rfl)

theorem IdD.range {w : World} {b : Nat} (x : IdD) (h : x.at w b 0) : w.rangeAt b 0 x.cells := by
  obtain ⟨c0, c1⟩ := h
  intro j v hj
  match j, hj with
  | 0, hj => simp [IdD.cells] at hj; subst hj; exact c0
  | 1, hj => simp [IdD.cells] at hj; subst hj; exact c1
  | j + 2, hj => simp [IdD.cells] at hj
theorem OpD.range {w : World} {b : Nat} (x : OpD) (h : x.at w b 0) : w.rangeAt b 0 x.cells := by
  obtain ⟨c0, c1, c2, c3, c4, c5, c6, c7, c8⟩ := h
  intro j v hj
  match j, hj with
  | 0, hj => simp [OpD.cells] at hj; subst hj; exact c0
  | 1, hj => simp [OpD.cells] at hj; subst hj; exact c1
  | 2, hj => simp [OpD.cells] at hj; subst hj; exact c2
  | 3, hj => simp [OpD.cells] at hj; subst hj; exact c3
  | 4, hj => simp [OpD.cells] at hj; subst hj; exact c4
  | 5, hj => simp [OpD.cells] at hj; subst hj; exact c5
  | 6, hj => simp [OpD.cells] at hj; subst hj; exact c6
  | 7, hj => simp [OpD.cells] at hj; subst hj; exact c7
  | 8, hj => simp [OpD.cells] at hj; subst hj; exact c8
  | j + 9, hj => simp [OpD.cells] at hj

/-- What FromAsk answers. -/
def AskO (s : ByteArray) (e : Ending) : Prop := match takeX 81 (Cm.dec ksAsk) s.data.toList with
  | some vs => ∃ (i : IdD) (x : OpD), vs = i.pss.flatten ++ x.pss.flatten ∧ e = .returned (.tuple #[.agg i.cells.toArray, .agg x.cells.toArray, .int .i64 0])
  | none => e = .returned (.tuple #[.agg zId.cells.toArray, .agg zOp.cells.toArray, .int .i64 140])

theorem Ask_start (s : ByteArray) (hs : s.size ≤ 140737488351232) (w : World) :
    Calls Try.prog 36 #[.string s, .string ⟨#[81]⟩, .slice (some ⟨w.heap.size + 4, 0, none⟩) 2 2] (((((w.alloc (.cells zId.cells.toArray 23)).alloc (.cells zOp.cells.toArray 25)).alloc (.cells zId.cells.toArray 23)).alloc (.cells zOp.cells.toArray 25)).alloc (.cells #[.iface 72 (.pointer (some ⟨w.heap.size + 2, 0, none⟩)), .iface 73 (.pointer (some ⟨w.heap.size + 3, 0, none⟩))] 20))
      fun e w' => Below w.heap.size w w' ∧ w'.heap[w.heap.size]? = some (.cells zId.cells.toArray 23 (0, 0)) ∧ w'.heap[w.heap.size + 1]? = some (.cells zOp.cells.toArray 25 (0, 0)) ∧ match takeX 81 (Cm.dec ksAsk) s.data.toList with
        | some vs => e = .returned (.int .i64 0) ∧ ∃ (i : IdD) (x : OpD), vs = i.pss.flatten ++ x.pss.flatten ∧ i.at w' (w.heap.size + 2) 0 ∧ x.at w' (w.heap.size + 3) 0
        | none => e = .returned (.int .i64 140) := by
  obtain ⟨u0, hu0⟩ : ∃ u0, u0 = w.alloc (.cells zId.cells.toArray 23) := ⟨_, rfl⟩
  have s0 : u0.heap.size = w.heap.size + 1 := by rw [hu0]; simp
  have a0 : u0.heap[w.heap.size]? = some (.cells zId.cells.toArray 23 (0, 0)) := by rw [hu0]; exact heap_alloc_new _ _
  obtain ⟨u1, hu1⟩ : ∃ u1, u1 = u0.alloc (.cells zOp.cells.toArray 25) := ⟨_, rfl⟩
  have s1 : u1.heap.size = w.heap.size + 2 := by rw [hu1]; simp [s0]
  have a1 : u1.heap[w.heap.size + 1]? = some (.cells zOp.cells.toArray 25 (0, 0)) := by rw [hu1, ← s0]; exact heap_alloc_new _ _
  obtain ⟨u2, hu2⟩ : ∃ u2, u2 = u1.alloc (.cells zId.cells.toArray 23) := ⟨_, rfl⟩
  have s2 : u2.heap.size = w.heap.size + 3 := by rw [hu2]; simp [s1]
  have a2 : At u2 (w.heap.size + 2) 0 zId.cells := At.of_block (t := 23) (by rw [hu2, ← s1]; exact heap_alloc_new _ _)
  obtain ⟨u3, hu3⟩ : ∃ u3, u3 = u2.alloc (.cells zOp.cells.toArray 25) := ⟨_, rfl⟩
  have s3 : u3.heap.size = w.heap.size + 4 := by rw [hu3]; simp [s2]
  have a3 : At u3 (w.heap.size + 2 + 1) 0 zOp.cells := At.of_block (t := 25) (by rw [hu3, show w.heap.size + 2 + 1 = w.heap.size + 3 from rfl, ← s2]; exact heap_alloc_new _ _)
  obtain ⟨v, hv⟩ : ∃ v, v = u3.alloc (.cells #[(Fd.sub .id (w.heap.size + 2) 0).val, (Fd.sub .op (w.heap.size + 2 + 1) 0).val] 20) := ⟨_, rfl⟩
  have s4 : v.heap.size = w.heap.size + 5 := by rw [hv]; simp [s3]
  have b1 : Below u0.heap.size u0 v := by rw [hv, hu3, hu2, hu1]; exact (((alloc_below u0 _).alloc (by simp) _).alloc (by simp; omega) _).alloc (by simp; omega) _
  have b2 : Below u1.heap.size u1 v := by rw [hv, hu3, hu2]; exact ((alloc_below u1 _).alloc (by simp) _).alloc (by simp; omega) _
  have b3 : Below u2.heap.size u2 v := by rw [hv, hu3]; exact (alloc_below u2 _).alloc (by simp) _
  have b4 : Below u3.heap.size u3 v := by rw [hv]; exact alloc_below u3 _
  have hE : Elems v (w.heap.size + 4) [.sub .id (w.heap.size + 2) 0, .sub .op (w.heap.size + 2 + 1) 0] := by rw [hv, ← s3]; exact heap_alloc_new _ _
  have hb : Below w.heap.size w v := by
    have b0 : Below w.heap.size w u0 := by rw [hu0]; exact alloc_below w _
    exact b0.trans ⟨b1.os, b1.tape, b1.output, b1.size, fun k hk => b1.block k (by omega)⟩
  have c0 : v.heap[w.heap.size]? = some (.cells zId.cells.toArray 23 (0, 0)) := by rw [b1.block _ (by omega)]; exact a0
  have c1 : v.heap[w.heap.size + 1]? = some (.cells zOp.cells.toArray 25 (0, 0)) := by rw [b2.block _ (by omega)]; exact a1
  have c2 := a2.below b3
  have c3 := a3.below b4
  have hZ : (qAsk (w.heap.size + 2)).Z v := by
    intro q hq
    simp only [List.mem_cons, List.not_mem_nil, or_false] at hq
    rcases hq with rfl | rfl
    · exact qId_Z zId c2
    · exact qOp_Z zOp c3
  have ht := take_c 81 s hs (qAsk_ok _) (walkAsk_r (w.heap.size + 2)) hE hZ (fun p x => by have := qAsk_S x; omega) (fun c p x => by have := qAsk_S x; omega)
  have e1 : ((((w.alloc (.cells zId.cells.toArray 23)).alloc (.cells zOp.cells.toArray 25)).alloc (.cells zId.cells.toArray 23)).alloc (.cells zOp.cells.toArray 25)).alloc (.cells #[.iface 72 (.pointer (some ⟨w.heap.size + 2, 0, none⟩)), .iface 73 (.pointer (some ⟨w.heap.size + 3, 0, none⟩))] 20) = v := by rw [hv, hu3, hu2, hu1, hu0]; rfl
  rw [e1]
  refine Calls.mono ht ?_
  rintro e w' ⟨hk, hx⟩
  refine ⟨hb.trans ⟨hk.os, hk.tape, hk.output, hk.size, fun i hi => hk.block i (by omega) (fun p x => by have := qAsk_S x; omega)⟩, by rw [hk.block _ (by omega) (fun p x => by have := qAsk_S x; omega)]; exact c0, by rw [hk.block _ (by omega) (fun p x => by have := qAsk_S x; omega)]; exact c1, ?_⟩
  rw [qAsk_D] at hx
  cases hq : takeX 81 (Cm.dec ksAsk) s.data.toList with
  | none => rw [hq] at hx; exact hx
  | some vs =>
    rw [hq] at hx
    exact ⟨hx.1, hAsk hx.2⟩

theorem results_ask (fn : Func) (hfn : fn.results = #[.cell 2 23, .cell 3 25, .tmp 4]) (tmps : Array Value) (w : World) (g g2 : Nat) (cs ds : Array Value) (e : Value) (hp : tmps.getD 2 undef = .pointer (some ⟨g, 0, none⟩)) (hp2 : tmps.getD 3 undef = .pointer (some ⟨g2, 0, none⟩)) (he : tmps.getD 4 undef = e) (hg : w.heap[g]? = some (.cells cs 23 (0, 0))) (hg2 : w.heap[g2]? = some (.cells ds 25 (0, 0))) (hs : cs.size = 2) (hs2 : ds.size = 9) :
    (results fn tmps).run Try.prog w = .ok (.tuple #[.agg cs, .agg ds, e]) w := by
  have hp' : tmps[2]?.getD undef = .pointer (some ⟨g, 0, none⟩) := by simpa using hp
  have hp2' : tmps[3]?.getD undef = .pointer (some ⟨g2, 0, none⟩) := by simpa using hp2
  have he' : tmps[4]?.getD undef = e := by simpa using he
  have hi : (Try.prog.info? 23).map (·.size) = some cs.size := by rw [hs]; kernel_rfl
  have hi2 : (Try.prog.info? 25).map (·.size) = some ds.size := by rw [hs2]; kernel_rfl
  simp [results, hfn, hp', hp2', he', asAddr, run_loadVar_row w g 23 23 cs (0, 0) _ hg Try.underlying23 rfl hi, run_loadVar_row w g2 25 25 ds (0, 0) _ hg2 Try.underlying25 rfl hi2]

theorem setRow_other_heap (w : World) {b c : Nat} (cs : Array Value) (h : c ≠ b) : (w.setRow b cs).heap[c]? = w.heap[c]? := setRow_other w b c cs h
theorem below_setRow {w w' : World} {b : Nat} {cs : Array Value} (h : Below w.heap.size w w') (hb : w.heap.size ≤ b) : Below w.heap.size w (w'.setRow b cs) :=
  ⟨h.os, h.tape, h.output, by have := h.size; simpa [World.setRow] using this, fun k hk => (setRow_other _ _ _ _ (by omega)).trans (h.block k hk)⟩

set_option maxHeartbeats 4000000 in
set_option maxRecDepth 100000 in
theorem FromAsk_c (s : ByteArray) (hs : s.size ≤ 140737488351232) (w : World) : Calls Try.prog 19 #[.string s] w fun e w' => AskO s e ∧ Below w.heap.size w w' := by
  have hp := Ask_start s hs w
  unfold AskO
  cases hq : takeX 81 (Cm.dec ksAsk) s.data.toList with
  | none =>
    rw [hq] at hp
    have HP := hidden hp
    clear hp hq hs
    have h1 := zId.one
    have h2 := zOp.one
    have hi : (Try.prog.info? 23).map (·.size) = some zId.cells.toArray.size := by
      have h0 : (Try.prog.info? 23).map (·.size) = some 2 := by kernel_rfl
      exact h0
    have hi2 : (Try.prog.info? 25).map (·.size) = some zOp.cells.toArray.size := by
      have h0 : (Try.prog.info? 25).map (·.size) = some 9 := by kernel_rfl
      exact h0
    have HR : Hid (∀ (fn : Func) (_ : fn.results = #[.cell 2 23, .cell 3 25, .tmp 4]) (tmps : Array Value) (w' : World), tmps.getD 2 undef = .pointer (some ⟨w.heap.size, 0, none⟩) → tmps.getD 3 undef = .pointer (some ⟨w.heap.size + 1, 0, none⟩) → tmps.getD 4 undef = .int .i64 140 → w'.heap[w.heap.size]? = some (.cells zId.cells.toArray 23 (0, 0)) → w'.heap[w.heap.size + 1]? = some (.cells zOp.cells.toArray 25 (0, 0)) → (results fn tmps).run Try.prog w' = .ok (.tuple #[.agg zId.cells.toArray, .agg zOp.cells.toArray, .int .i64 140]) w') := fun fn hf tmps w' a b c d e => results_ask fn hf tmps w' _ _ _ _ _ a b c d e rfl rfl
    have HSW := hidden (fun (w' : World) (h : w'.heap[w.heap.size]? = some (.cells zId.cells.toArray 23 (0, 0))) => setRow_same_heap h)
    have HSW2 := hidden (fun (w' : World) (h : w'.heap[w.heap.size + 1]? = some (.cells zOp.cells.toArray 25 (0, 0))) => setRow_same_heap h)
    simp only [zId, zOp, IdD.cells, OpD.cells] at HP HR HSW HSW2 h1 h2 hi hi2 ⊢
    go_enter Try.func19, Try.ntmps19
    go_wp2_with (first
      | (go_at_call 36; refine (HP.out).mono ?_; rintro e w1 ⟨hb1, hat, hat2, rfl⟩; have HB := hidden hb1; have HAT := hidden hat; have HAT2 := hidden hat2; clear hb1 hat hat2)
      | (refine wpList_store_row rfl 23 (.tmp 2) (.tmp 15) rfl w.heap.size _ rfl rfl 23 _ HAT.out hi rfl h1 ?_; rw [HSW.out _ HAT.out])
      | (refine wpList_store_row rfl 25 (.tmp 3) (.tmp 16) rfl (w.heap.size + 1) _ rfl rfl 25 _ HAT2.out hi2 rfl h2 ?_; rw [HSW2.out _ HAT2.out]))
    exact bodyPost_ret (HR.out _ Try.results19 _ _ rfl rfl rfl HAT.out HAT2.out) rfl ⟨rfl, HB.out⟩
  | some vs =>
    rw [hq] at hp
    have HP := hidden hp
    clear hp hq hs
    have hi : ∀ i : IdD, (Try.prog.info? 23).map (·.size) = some i.cells.toArray.size := fun i => by
      have h0 : (Try.prog.info? 23).map (·.size) = some 2 := by kernel_rfl
      exact h0
    have hi2 : ∀ x : OpD, (Try.prog.info? 25).map (·.size) = some x.cells.toArray.size := fun x => by
      have h0 : (Try.prog.info? 25).map (·.size) = some 9 := by kernel_rfl
      exact h0
    have HR : Hid (∀ (i : IdD) (x : OpD) (fn : Func) (_ : fn.results = #[.cell 2 23, .cell 3 25, .tmp 4]) (tmps : Array Value) (w' : World), tmps.getD 2 undef = .pointer (some ⟨w.heap.size, 0, none⟩) → tmps.getD 3 undef = .pointer (some ⟨w.heap.size + 1, 0, none⟩) → tmps.getD 4 undef = .int .i64 0 → w'.heap[w.heap.size]? = some (.cells i.cells.toArray 23 (0, 0)) → w'.heap[w.heap.size + 1]? = some (.cells x.cells.toArray 25 (0, 0)) → (results fn tmps).run Try.prog w' = .ok (.tuple #[.agg i.cells.toArray, .agg x.cells.toArray, .int .i64 0]) w') := fun i x fn hf tmps w' a b c d e => results_ask fn hf tmps w' _ _ _ _ _ a b c d e rfl rfl
    have HW : Hid (∀ (w1 : World) (i : IdD) (x : OpD), Below w.heap.size w w1 → w1.heap[w.heap.size]? = some (.cells zId.cells.toArray 23 (0, 0)) → w1.heap[w.heap.size + 1]? = some (.cells zOp.cells.toArray 25 (0, 0)) → i.at w1 (w.heap.size + 2) 0 → x.at w1 (w.heap.size + 3) 0 →
        (w1.drew.rangeAt (w.heap.size + 2) 0 i.cells ∧ w1.drew.rangeAt (w.heap.size + 3) 0 x.cells) ∧
        ((w1.drew.setRow w.heap.size i.cells.toArray).rangeAt (w.heap.size + 2) 0 i.cells ∧ (w1.drew.setRow w.heap.size i.cells.toArray).rangeAt (w.heap.size + 3) 0 x.cells) ∧ (w1.drew.setRow w.heap.size i.cells.toArray).heap[w.heap.size + 1]? = some (.cells zOp.cells.toArray 25 (0, 0)) ∧
        (((w1.drew.setRow w.heap.size i.cells.toArray).setRow (w.heap.size + 1) x.cells.toArray).rangeAt (w.heap.size + 2) 0 i.cells ∧ ((w1.drew.setRow w.heap.size i.cells.toArray).setRow (w.heap.size + 1) x.cells.toArray).rangeAt (w.heap.size + 3) 0 x.cells) ∧
        ((w1.drew.setRow w.heap.size i.cells.toArray).setRow (w.heap.size + 1) x.cells.toArray).heap[w.heap.size]? = some (.cells i.cells.toArray 23 (0, 0)) ∧ ((w1.drew.setRow w.heap.size i.cells.toArray).setRow (w.heap.size + 1) x.cells.toArray).heap[w.heap.size + 1]? = some (.cells x.cells.toArray 25 (0, 0)) ∧ Below w.heap.size w ((w1.drew.setRow w.heap.size i.cells.toArray).setRow (w.heap.size + 1) x.cells.toArray)) := by
      intro w1 i x hb h0 h1 h2 h3
      have r0 : w1.drew.rangeAt (w.heap.size + 2) 0 i.cells := i.range h2
      have r1 : w1.drew.rangeAt (w.heap.size + 3) 0 x.cells := x.range h3
      have k : ∀ (Z : World) (c b : Nat) (cs : Array Value) (xs : List Value), c ≠ b → Z.rangeAt c 0 xs → (Z.setRow b cs).rangeAt c 0 xs := fun Z c b cs xs hn h j v hj => by
        rw [World.cell?_of_block (a := ⟨c, 0 + j, none⟩) (setRow_other Z b c cs hn)]
        exact h j v hj
      have s0 : (w1.drew.setRow w.heap.size i.cells.toArray).heap[w.heap.size]? = some (.cells i.cells.toArray 23 (0, 0)) := setRow_heap w1.drew w.heap.size _ i.cells.toArray 23 (0, 0) h0
      have s1 : (w1.drew.setRow w.heap.size i.cells.toArray).heap[w.heap.size + 1]? = some (.cells zOp.cells.toArray 25 (0, 0)) := (setRow_other _ _ _ _ (by omega)).trans h1
      refine ⟨⟨r0, r1⟩, ⟨k _ _ _ _ _ (by omega) r0, k _ _ _ _ _ (by omega) r1⟩, s1, ⟨k _ _ _ _ _ (by omega) (k _ _ _ _ _ (by omega) r0), k _ _ _ _ _ (by omega) (k _ _ _ _ _ (by omega) r1)⟩, (setRow_other _ _ _ _ (by omega)).trans s0, setRow_heap _ _ _ x.cells.toArray 25 (0, 0) s1, below_setRow (below_setRow hb.drew (Nat.le_refl _)) (by omega)⟩
    have hzi : zId.cells.toArray = #[.int .i64 0, .int .i64 0] := rfl
    have hzo : zOp.cells.toArray = #[.int .i64 0, .string ⟨#[]⟩, .string ⟨#[]⟩, .string ⟨#[]⟩, .string ⟨#[]⟩, .string ⟨#[]⟩, .string ⟨#[]⟩, .int .i64 0, .int .i64 0] := rfl
    rw [hzi, hzo] at HP HW
    clear hzi hzo
    go_enter Try.func19, Try.ntmps19
    go_wp2_with (go_at_call 36; refine (HP.out).mono ?_; rintro e w1 ⟨hb1, hat, hat2, rfl, i, x, hvs, hi0, hx0⟩; have HV := hidden hvs; obtain ⟨g1, g2, g3, g4, g5, g6, g7⟩ := HW.out w1 i x hb1 hat hat2 hi0 hx0; have G1 := hidden g1; have G2 := hidden g2; have G3 := hidden g3; have G4 := hidden g4; have G5 := hidden g5; have G6 := hidden g6; have G7 := hidden g7; have HAT := hidden hat; have I1 := hidden i.one; have I2 := hidden x.one; clear hb1 hat hat2 hvs hi0 hx0 g1 g2 g3 g4 g5 g6 g7)
    refine wp_region_held_drew (S := fun X => X.rangeAt (w.heap.size + 2) 0 i.cells ∧ X.rangeAt (w.heap.size + 3) 0 x.cells) (by kernel_rfl) G1.out (fun hHeld => ?_)
    refine take12 (i := 0) (d := 18) (v := .agg i.cells.toArray) rfl rfl (by kernel_rfl) (by kernel_rfl) (by kernel_rfl) (fun _ _ _ h => h) (yieldsIf_load_mid (by rfl) 23 (.tmp 5) rfl (w.heap.size + 2) 0 rfl i.cells _ (fun _ h => h.1) Try.underlying23 rfl (hi i)) G1.out ?_
    simp only [Act.put, List.setIfInBounds_toArray, List.set_cons_zero, List.set_cons_succ]
    refine take12 (i := 1) (d := 19) (v := .agg x.cells.toArray) rfl rfl (by kernel_rfl) (by kernel_rfl) (by kernel_rfl) (fun _ _ _ h => h) (yieldsIf_load_mid (by rfl) 25 (.tmp 6) rfl (w.heap.size + 3) 0 rfl x.cells _ (fun _ h => h.2) Try.underlying25 rfl (hi2 x)) G1.out ?_
    simp only [Act.put, List.setIfInBounds_toArray, List.set_cons_zero, List.set_cons_succ]
    refine wpAnyH_ready (rs := [2]) (by kernel_rfl) (by simp) ?_
    refine AllReadyH.cons rfl (fun K hK => ?_) AllReadyH.nil
    rw [if_pos (by rfl)]
    refine wp_store_row 23 (.tmp 2) (.tmp 18) rfl w.heap.size i.cells.toArray rfl rfl 23 _ HAT.out (hi i) rfl I1.out ?_
    refine hK.out _ _ G2.out (fun hHeld => ?_)
    clear hK K
    try simp only [Act.put, List.setIfInBounds_toArray]
    refine wpAnyH_ready (rs := [3]) (by kernel_rfl) (by simp) ?_
    refine AllReadyH.cons rfl (fun K hK => ?_) AllReadyH.nil
    rw [if_pos (by rfl)]
    refine wp_store_row 25 (.tmp 3) (.tmp 19) rfl (w.heap.size + 1) x.cells.toArray rfl rfl 25 _ G3.out (hi2 x) rfl I2.out ?_
    refine hK.out _ _ G4.out (fun hHeld => ?_)
    clear hK K
    try simp only [Act.put]
    refine take12 (i := 4) (d := 4) (v := .int .i64 0) rfl rfl (by kernel_rfl) (by kernel_rfl) (by kernel_rfl) (fun _ _ _ h => h) (Or.inl ⟨by rfl, ?_⟩) (by assumption) ?_
    · intro X hSw
      go_simp
    simp only [Act.put]
    refine wpAnyH_done (by kernel_rfl) ?_ _
    go_wp2
    exact bodyPost_ret (HR.out i x _ Try.results19 _ _ rfl rfl rfl G5.out G6.out) rfl ⟨⟨i, x, HV.out, rfl⟩, G7.out⟩

end Go.Proofs.Ytgkcchbignakcaa
