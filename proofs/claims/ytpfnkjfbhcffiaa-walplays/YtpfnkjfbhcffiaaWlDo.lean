/-
  What records do: doHard, doEntry.
-/
import Derived.Test.YtpfnkjfbhcffiaaWlFits
namespace Go.Proofs.Ytpfnkjfbhcffiaa
open Go.RowKit

/-- What a record's doing leaves: the six cells are another's; besides them the list's own block alone has turned, and what is new. -/
structure Did (w w' : World) (B o : Nat) (v : Value) (s' : W.Sv) (v' : Value) : Prop where
  os : w'.os = w.os
  tape : w'.tape = w.tape
  output : w'.output = w.output
  size : w.heap.size ≤ w'.heap.size
  block : ∀ k, k < w.heap.size → k ≠ B → rowBlk v ≠ some k → w'.heap[k]? = w.heap[k]?
  cell : ∀ p, (p < o ∨ o + 6 ≤ p) → w'.cell? ⟨B, p, none⟩ = w.cell? ⟨B, p, none⟩
  froz : ∀ p, w'.frozen? ⟨B, p, none⟩ = w.frozen? ⟨B, p, none⟩
  sv : SvC w' B o s' v'
  ent : EntV w' v' s'.ents
  loc : ∀ k, rowBlk v' = some k → rowBlk v = some k ∨ w.heap.size ≤ k

theorem grown_setD (w : World) (b o : Nat) (v : Value) : w.grownBy (w.setCell ⟨b, o, none⟩ v) (some b) :=
  ⟨rfl, rfl, rfl, by simp [World.setCell], fun k _ hk => Below.heap_setCell _ _ _ _ (fun e => hk (by rw [e]))⟩

/-- The road: w1 is w but for new blocks and the row's; w' is w1 but for cells of B. -/
theorem Did.mk' {w w1 w' : World} {B o : Nat} {s s' : W.Sv} {v v' : Value} (h : SvC w B o s v) (hv : rowBlk v ≠ some B) (h1 : w.grownBy w1 (rowBlk v)) (h2 : w1.grownBy w' (some B))
    (hent : EntV w1 v' s'.ents) (hloc : ∀ k, rowBlk v' = some k → rowBlk v = some k ∨ w.heap.size ≤ k)
    (hc : ∀ p, (p < o ∨ o + 6 ≤ p) → w'.cell? ⟨B, p, none⟩ = w1.cell? ⟨B, p, none⟩) (hf : ∀ p, w'.frozen? ⟨B, p, none⟩ = w1.frozen? ⟨B, p, none⟩)
    (k0 : w'.cell? ⟨B, o, none⟩ = some (.int .i64 s'.term)) (k1 : w'.cell? ⟨B, o + 1, none⟩ = some (.int .i64 s'.vote)) (k2 : w'.cell? ⟨B, o + 2, none⟩ = some (.int .i64 s'.base)) (k3 : w'.cell? ⟨B, o + 3, none⟩ = some (.int .i64 s'.bterm))
    (k4 : w'.cell? ⟨B, o + 4, none⟩ = some (.string s'.data)) (k5 : w'.cell? ⟨B, o + 5, none⟩ = some v') : Did w w' B o v s' v' := by
  have hB : w1.heap[B]? = w.heap[B]? := h1.block B h.lt (fun e => hv e.symm)
  have hcB : ∀ p, w1.cell? ⟨B, p, none⟩ = w.cell? ⟨B, p, none⟩ := fun p => World.cell?_of_block (a := ⟨B, p, none⟩) hB
  have hfB : ∀ p, w1.frozen? ⟨B, p, none⟩ = w.frozen? ⟨B, p, none⟩ := fun p => World.frozen?_of_block (a := ⟨B, p, none⟩) hB
  refine ⟨h2.os.trans h1.os, h2.tape.trans h1.tape, h2.output.trans h1.output, Nat.le_trans h1.size h2.size, fun k hk hkB hkr => ?_, fun p hp => (hc p hp).trans (hcB p), fun p => (hf p).trans (hfB p), ⟨k0, k1, k2, k3, k4, k5, fun j hj => by rw [hf, hfB]; exact h.fz j hj⟩, ?_, hloc⟩
  · rw [h2.block k (Nat.lt_of_lt_of_le hk h1.size) (by intro e; injection e with e; exact hkB e), h1.block k hk (fun e => hkr e.symm)]
  · refine RowV.carry hent fun k hk => h2.block k (RowV.lt hent hk) (fun e => ?_)
    injection e with e
    subst e
    rcases hloc k hk with q | q
    · exact hv q
    · have := h.lt; omega

theorem grown_alloc (w : World) (o : Obj) (row : Option Nat) : w.grownBy (w.alloc o) row := ⟨rfl, rfl, rfl, by simp, fun k hk _ => Below.heap_alloc w o k hk⟩

theorem cell_ad {w : World} {B : Nat} (h : B < w.heap.size) (o : Obj) (p : Nat) : (w.alloc o).drew.cell? ⟨B, p, none⟩ = w.cell? ⟨B, p, none⟩ := World.cell?_of_block (w' := (w.alloc o).drew) (a := ⟨B, p, none⟩) (Below.heap_alloc w o B h)
theorem froz_ad {w : World} {B : Nat} (h : B < w.heap.size) (o : Obj) (p : Nat) : (w.alloc o).drew.frozen? ⟨B, p, none⟩ = w.frozen? ⟨B, p, none⟩ := World.frozen?_of_block (w' := (w.alloc o).drew) (a := ⟨B, p, none⟩) (Below.heap_alloc w o B h)
theorem size_set (w : World) (a : Addr) (v : Value) : (w.setCell a v).heap.size = w.heap.size := by simp [World.setCell]

theorem Did.hard {w : World} {B o : Nat} {s : W.Sv} {v : Value} (h : SvC w B o s v) (he : EntV w v s.ents) (hv : rowBlk v ≠ some B) (t x : Int) (ob : Obj) :
    Did w (((w.setCell ⟨B, o, none⟩ (.int .i64 t)).setCell ⟨B, o + 1, none⟩ (.int .i64 x)).alloc ob).drew B o v { s with term := t, vote := x } v := by
  have hl : B < ((w.setCell ⟨B, o, none⟩ (.int .i64 t)).setCell ⟨B, o + 1, none⟩ (.int .i64 x)).heap.size := by rw [size_set, size_set]; exact h.lt
  have e1 : (w.setCell ⟨B, o, none⟩ (.int .i64 t)).cell? ⟨B, o + 1, none⟩ = some (.int .i64 s.vote) := by rw [cell_set _ h.c0, if_neg (by omega)]; exact h.c1
  have hc : ∀ p, (((w.setCell ⟨B, o, none⟩ (.int .i64 t)).setCell ⟨B, o + 1, none⟩ (.int .i64 x)).alloc ob).drew.cell? ⟨B, p, none⟩ = if p = o + 1 then some (.int .i64 x) else if p = o then some (.int .i64 t) else w.cell? ⟨B, p, none⟩ := by
    intro p
    rw [cell_ad hl, cell_set _ e1, cell_set _ h.c0]
  refine Did.mk' h hv (grown_refl w _) (grown_drew' (grown_trans (grown_trans (grown_set w B o _) (grown_set _ B (o + 1) _)) (grown_alloc _ ob _))) he (fun k hk => .inl hk) (fun p hp => ?_) (fun p => ?_) ?_ ?_ ?_ ?_ ?_ ?_
  · rw [hc, if_neg (by omega), if_neg (by omega)]
  · rw [froz_ad hl, World.frozen?_setCell, World.frozen?_setCell]
  · rw [hc, if_neg (by omega), if_pos rfl]
  · rw [hc, if_pos rfl]
  · rw [hc, if_neg (by omega), if_neg (by omega)]; exact h.c2
  · rw [hc, if_neg (by omega), if_neg (by omega)]; exact h.c3
  · rw [hc, if_neg (by omega), if_neg (by omega)]; exact h.c4
  · rw [hc, if_neg (by omega), if_neg (by omega)]; exact h.c5

set_option maxHeartbeats 400000 in
theorem doHard_c {w : World} {B o : Nat} {s : W.Sv} {v : Value} (h : SvC w B o s v) (he : EntV w v s.ents) (hv : rowBlk v ≠ some B) (r : W.Rec) :
    Calls Try.prog 49 #[.pointer (some ⟨B, o, none⟩), recV r] w fun e w' => e = .returned (.tuple #[]) ∧ ∃ v', Did w w' B o v (W.doHard s r) v' := by
  have hlt := h.lt
  have h0 := h.c0
  have h1 := h.c1
  have f0 : w.frozen? ⟨B, o, none⟩ = false := h.fz 0 (by omega)
  have f1 := h.fz 1 (by omega)
  have HS : Hid (SvC w B o s v) := h
  have HE : Hid (EntV w v s.ents) := he
  have HV : Hid (rowBlk v ≠ some B) := hv
  obtain ⟨g, k, i, t, vv, d⟩ := r
  unfold recV
  dsimp only
  clear h he hv
  go_enter Try.func49, Try.ntmps49
  go_wp2
  go_region
  go_wp2
  exact bodyPost_end (v := .tuple #[]) (by simp [results, Try.results49]) rfl ⟨rfl, _, Did.hard HS.out HE.out HV.out _ _ _⟩

/-- An entry behind the list. -/
theorem Did.entry {w w1 : World} {B o : Nat} {s : W.Sv} {v v' : Value} (h : SvC w B o s v) (hv : rowBlk v ≠ some B) (t : Int) (d : ByteArray) (h1 : w.grownBy w1 (rowBlk v))
    (hent : EntV w1 v' (s.ents ++ [(t, d)])) (hloc : ∀ k, rowBlk v' = some k → rowBlk v = some k ∨ w.heap.size ≤ k) : Did w (w1.setCell ⟨B, o + 5, none⟩ v') B o v { s with ents := s.ents ++ [(t, d)] } v' := by
  have hB : w1.heap[B]? = w.heap[B]? := h1.block B h.lt (fun e => hv e.symm)
  have hw := h.carry hB
  refine Did.mk' h hv h1 (grown_set w1 B (o + 5) v') hent hloc (fun p hp => ?_) (fun p => ?_) ?_ ?_ ?_ ?_ ?_ ?_
  · rw [cell_set _ hw.c5, if_neg (by omega)]
  · rw [World.frozen?_setCell]
  · rw [cell_set _ hw.c5, if_neg (by omega)]; exact hw.c0
  · rw [cell_set _ hw.c5, if_neg (by omega)]; exact hw.c1
  · rw [cell_set _ hw.c5, if_neg (by omega)]; exact hw.c2
  · rw [cell_set _ hw.c5, if_neg (by omega)]; exact hw.c3
  · rw [cell_set _ hw.c5, if_neg (by omega)]; exact hw.c4
  · rw [cell_set _ hw.c5, if_pos rfl]

theorem infoEnt : (Try.prog.info? 75).map (fun i => (i.zero, i.size, i.bytes)) = some (some (.agg #[.int .i64 0, .string ⟨#[]⟩]), 2, 24) := by kernel_rfl

theorem entryGo {w u w1 : World} {B o n c : Nat} {p : Option Addr} {s : W.Sv} {v v' : Value} (h : SvC w B o s v) (hv : rowBlk v ≠ some B) (hvf : v = .slice p n c) (hn : n = s.ents.length) (t : Int) (d : ByteArray)
    (hG : ∀ row, w.grownBy u row) (hs : w.heap.size ≤ u.heap.size) (ho : RowV w1 75 2 v' (n + 1) (entCells s.ents ++ [.int .i64 t, .string d])) (hg : u.grownBy w1 (rowBlk (.slice p n c)))
    (hl : ∀ k, rowBlk v' = some k → rowBlk (.slice p n c) = some k ∨ u.heap.size ≤ k) :
    Hid (Did w (w1.setCell ⟨B, o + 5, none⟩ v') B o v { s with ents := s.ents ++ [(t, d)] } v') ∧ w1.cell? ⟨B, o + 5, none⟩ = some (.slice p n c) ∧ w1.frozen? ⟨B, o + 5, none⟩ = false ∧ ∃ p' c', v' = .slice p' (n + 1) c' := by
  subst hvf
  have hgw := grown_trans (hG (rowBlk (.slice p n c))) hg
  have hB := hgw.block B h.lt (fun e => hv e.symm)
  refine ⟨Did.entry h hv t d hgw ?_ (fun k hk => ?_), ?_, ?_, ?_⟩
  · unfold EntV
    rw [entCells_snoc, List.length_append, ← hn]
    exact ho
  · rcases hl k hk with q | q
    · exact .inl q
    · exact .inr (by omega)
  · exact (h.carry hB).c5
  · exact (h.carry hB).fz 5 (by omega)
  · obtain ⟨p', c', hv', _⟩ := ho.form
    exact ⟨p', c', hv'⟩

set_option maxHeartbeats 800000 in
theorem doEntry_c {w : World} {B o : Nat} {s : W.Sv} {v : Value} (h : SvC w B o s v) (he : EntV w v s.ents) (hv : rowBlk v ≠ some B) (hlen : s.ents.length ≤ 1099511627776) (r : W.Rec) :
    Calls Try.prog 52 #[.pointer (some ⟨B, o, none⟩), recV r] w fun e w' => e = .returned (.tuple #[]) ∧ ∃ v', Did w w' B o v (W.doEntry s r) v' := by
  have hlt := h.lt
  have h5 := h.c5
  have f5 := h.fz 5 (by omega)
  have HS : Hid (SvC w B o s v) := h
  have HE : Hid (EntV w v s.ents) := he
  have HV : Hid (rowBlk v ≠ some B) := hv
  have HL : Hid (s.ents.length ≤ 1099511627776) := hlen
  obtain ⟨p, c, hvf, _, _⟩ := he.form
  obtain ⟨n, hn⟩ : ∃ n, n = s.ents.length := ⟨_, rfl⟩
  rw [← hn] at hvf
  have HVF : Hid (v = .slice p n c) := hvf
  rw [hvf] at h5
  obtain ⟨g, k, i, t, vv, d⟩ := r
  unfold recV
  dsimp only
  obtain ⟨W, hW⟩ : ∃ W, W = ((w.alloc (.cells #[.int .i64 g, .int .i64 k, .int .i64 i, .int .i64 t, .int .i64 vv, .string d] 37)).alloc (.cells #[.int .i64 t, .string d] 75)).drew := ⟨_, rfl⟩
  have hWo : Old w W := by
    intro q hq
    rw [hW]
    show (World.alloc (w.alloc _) _).heap[q]? = _
    rw [Below.heap_alloc _ _ _ (by simp; omega), Below.heap_alloc _ _ _ hq]
  have hWs : w.heap.size ≤ W.heap.size := by rw [hW]; simp; omega
  have HG : Hid (∀ row, w.grownBy W row) := by
    intro row
    refine ⟨?_, ?_, ?_, hWs, fun q hq _ => hWo q hq⟩ <;> rw [hW] <;> rfl
  have HR : Hid (RowV W 75 2 (.slice p n c) n (entCells s.ents)) := by
    have := hWo.ent he
    unfold EntV at this
    rw [hvf, ← hn] at this
    exact this
  have HSrc : Hid (Src Try.prog 2 43 (.slice (some ⟨w.heap.size + 1, 0, none⟩) 1 1) 1 [.int .i64 t, .string d] W) := by
    refine Src.ofSlice W Try.underlying43 _ _ _ _ rfl (fun j u hu => ?_) (fun u hu => by simp at hu; rcases hu with rfl | rfl <;> rfl)
    rw [addr_add0, hW]
    have : ((w.alloc (.cells #[.int .i64 g, .int .i64 k, .int .i64 i, .int .i64 t, .int .i64 vv, .string d] 37)).alloc (.cells #[.int .i64 t, .string d] 75)).cell? ⟨w.heap.size + 1, j, none⟩ = (#[.int .i64 t, .string d] : Array Value)[j]? := by
      have e := World.cell?_alloc_mark (w.alloc (.cells #[.int .i64 g, .int .i64 k, .int .i64 i, .int .i64 t, .int .i64 vv, .string d] 37)) #[.int .i64 t, .string d] 75 (0, 0) j
      rw [← e]
      simp
    show World.cell? _ _ = _
    rw [show ∀ a, (World.drew ((w.alloc (.cells #[.int .i64 g, .int .i64 k, .int .i64 i, .int .i64 t, .int .i64 vv, .string d] 37)).alloc (.cells #[.int .i64 t, .string d] 75))).cell? a = ((w.alloc (.cells #[.int .i64 g, .int .i64 k, .int .i64 i, .int .i64 t, .int .i64 vv, .string d] 37)).alloc (.cells #[.int .i64 t, .string d] 75)).cell? a from fun _ => rfl, this]
    rw [← hu]
    simp
  have HN : Hid (n = s.ents.length) := hn
  rw [← hn] at hlen
  have hL1 : Hid ((n + 1) * 24 ≤ 140737488355328) := by show _ ≤ _; omega
  have hL2 : Hid (n + 1 ≤ maxLen) := by unfold maxLen; show _ ≤ _; omega
  have HW : Hid (W = ((w.alloc (.cells #[.int .i64 g, .int .i64 k, .int .i64 i, .int .i64 t, .int .i64 vv, .string d] 37)).alloc (.cells #[.int .i64 t, .string d] 75)).drew) := hW
  have HWs : Hid (w.heap.size ≤ W.heap.size) := hWs
  subst hW
  clear h he hv hlen hn hvf hWo hWs HL HW
  go_enter Try.func52, Try.ntmps52
  go_wp2
  go_region_law (refine step_append_row rfl (.tmp 8) (.tmp 14) 43 43 75 rfl Try.underlying43 _ 2 24 infoEnt rfl (.slice p n c) n (entCells s.ents) (by simp [Act.eval]) HR.out _ 1 _ (by simp [Act.eval]) HSrc.out hL1.out hL2.out ?_; intro v' w1 ho hg hl; obtain ⟨H1, c1, f1, ⟨p', c', hv'⟩⟩ := entryGo HS.out HV.out HVF.out HN.out t d HG.out HWs.out ho hg hl; subst hv'; clear ho hg hl)
  all_goals (first | exact bodyPost_end (v := .tuple #[]) (by simp [results, Try.results52]) rfl ⟨rfl, _, H1.out⟩ | (go_wp2; exact bodyPost_end (v := .tuple #[]) (by simp [results, Try.results52]) rfl ⟨rfl, _, H1.out⟩))

end Go.Proofs.Ytpfnkjfbhcffiaa
