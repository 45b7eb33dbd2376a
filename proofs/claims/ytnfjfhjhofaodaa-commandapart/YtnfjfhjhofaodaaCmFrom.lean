/-
  From and FromAsk.
-/
import Derived.Test.YtnfjfhjhofaodaaCmRSets
namespace Go.Proofs.Ytnfjfhjhofaodaa
open Go.RowKit

theorem At.kept {w w' : World} {b o : Nat} {xs : List Value} (h : At w b o xs) {S : Nat → Nat → Prop} (hk : KeptC S w w') (hn : ∀ p, ¬ S b p) : At w' b o xs := fun i x hx => by
  obtain ⟨h1, h2⟩ := h i x hx
  have hl : b < w.heap.size := World.block_lt_of_cell? _ _ h1
  exact ⟨by rw [hk.cell b _ hl (hn _)]; exact h1, by rw [hk.frozen b _ hl]; exact h2⟩

theorem zNum {w : World} {b o k : Nat} {xs : List Value} {v : Int} (h : At w b o xs) (hi : xs[k]? = some (.int .i64 v)) : (qNum b (o + k)).Z w := ⟨⟨v, (h k _ hi).1⟩, (h k _ hi).2⟩
theorem zStr {w : World} {b o k : Nat} {xs : List Value} {x : Value} (h : At w b o xs) (hi : xs[k]? = some x) : (qStr b (o + k)).Z w := ⟨⟨x, (h k _ hi).1⟩, (h k _ hi).2⟩
theorem zBool {w : World} {b o k : Nat} {xs : List Value} (h : At w b o xs) (hi : xs[k]? = some (.bool false)) : (qBool b (o + k)).Z w := ⟨(h k _ hi).1, (h k _ hi).2⟩

def zId : IdD := ⟨0, 0⟩
def zOp : OpD := ⟨0, ⟨#[]⟩, ⟨#[]⟩, ⟨#[]⟩, ⟨#[]⟩, ⟨#[]⟩, ⟨#[]⟩, 0, 0⟩
def zCmd : CmdD := ⟨0, zId, zOp, 0, 0, 0, 0, 0, false, 0, ⟨#[]⟩⟩

theorem qId_Z {w : World} {b o : Nat} (x : IdD) (h : At w b o x.cells) : (seqR (qsId b o)).Z w := by
  intro q hq
  simp only [qsId, List.mem_cons, List.not_mem_nil, or_false] at hq
  rcases hq with rfl | rfl
  · exact zNum (k := 0) h rfl
  · exact zNum (k := 1) h rfl
theorem qOp_Z {w : World} {b o : Nat} (x : OpD) (h : At w b o x.cells) : (seqR (qsOp b o)).Z w := by
  intro q hq
  simp only [qsOp, List.mem_cons, List.not_mem_nil, or_false] at hq
  rcases hq with rfl | rfl | rfl | rfl | rfl | rfl | rfl | rfl | rfl
  · exact zNum (k := 0) h rfl
  · exact zStr (k := 1) h rfl
  · exact zStr (k := 2) h rfl
  · exact zStr (k := 3) h rfl
  · exact zStr (k := 4) h rfl
  · exact zStr (k := 5) h rfl
  · exact zStr (k := 6) h rfl
  · exact zNum (k := 7) h rfl
  · exact zNum (k := 8) h rfl
theorem At.cmdId {w : World} {b o : Nat} {x : CmdD} (h : At w b o x.cells) : At w b (o + 1) x.id.cells := h.sub 1 (fun i y hy => by
  match i, hy with
  | 0, hy => exact hy
  | 1, hy => exact hy)
theorem At.cmdOp {w : World} {b o : Nat} {x : CmdD} (h : At w b o x.cells) : At w b (o + 3) x.op.cells := h.sub 3 (fun i y hy => by
  match i, hy with
  | 0, hy => exact hy
  | 1, hy => exact hy
  | 2, hy => exact hy
  | 3, hy => exact hy
  | 4, hy => exact hy
  | 5, hy => exact hy
  | 6, hy => exact hy
  | 7, hy => exact hy
  | 8, hy => exact hy)
theorem qCmd_Z {w : World} {b o : Nat} (x : CmdD) (hx : x.ok = false) (h : At w b o x.cells) : (seqR (qsCmd b o)).Z w := by
  intro q hq
  simp only [qsCmd, List.mem_cons, List.not_mem_nil, or_false] at hq
  rcases hq with rfl | rfl | rfl | rfl | rfl | rfl | rfl | rfl | rfl | rfl | rfl
  · exact zNum (k := 0) h rfl
  · exact qId_Z x.id h.cmdId
  · exact zNum (k := 12) h rfl
  · exact zNum (k := 13) h rfl
  · exact zNum (k := 14) h rfl
  · exact zNum (k := 15) h rfl
  · exact zNum (k := 16) h rfl
  · exact zBool (k := 17) h (by rw [← hx]; rfl)
  · exact zNum (k := 18) h rfl
  · exact qOp_Z x.op h.cmdOp
  · exact zStr (k := 19) h rfl

theorem takeX_enc {m : UInt8} {ks : List Cm.K} {l : List UInt8} {vs : List (Cm.K × Cm.V)} (h : takeX m (Cm.dec ks) l = some vs) : vs.map (·.1) = ks ∧ ∃ bs, Cm.enc vs = some bs ∧ l = m :: bs := by
  cases l with
  | nil => cases h
  | cons b r =>
    simp only [takeX] at h
    split at h
    · rename_i hb
      split at h
      · rename_i vs' hd
        simp only [Option.some.injEq] at h
        subst h
        obtain ⟨h1, bs, h2, h3⟩ := Cm.enc_dec _ _ _ _ hd
        exact ⟨h1, bs, h2, by rw [hb, h3, List.append_nil]⟩
      · cases h
    · cases h

theorem enc_takeX {m : UInt8} {ks : List Cm.K} {vs : List (Cm.K × Cm.V)} {bs : List UInt8} (hs : Cm.small vs) (hk : vs.map (·.1) = ks) (h : Cm.enc vs = some bs) : takeX m (Cm.dec ks) (m :: bs) = some vs := by
  have := Cm.dec_enc vs bs hs h []
  rw [hk, List.append_nil] at this
  simp only [takeX, if_true, this]

theorem CmdD.range {w : World} {b : Nat} (x : CmdD) (h : x.at w b 0) : w.rangeAt b 0 x.cells := by
  obtain ⟨c0, ⟨c1, c2⟩, ⟨c3, c4, c5, c6, c7, c8, c9, c10, c11⟩, c12, c13, c14, c15, c16, c17, c18, c19⟩ := h
  intro j v hj
  match j, hj with
  | 0, hj => simp [CmdD.cells] at hj; subst hj; exact c0
  | 1, hj => simp [CmdD.cells] at hj; subst hj; exact c1
  | 2, hj => simp [CmdD.cells] at hj; subst hj; exact c2
  | 3, hj => simp [CmdD.cells] at hj; subst hj; exact c3
  | 4, hj => simp [CmdD.cells] at hj; subst hj; exact c4
  | 5, hj => simp [CmdD.cells] at hj; subst hj; exact c5
  | 6, hj => simp [CmdD.cells] at hj; subst hj; exact c6
  | 7, hj => simp [CmdD.cells] at hj; subst hj; exact c7
  | 8, hj => simp [CmdD.cells] at hj; subst hj; exact c8
  | 9, hj => simp [CmdD.cells] at hj; subst hj; exact c9
  | 10, hj => simp [CmdD.cells] at hj; subst hj; exact c10
  | 11, hj => simp [CmdD.cells] at hj; subst hj; exact c11
  | 12, hj => simp [CmdD.cells] at hj; subst hj; exact c12
  | 13, hj => simp [CmdD.cells] at hj; subst hj; exact c13
  | 14, hj => simp [CmdD.cells] at hj; subst hj; exact c14
  | 15, hj => simp [CmdD.cells] at hj; subst hj; exact c15
  | 16, hj => simp [CmdD.cells] at hj; subst hj; exact c16
  | 17, hj => simp [CmdD.cells] at hj; subst hj; exact c17
  | 18, hj => simp [CmdD.cells] at hj; subst hj; exact c18
  | 19, hj => simp [CmdD.cells] at hj; subst hj; exact c19
  | j + 20, hj => simp [CmdD.cells] at hj

theorem setRow_same_heap {w : World} {b : Nat} {cs : Array Value} {t : TypeId} (h : w.heap[b]? = some (.cells cs t (0, 0))) : w.setRow b cs = w := by
  have e : (w.setRow b cs).heap = w.heap := by
    apply Array.ext_getElem?
    intro i
    by_cases hi : i = b
    · subst hi
      rw [setRow_heap w i cs cs t (0, 0) h, h]
    · exact setRow_other w b i cs hi
  have e2 : w.setRow b cs = { w with heap := (w.setRow b cs).heap } := rfl
  rw [e2, e]

theorem CmdD.one (x : CmdD) : x.cells.toArray.all (·.oneCell') = true := all_oneCell_toArray (fun v hv => by
  simp only [CmdD.cells, List.mem_cons, List.not_mem_nil, or_false] at hv
  rcases hv with rfl | rfl | rfl | rfl | rfl | rfl | rfl | rfl | rfl | rfl | rfl | rfl | rfl | rfl | rfl | rfl | rfl | rfl | rfl | rfl <;> rfl)

/-- A struct and a number, the struct in a variable. -/
theorem results_cmd (fn : Func) (hfn : fn.results = #[.cell 2 55, .tmp 3]) (tmps : Array Value) (w : World) (g : Nat) (cs : Array Value) (e : Value) (hp : tmps.getD 2 undef = .pointer (some ⟨g, 0, none⟩)) (he : tmps.getD 3 undef = e) (hg : w.heap[g]? = some (.cells cs 55 (0, 0))) (hs : cs.size = 20) :
    (results fn tmps).run Try.prog w = .ok (.tuple #[.agg cs, e]) w := by
  have hp' : tmps[2]?.getD undef = .pointer (some ⟨g, 0, none⟩) := by simpa using hp
  have he' : tmps[3]?.getD undef = e := by simpa using he
  have hi : (Try.prog.info? 55).map (·.size) = some cs.size := by rw [hs]; kernel_rfl
  simp [results, hfn, hp', he', asAddr, run_loadVar_row w g 55 55 cs (0, 0) _ hg Try.underlying55 rfl hi]

/-- What From answers. -/
def FromO (s : ByteArray) (e : Ending) : Prop := match takeX 67 (Cm.dec ksCmd) s.data.toList with
  | some vs => ∃ x : CmdD, vs = x.pss.flatten ∧ e = .returned (.tuple #[.agg x.cells.toArray, .int .i64 0])
  | none => e = .returned (.tuple #[.agg zCmd.cells.toArray, .int .i64 140])

theorem From_start (s : ByteArray) (hs : s.size ≤ 140737488351232) (w : World) :
    Calls Try.prog 35 #[.string s, .string ⟨#[67]⟩, .slice (some ⟨w.heap.size + 2, 0, none⟩) 1 1] (((w.alloc (.cells zCmd.cells.toArray 55)).alloc (.cells zCmd.cells.toArray 55)).alloc (.cells #[.iface 81 (.pointer (some ⟨w.heap.size + 1, 0, none⟩))] 20))
      fun e w' => Below w.heap.size w w' ∧ w'.heap[w.heap.size]? = some (.cells zCmd.cells.toArray 55 (0, 0)) ∧ w.heap.size + 1 < w'.heap.size ∧ match takeX 67 (Cm.dec ksCmd) s.data.toList with
        | some vs => e = .returned (.int .i64 0) ∧ ∃ x : CmdD, vs = x.pss.flatten ∧ w'.rangeAt (w.heap.size + 1) 0 x.cells
        | none => e = .returned (.int .i64 140) := by
  obtain ⟨u0, hu0⟩ : ∃ u0, u0 = w.alloc (.cells zCmd.cells.toArray 55) := ⟨_, rfl⟩
  have hus0 : u0.heap.size = w.heap.size + 1 := by rw [hu0]; simp
  have h0 : u0.heap[w.heap.size]? = some (.cells zCmd.cells.toArray 55 (0, 0)) := by rw [hu0]; exact heap_alloc_new _ _
  obtain ⟨u1, hu1⟩ : ∃ u1, u1 = u0.alloc (.cells zCmd.cells.toArray 55) := ⟨_, rfl⟩
  have hus1 : u1.heap.size = w.heap.size + 2 := by rw [hu1]; simp [hus0]
  have h1 : At u1 (w.heap.size + 1) 0 zCmd.cells := At.of_block (t := 55) (by rw [hu1, ← hus0]; exact heap_alloc_new _ _)
  have h01 : u1.heap[w.heap.size]? = some (.cells zCmd.cells.toArray 55 (0, 0)) := by rw [hu1, (alloc_below u0 _).block _ (by omega)]; exact h0
  obtain ⟨v, hv⟩ : ∃ v, v = u1.alloc (.cells #[(Fd.sub .cmd (w.heap.size + 1) 0).val] 20) := ⟨_, rfl⟩
  have hvs : v.heap.size = w.heap.size + 3 := by rw [hv]; simp [hus1]
  have h12 : At v (w.heap.size + 1) 0 zCmd.cells := by rw [hv]; exact h1.below (alloc_below u1 _)
  have h02 : v.heap[w.heap.size]? = some (.cells zCmd.cells.toArray 55 (0, 0)) := by rw [hv, (alloc_below u1 _).block _ (by omega)]; exact h01
  have hE : Elems v (w.heap.size + 2) [.sub .cmd (w.heap.size + 1) 0] := by rw [hv, ← hus1]; exact heap_alloc_new _ _
  have hb : Below w.heap.size w v := by rw [hv, hu1, hu0]; exact ((alloc_below w _).alloc (by simp) _).alloc (by simp; omega) _
  have hok : (seqR (qsCmd (w.heap.size + 1) 0)).Ok := seqR_ok (qsCmd_ok _ _)
  have ht := take_c 67 s hs hok (walk_one hok (walkCmd_r (w.heap.size + 1) 0)) hE (qCmd_Z zCmd rfl h12) (fun p x => by have := qCmd_S x; omega) (fun c p x => by have := qCmd_S x; omega)
  have e1 : ((w.alloc (.cells zCmd.cells.toArray 55)).alloc (.cells zCmd.cells.toArray 55)).alloc (.cells #[.iface 81 (.pointer (some ⟨w.heap.size + 1, 0, none⟩))] 20) = v := by rw [hv, hu1, hu0]; rfl
  rw [e1]
  refine Calls.mono ht ?_
  rintro e w' ⟨hk, hx⟩
  refine ⟨hb.trans ⟨hk.os, hk.tape, hk.output, hk.size, fun i hi => hk.block i (by omega) (fun p x => by have := qCmd_S x; omega)⟩, by rw [hk.block _ (by omega) (fun p x => by have := qCmd_S x; omega)]; exact h02, by have := hk.size; omega, ?_⟩
  rw [qCmd_D] at hx
  cases hq : takeX 67 (Cm.dec ksCmd) s.data.toList with
  | none => rw [hq] at hx; exact hx
  | some vs =>
    rw [hq] at hx
    obtain ⟨bs, he, -⟩ := (takeX_enc hq).2
    obtain ⟨x, hv, ha⟩ := hCmd hx.2 ⟨bs, he⟩
    exact ⟨hx.1, x, hv, x.range ha⟩

set_option maxHeartbeats 4000000 in
set_option maxRecDepth 100000 in
theorem From_c (s : ByteArray) (hs : s.size ≤ 140737488351232) (w : World) : Calls Try.prog 23 #[.string s] w fun e w' => FromO s e ∧ Below w.heap.size w w' := by
  have hp := From_start s hs w
  unfold FromO
  cases hq : takeX 67 (Cm.dec ksCmd) s.data.toList with
  | none =>
    rw [hq] at hp
    have HP := hidden hp
    clear hp hq hs
    have h1 := zCmd.one
    have hsz : zCmd.cells.toArray.size = 20 := rfl
    have hi : (Try.prog.info? 55).map (·.size) = some zCmd.cells.toArray.size := by rw [hsz]; kernel_rfl
    have HR : Hid (∀ (fn : Func) (_ : fn.results = #[.cell 2 55, .tmp 3]) (tmps : Array Value) (w' : World), tmps.getD 2 undef = .pointer (some ⟨w.heap.size, 0, none⟩) → tmps.getD 3 undef = .int .i64 140 → w'.heap[w.heap.size]? = some (.cells zCmd.cells.toArray 55 (0, 0)) → (results fn tmps).run Try.prog w' = .ok (.tuple #[.agg zCmd.cells.toArray, .int .i64 140]) w') := fun fn hf tmps w' a b c => results_cmd fn hf tmps w' _ _ _ a b c hsz
    have HSW := hidden (fun (w' : World) (h : w'.heap[w.heap.size]? = some (.cells zCmd.cells.toArray 55 (0, 0))) => setRow_same_heap h)
    simp only [zCmd, zId, zOp, CmdD.cells] at HP HR HSW h1 hi ⊢
    go_enter Try.func23, Try.ntmps23
    go_wp2_with (first
      | (go_at_call 35; refine (HP.out).mono ?_; rintro e w1 ⟨hb1, hat, hlt, rfl⟩; have HB := hidden hb1; have HAT := hidden hat; clear hb1 hat)
      | (refine wpList_store_row rfl 55 (.tmp 2) (.tmp 12) rfl w.heap.size _ rfl rfl 55 _ HAT.out hi rfl h1 ?_))
    refine bodyPost_ret (HR.out _ Try.results23 _ _ rfl rfl ?_) rfl ⟨rfl, ?_⟩
    · rw [HSW.out _ HAT.out]; exact HAT.out
    · rw [HSW.out _ HAT.out]; exact HB.out
  | some vs =>
    rw [hq] at hp
    have HP := hidden hp
    clear hp hq hs
    have hi2 : ∀ x : CmdD, (Try.prog.info? 55).map (·.size) = some x.cells.toArray.size := fun x => by
      have h0 : (Try.prog.info? 55).map (·.size) = some 20 := by kernel_rfl
      exact h0
    have hi3 : ∀ x : CmdD, (Try.prog.info? 55).map (·.size) = some x.cells.length := hi2
    have HR : Hid (∀ (x : CmdD) (fn : Func) (_ : fn.results = #[.cell 2 55, .tmp 3]) (tmps : Array Value) (w' : World), tmps.getD 2 undef = .pointer (some ⟨w.heap.size, 0, none⟩) → tmps.getD 3 undef = .int .i64 0 → w'.heap[w.heap.size]? = some (.cells x.cells.toArray 55 (0, 0)) → (results fn tmps).run Try.prog w' = .ok (.tuple #[.agg x.cells.toArray, .int .i64 0]) w') := fun x fn hf tmps w' a b c => results_cmd fn hf tmps w' _ _ _ a b c rfl
    have HH : Hid (∀ (x : CmdD) (w' : World), w'.heap[w.heap.size]? = some (.cells zCmd.cells.toArray 55 (0, 0)) → (w'.setRow w.heap.size x.cells.toArray).heap[w.heap.size]? = some (.cells x.cells.toArray 55 (0, 0))) := fun x w' h => setRow_heap w' w.heap.size _ x.cells.toArray 55 (0, 0) h
    have HSZ : Hid (∀ x : CmdD, zCmd.cells.toArray.size = x.cells.toArray.size) := fun x => rfl
    simp only [zCmd, zId, zOp] at HP HH HSZ
    have hz0 : ({ kind := 0, id := { session := 0, seq := 0 }, op := { kind := 0, space := ⟨#[]⟩, channel := ⟨#[]⟩, user := ⟨#[]⟩, text := ⟨#[]⟩, toSpace := ⟨#[]⟩, to := ⟨#[]⟩, frm := 0, most := 0 }, tx := 0, plan := 0, slot := 0, epoch := 0, group := 0, ok := false, err := 0, data := ⟨#[]⟩ } : CmdD).cells.toArray = #[.int .i64 0, .int .i64 0, .int .i64 0, .int .i64 0, .string ⟨#[]⟩, .string ⟨#[]⟩, .string ⟨#[]⟩, .string ⟨#[]⟩, .string ⟨#[]⟩, .string ⟨#[]⟩, .int .i64 0, .int .i64 0, .int .i64 0, .int .i64 0, .int .i64 0, .int .i64 0, .int .i64 0, .bool false, .int .i64 0, .string ⟨#[]⟩] := rfl
    rw [hz0] at HP HH HSZ
    clear hz0
    go_enter Try.func23, Try.ntmps23
    go_wp2_with (first
      | (go_at_call 35; refine (HP.out).mono ?_; rintro e w1 ⟨hb1, hat, hlt, rfl, x, hvs, hrg⟩; have HB := hidden hb1; have HAT := hidden hat; have HV := hidden hvs; have HG := hidden hrg; have hi4 := hi2 x; have hi5 := hi3 x; have HX1 := hidden x.one; clear hb1 hat hvs hrg hlt)
      | (refine wpList_load_mid rfl 55 (.tmp 4) rfl (w.heap.size + 1) 0 rfl x.cells _ HG.out Try.underlying55 rfl hi5 ?_)
      | (refine wpList_store_row rfl 55 (.tmp 2) (.tmp 14) rfl w.heap.size x.cells.toArray rfl rfl 55 _ HAT.out hi4 (HSZ.out x) HX1.out ?_))
    refine bodyPost_ret (HR.out x _ Try.results23 _ _ rfl rfl ?_) rfl ⟨⟨x, HV.out, rfl⟩, ?_⟩
    · exact HH.out x _ HAT.out
    · exact ⟨HB.out.os, HB.out.tape, HB.out.output, by have := HB.out.size; simpa [World.setRow] using this, fun k hk => (setRow_other _ _ _ _ (by omega)).trans (HB.out.block k hk)⟩

end Go.Proofs.Ytnfjfhjhofaodaa
