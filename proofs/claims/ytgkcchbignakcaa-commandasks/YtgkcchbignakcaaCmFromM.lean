/-
  FromMessage.
-/
import Derived.Test.YtgkcchbignakcaaCmMSets
namespace Go.Proofs.Ytgkcchbignakcaa
open Go.RowKit

/-- What is read is what would be put. -/
def DInv (D : List UInt8 → Option (List (Cm.K × Cm.V) × List UInt8)) : Prop := ∀ (l r : List UInt8) (a : List (Cm.K × Cm.V)), D l = some (a, r) → ∃ bs, Cm.enc a = some bs ∧ l = bs ++ r

theorem dInv_dec (ks : List Cm.K) : DInv (Cm.dec ks) := fun l r a h => (Cm.enc_dec ks l r a h).2
theorem dInv_list (m : Nat) (ks : List Cm.K) : DInv (dlist m ks) := by
  intro l r a h
  unfold dlist at h
  split at h
  · rename_i k c r1 h1
    split at h
    · cases h
    · rename_i b r2 h2
      simp only [Option.some.injEq, Prod.mk.injEq] at h
      obtain ⟨rfl, rfl⟩ := h
      obtain ⟨_, x, hx, rfl⟩ := Cm.enc_dec _ _ _ _ h1
      obtain ⟨_, y, hy, rfl⟩ := Cm.enc_dec _ _ _ _ h2
      refine ⟨x ++ y, ?_, by rw [List.append_assoc]⟩
      have := Cm.enc_append [(k, Cm.V.n c)] b
      rw [hx, hy] at this
      exact this
  · cases h
theorem dInv_seq : ∀ (qs : List Rf), (∀ q ∈ qs, DInv q.D) → DInv (dseq qs)
  | [], _, l, r, a, h => by
    simp only [dseq, Option.some.injEq, Prod.mk.injEq] at h
    obtain ⟨rfl, rfl⟩ := h
    exact ⟨[], rfl, rfl⟩
  | q :: qs, hq, l, r, a, h => by
    simp only [dseq] at h
    cases h1 : q.D l with
    | none => rw [h1] at h; cases h
    | some p =>
      obtain ⟨a1, r1⟩ := p
      rw [h1] at h
      simp only at h
      cases h2 : dseq qs r1 with
      | none => rw [h2] at h; cases h
      | some p2 =>
        obtain ⟨a2, r2⟩ := p2
        rw [h2] at h
        simp only [Option.some.injEq, Prod.mk.injEq] at h
        obtain ⟨rfl, rfl⟩ := h
        obtain ⟨x, hx, rfl⟩ := hq q (List.mem_cons_self ..) _ _ _ h1
        obtain ⟨y, hy, rfl⟩ := dInv_seq qs (fun q hm => hq q (List.mem_cons_of_mem _ hm)) _ _ _ h2
        refine ⟨x ++ y, ?_, by rw [List.append_assoc]⟩
        rw [Cm.enc_append, hx, hy]
theorem dMsg_inv : DInv dMsg := dInv_seq _ (fun q hq => by
  simp only [qsMsg, List.mem_cons, List.not_mem_nil, or_false] at hq
  rcases hq with rfl | rfl | rfl | rfl | rfl | rfl | rfl | rfl | rfl | rfl | rfl <;> first | exact dInv_dec _ | exact dInv_list _ _)
theorem dRep_inv : DInv dRep := dInv_seq _ (fun q hq => by
  simp only [qsRep, List.mem_cons, List.not_mem_nil, or_false] at hq
  rcases hq with rfl | rfl | rfl <;> first | exact dInv_dec _ | exact dInv_list _ _)

theorem takeX_inv {m : UInt8} {D : List UInt8 → Option (List (Cm.K × Cm.V) × List UInt8)} (hD : DInv D) {l : List UInt8} {vs : List (Cm.K × Cm.V)} (h : takeX m D l = some vs) : ∃ bs, Cm.enc vs = some bs ∧ l = m :: bs := by
  cases l with
  | nil => cases h
  | cons b r =>
    simp only [takeX] at h
    split at h
    · rename_i hb
      split at h
      · rename_i vs' hd
        simp only [Option.some.injEq] at h
        subst h
        obtain ⟨bs, h2, h3⟩ := hD _ _ _ hd
        exact ⟨bs, h2, by rw [hb, h3, List.append_nil]⟩
      · cases h
    · cases h

theorem enc_mem : ∀ (ps : List (Cm.K × Cm.V)) (bs : List UInt8), Cm.enc ps = some bs → ∀ q ∈ ps, ∃ b, Cm.enc1 q.1 q.2 = some b := by
  intro ps
  induction ps with
  | nil => intro bs _ q hq; cases hq
  | cons a r ih =>
    intro bs h q hq
    obtain ⟨k, v⟩ := a
    simp only [Cm.enc] at h
    cases h1 : Cm.enc1 k v with
    | none => rw [h1] at h; cases h
    | some x =>
      rw [h1] at h
      simp only at h
      cases h2 : Cm.enc r with
      | none => rw [h2] at h; cases h
      | some y =>
        rcases List.mem_cons.1 hq with rfl | hq
        · exact ⟨_, h1⟩
        · exact ih y h2 q hq
theorem enc_truth {ps : List (Cm.K × Cm.V)} {bs : List UInt8} (h : Cm.enc ps = some bs) : ∀ v : Int, (Cm.K.n 1, Cm.V.n v) ∈ ps → v = 0 ∨ v = 1 := by
  intro v hv
  obtain ⟨x, hx⟩ := enc_mem ps bs h _ hv
  simp only [Cm.enc1] at hx
  split at hx
  · omega
  · cases hx

def zMsg : MsgD := ⟨0, 0, 0, 0, 0, 0, 0, none, [], 0, false, ⟨#[]⟩⟩
theorem zEnts {w : World} {b o k : Nat} {xs : List Value} (h : At w b o xs) (hi : xs[k]? = some (.slice none 0 0)) : (qEnts b (o + k)).Z w := ⟨(h k _ hi).1, (h k _ hi).2⟩
theorem zPosts {w : World} {b o k : Nat} {xs : List Value} (h : At w b o xs) (hi : xs[k]? = some (.slice none 0 0)) : (qPosts b (o + k)).Z w := ⟨(h k _ hi).1, (h k _ hi).2⟩
theorem qMsg_Z {w : World} {b o : Nat} (h : At w b o zMsg.cells) : (seqR (qsMsg b o)).Z w := by
  intro q hq
  simp only [qsMsg, List.mem_cons, List.not_mem_nil, or_false] at hq
  rcases hq with rfl | rfl | rfl | rfl | rfl | rfl | rfl | rfl | rfl | rfl | rfl
  · exact zNum (k := 0) h rfl
  · exact zNum (k := 1) h rfl
  · exact zNum (k := 2) h rfl
  · exact zNum (k := 3) h rfl
  · exact zNum (k := 4) h rfl
  · exact zNum (k := 5) h rfl
  · exact zNum (k := 6) h rfl
  · exact zNum (k := 8) h rfl
  · exact zBool (k := 9) h rfl
  · exact zEnts (k := 7) h rfl
  · exact zStr (k := 10) h rfl

/-- What FromMessage answers: behind it the entries lie in a block of their own. -/
def MsgO (N : Nat) (s : ByteArray) (e : Ending) (w' : World) : Prop := match takeX 77 dMsg s.data.toList with
  | some vs => ∃ x : MsgD, vs = x.pss.flatten ∧ e = .returned (.tuple #[.agg x.cells.toArray, .int .i64 0]) ∧ EntsAt N w' x.p x.ents ∧ x.ents.length ≤ 16
  | none => e = .returned (.tuple #[.agg zMsg.cells.toArray, .int .i64 140])

theorem EntsAt.mono {N M : Nat} {w : World} {p : Option Addr} {l : List (Int × ByteArray)} (h : EntsAt N w p l) (hn : M ≤ N) : EntsAt M w p l := by
  rcases h with h | ⟨nb, h1, h2, h3, h4, h5⟩
  · exact .inl h
  · exact .inr ⟨nb, h1, h2, Nat.le_trans hn h3, h4, h5⟩

/-- A struct and a number, the struct in a variable. -/
theorem results_msg (fn : Func) (hfn : fn.results = #[.cell 2 52, .tmp 3]) (tmps : Array Value) (w : World) (g : Nat) (cs : Array Value) (e : Value) (hp : tmps.getD 2 undef = .pointer (some ⟨g, 0, none⟩)) (he : tmps.getD 3 undef = e) (hg : w.heap[g]? = some (.cells cs 52 (0, 0))) (hs : cs.size = 11) :
    (results fn tmps).run Try.prog w = .ok (.tuple #[.agg cs, e]) w := by
  have hp' : tmps[2]?.getD undef = .pointer (some ⟨g, 0, none⟩) := by simpa using hp
  have he' : tmps[3]?.getD undef = e := by simpa using he
  have hi : (Try.prog.info? 52).map (·.size) = some cs.size := by rw [hs]; kernel_rfl
  simp [results, hfn, hp', he', asAddr, run_loadVar_row w g 52 52 cs (0, 0) _ hg Try.underlying52 rfl hi]

theorem FromM_start (s : ByteArray) (hs : s.size ≤ 140737488351232) (w : World) :
    Calls Try.prog 36 #[.string s, .string ⟨#[77]⟩, .slice (some ⟨w.heap.size + 2, 0, none⟩) 1 1] (((w.alloc (.cells zMsg.cells.toArray 52)).alloc (.cells zMsg.cells.toArray 52)).alloc (.cells #[.iface 75 (.pointer (some ⟨w.heap.size + 1, 0, none⟩))] 20))
      fun e w' => Below w.heap.size w w' ∧ w'.heap[w.heap.size]? = some (.cells zMsg.cells.toArray 52 (0, 0)) ∧ w.heap.size + 1 < w'.heap.size ∧ match takeX 77 dMsg s.data.toList with
        | some vs => e = .returned (.int .i64 0) ∧ ∃ x : MsgD, vs = x.pss.flatten ∧ x.at (w.heap.size + 3) w' (w.heap.size + 1)
        | none => e = .returned (.int .i64 140) := by
  obtain ⟨u0, hu0⟩ : ∃ u0, u0 = w.alloc (.cells zMsg.cells.toArray 52) := ⟨_, rfl⟩
  have hus0 : u0.heap.size = w.heap.size + 1 := by rw [hu0]; simp
  have h0 : u0.heap[w.heap.size]? = some (.cells zMsg.cells.toArray 52 (0, 0)) := by rw [hu0]; exact heap_alloc_new _ _
  obtain ⟨u1, hu1⟩ : ∃ u1, u1 = u0.alloc (.cells zMsg.cells.toArray 52) := ⟨_, rfl⟩
  have hus1 : u1.heap.size = w.heap.size + 2 := by rw [hu1]; simp [hus0]
  have h1 : At u1 (w.heap.size + 1) 0 zMsg.cells := At.of_block (t := 52) (by rw [hu1, ← hus0]; exact heap_alloc_new _ _)
  have h01 : u1.heap[w.heap.size]? = some (.cells zMsg.cells.toArray 52 (0, 0)) := by rw [hu1, (alloc_below u0 _).block _ (by omega)]; exact h0
  obtain ⟨v, hv⟩ : ∃ v, v = u1.alloc (.cells #[(Fd.sub .msg (w.heap.size + 1) 0).val] 20) := ⟨_, rfl⟩
  have hvs : v.heap.size = w.heap.size + 3 := by rw [hv]; simp [hus1]
  have h12 : At v (w.heap.size + 1) 0 zMsg.cells := by rw [hv]; exact h1.below (alloc_below u1 _)
  have h02 : v.heap[w.heap.size]? = some (.cells zMsg.cells.toArray 52 (0, 0)) := by rw [hv, (alloc_below u1 _).block _ (by omega)]; exact h01
  have hE : Elems v (w.heap.size + 2) [.sub .msg (w.heap.size + 1) 0] := by rw [hv, ← hus1]; exact heap_alloc_new _ _
  have hb : Below w.heap.size w v := by rw [hv, hu1, hu0]; exact ((alloc_below w _).alloc (by simp) _).alloc (by simp; omega) _
  have hok : (seqR (qsMsg (w.heap.size + 1) 0)).Ok := seqR_ok (qsMsg_ok _ _)
  have ht := take_c 77 s hs hok (walk_one hok (walkMsg_r (w.heap.size + 1) 0)) hE (qMsg_Z h12) (fun p x => by have := qMsg_S x; omega) (fun c p x => by have := qMsg_S x; omega)
  have e1 : ((w.alloc (.cells zMsg.cells.toArray 52)).alloc (.cells zMsg.cells.toArray 52)).alloc (.cells #[.iface 75 (.pointer (some ⟨w.heap.size + 1, 0, none⟩))] 20) = v := by rw [hv, hu1, hu0]; rfl
  rw [e1]
  refine Calls.mono ht ?_
  rintro e w' ⟨hk, hx⟩
  refine ⟨hb.trans ⟨hk.os, hk.tape, hk.output, hk.size, fun i hi => hk.block i (by omega) (fun p x => by have := qMsg_S x; omega)⟩, by rw [hk.block _ (by omega) (fun p x => by have := qMsg_S x; omega)]; exact h02, by have := hk.size; omega, ?_⟩
  rw [qMsg_D] at hx
  cases hq : takeX 77 dMsg s.data.toList with
  | none => rw [hq] at hx; exact hx
  | some vs =>
    rw [hq] at hx
    obtain ⟨bs, he, -⟩ := takeX_inv dMsg_inv hq
    have hx2 := hx.2
    rw [hvs] at hx2
    exact ⟨hx.1, hMsg hx2 (enc_truth he)⟩

set_option maxHeartbeats 4000000 in
set_option maxRecDepth 100000 in
theorem FromM_c (s : ByteArray) (hs : s.size ≤ 140737488351232) (w : World) : Calls Try.prog 24 #[.string s] w fun e w' => MsgO w.heap.size s e w' ∧ Below w.heap.size w w' := by
  have hp := FromM_start s hs w
  unfold MsgO
  cases hq : takeX 77 dMsg s.data.toList with
  | none =>
    rw [hq] at hp
    have HP := hidden hp
    clear hp hq hs
    have h1 := zMsg.one
    have hsz : zMsg.cells.toArray.size = 11 := rfl
    have hi : (Try.prog.info? 52).map (·.size) = some zMsg.cells.toArray.size := by rw [hsz]; kernel_rfl
    have HR : Hid (∀ (fn : Func) (_ : fn.results = #[.cell 2 52, .tmp 3]) (tmps : Array Value) (w' : World), tmps.getD 2 undef = .pointer (some ⟨w.heap.size, 0, none⟩) → tmps.getD 3 undef = .int .i64 140 → w'.heap[w.heap.size]? = some (.cells zMsg.cells.toArray 52 (0, 0)) → (results fn tmps).run Try.prog w' = .ok (.tuple #[.agg zMsg.cells.toArray, .int .i64 140]) w') := fun fn hf tmps w' a b c => results_msg fn hf tmps w' _ _ _ a b c hsz
    have HSW := hidden (fun (w' : World) (h : w'.heap[w.heap.size]? = some (.cells zMsg.cells.toArray 52 (0, 0))) => setRow_same_heap h)
    simp only [zMsg, MsgD.cells, List.length_nil] at HP HR HSW h1 hi ⊢
    go_enter Try.func24, Try.ntmps24
    go_wp2_with (first
      | (go_at_call 36; refine (HP.out).mono ?_; rintro e w1 ⟨hb1, hat, hlt, rfl⟩; have HB := hidden hb1; have HAT := hidden hat; clear hb1 hat)
      | (refine wpList_store_row rfl 52 (.tmp 2) (.tmp 12) rfl w.heap.size _ rfl rfl 52 _ HAT.out hi rfl h1 ?_))
    refine bodyPost_ret (HR.out _ Try.results24 _ _ rfl rfl ?_) rfl ⟨rfl, ?_⟩
    · rw [HSW.out _ HAT.out]; exact HAT.out
    · rw [HSW.out _ HAT.out]; exact HB.out
  | some vs =>
    rw [hq] at hp
    have HP := hidden hp
    clear hp hq hs
    have hi2 : ∀ x : MsgD, (Try.prog.info? 52).map (·.size) = some x.cells.toArray.size := fun x => by
      have h0 : (Try.prog.info? 52).map (·.size) = some 11 := by kernel_rfl
      exact h0
    have hi3 : ∀ x : MsgD, (Try.prog.info? 52).map (·.size) = some x.cells.length := hi2
    have HR : Hid (∀ (x : MsgD) (fn : Func) (_ : fn.results = #[.cell 2 52, .tmp 3]) (tmps : Array Value) (w' : World), tmps.getD 2 undef = .pointer (some ⟨w.heap.size, 0, none⟩) → tmps.getD 3 undef = .int .i64 0 → w'.heap[w.heap.size]? = some (.cells x.cells.toArray 52 (0, 0)) → (results fn tmps).run Try.prog w' = .ok (.tuple #[.agg x.cells.toArray, .int .i64 0]) w') := fun x fn hf tmps w' a b c => results_msg fn hf tmps w' _ _ _ a b c rfl
    have HH : Hid (∀ (x : MsgD) (w' : World), w'.heap[w.heap.size]? = some (.cells zMsg.cells.toArray 52 (0, 0)) → (w'.setRow w.heap.size x.cells.toArray).heap[w.heap.size]? = some (.cells x.cells.toArray 52 (0, 0))) := fun x w' h => setRow_heap w' w.heap.size _ x.cells.toArray 52 (0, 0) h
    have HSZ : Hid (∀ x : MsgD, zMsg.cells.toArray.size = x.cells.toArray.size) := fun x => rfl
    simp only [zMsg] at HP HH HSZ
    have hz0 : ({ kind := 0, group := 0, frm := 0, to := 0, term := 0, index := 0, at_ := 0, p := none, ents := [], commit := 0, ok := false, data := ⟨#[]⟩ } : MsgD).cells.toArray = #[.int .i64 0, .int .i64 0, .int .i64 0, .int .i64 0, .int .i64 0, .int .i64 0, .int .i64 0, .slice none 0 0, .int .i64 0, .bool false, .string ⟨#[]⟩] := rfl
    rw [hz0] at HP HH HSZ
    clear hz0
    go_enter Try.func24, Try.ntmps24
    go_wp2_with (first
      | (go_at_call 36; refine (HP.out).mono ?_; rintro e w1 ⟨hb1, hat, hlt, rfl, x, hvs, hrg, hen, hel⟩; have HEN := hidden hen; have HEL := hidden hel; have HB := hidden hb1; have HAT := hidden hat; have HV := hidden hvs; have HG := hidden hrg; have hi4 := hi2 x; have hi5 := hi3 x; have HX1 := hidden x.one; clear hb1 hat hvs hrg hlt hen hel)
      | (refine wpList_load_mid rfl 52 (.tmp 4) rfl (w.heap.size + 1) 0 rfl x.cells _ HG.out Try.underlying52 rfl hi5 ?_)
      | (refine wpList_store_row rfl 52 (.tmp 2) (.tmp 14) rfl w.heap.size x.cells.toArray rfl rfl 52 _ HAT.out hi4 (HSZ.out x) HX1.out ?_))
    refine bodyPost_ret (HR.out x _ Try.results24 _ _ rfl rfl ?_) rfl ⟨⟨x, HV.out, rfl, (HEN.out.kept (by simp [World.setRow]) (fun b hb _ => setRow_other _ _ _ _ (by omega))).mono (by omega), HEL.out⟩, ?_⟩
    · exact HH.out x _ HAT.out
    · exact ⟨HB.out.os, HB.out.tape, HB.out.output, by have := HB.out.size; simpa [World.setRow] using this, fun k hk => (setRow_other _ _ _ _ (by omega)).trans (HB.out.block k hk)⟩

end Go.Proofs.Ytgkcchbignakcaa
