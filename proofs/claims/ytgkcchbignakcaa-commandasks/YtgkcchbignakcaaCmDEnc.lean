/-
  What is put is read back: messages and answers, with their lists.
-/
import Derived.Test.YtgkcchbignakcaaCmBw
import Derived.Test.YtgkcchbignakcaaCmFromW
import Derived.Test.YtgkcchbignakcaaCmFromM
namespace Go.Proofs.Ytgkcchbignakcaa
open Go.RowKit

/-- These values are read back by this reading. -/
def DE (D : List UInt8 → Option (List (Cm.K × Cm.V) × List UInt8)) (vs : List (Cm.K × Cm.V)) : Prop := ∀ (bs t : List UInt8), Cm.enc vs = some bs → D (bs ++ t) = some (vs, t)

theorem de_dec {vs : List (Cm.K × Cm.V)} (hs : Cm.small vs) : DE (Cm.dec (vs.map (·.1))) vs := fun bs t h => Cm.dec_enc vs bs hs h t
theorem de_seq : ∀ (qs : List Rf) (vss : List (List (Cm.K × Cm.V))), All2 (fun (q : Rf) (vs : List (Cm.K × Cm.V)) => DE q.D vs) qs vss → DE (dseq qs) vss.flatten
  | [], [], _, bs, t, h => by
    simp only [List.flatten_nil, Cm.enc, Option.some.injEq] at h
    subst h
    rfl
  | q :: qs, vs :: vss, hh, bs, t, h => by
    rw [List.flatten_cons, Cm.enc_append] at h
    cases h1 : Cm.enc vs with
    | none => rw [h1] at h; cases h
    | some a =>
      rw [h1] at h
      simp only at h
      cases h2 : Cm.enc vss.flatten with
      | none => rw [h2] at h; cases h
      | some b =>
        rw [h2] at h
        simp only [Option.some.injEq] at h
        subst h
        rw [List.append_assoc, dseq, hh.1 a (b ++ t) h1]
        simp only
        rw [de_seq qs vss hh.2 b t h2]
        rfl
  | [], _ :: _, h, _, _, _ => h.elim
  | _ :: _, [], h, _, _, _ => h.elim
theorem de_list (m c : Nat) (hm : m < 9223372036854775808) (ks : List Cm.K) (vs : List (Cm.K × Cm.V)) (hs : Cm.small vs) (hk : vs.map (·.1) = (List.replicate c ks).flatten) : DE (dlist m ks) ((.n m, .n (c : Int)) :: vs) := by
  intro bs t h
  have hsp : Cm.enc ([(Cm.K.n m, Cm.V.n (c : Int))] ++ vs) = some bs := h
  rw [Cm.enc_append] at hsp
  cases h1 : Cm.enc [(Cm.K.n m, Cm.V.n (c : Int))] with
  | none => rw [h1] at hsp; cases hsp
  | some a =>
    rw [h1] at hsp
    simp only at hsp
    cases h2 : Cm.enc vs with
    | none => rw [h2] at hsp; cases hsp
    | some b =>
      rw [h2] at hsp
      simp only [Option.some.injEq] at hsp
      subst hsp
      have e1 := Cm.dec_enc [(Cm.K.n m, Cm.V.n (c : Int))] a (fun p hp q e => by
        rw [List.mem_singleton] at hp
        rw [hp] at e
        injection e with e
        omega) h1 (b ++ t)
      have e2 := Cm.dec_enc vs b hs h2 t
      rw [hk] at e2
      unfold dlist
      rw [List.append_assoc]
      have e3 : ([(Cm.K.n m, Cm.V.n (c : Int))].map (·.1)) = [Cm.K.n m] := rfl
      rw [e3] at e1
      rw [e1]
      simp only [Int.toNat_natCast]
      rw [e2]
theorem ents_kinds : ∀ (l : List (Int × ByteArray)), (l.map fun e => [nf e.1, tf e.2]).flatten.map (·.1) = (List.replicate l.length ksEnt).flatten
  | [] => rfl
  | e :: r => by
    simp only [List.map_cons, List.flatten_cons, List.map_append, List.length_cons, List.replicate_succ, ents_kinds r]
    rfl
theorem posts_kinds : ∀ (l : List (ByteArray × ByteArray)), (l.map fun e => [tf e.1, tf e.2]).flatten.map (·.1) = (List.replicate l.length ksPost).flatten
  | [] => rfl
  | e :: r => by
    simp only [List.map_cons, List.flatten_cons, List.map_append, List.length_cons, List.replicate_succ, posts_kinds r]
    rfl
theorem de_num (v : Int) : DE (Cm.dec [.n Cm.mI]) [nf v] := de_dec (small_nf v)
theorem de_str (v : ByteArray) : DE (Cm.dec [.t]) [tf v] := de_dec (small_tf v)
theorem de_bool (v : Int) : DE (Cm.dec [.n 1]) [(.n 1, .n v)] := de_dec (small_bf v)
theorem de_ents (l : List (Int × ByteArray)) : DE (dlist 16 ksEnt) (pEnts l) := de_list 16 l.length (by omega) ksEnt _ (small_Ents l) (ents_kinds l)
theorem de_posts (l : List (ByteArray × ByteArray)) : DE (dlist 64 ksPost) (pPosts l) := de_list 64 l.length (by omega) ksPost _ (small_Posts l) (posts_kinds l)
theorem de_msg (x : MsgD) : DE dMsg x.pss.flatten := de_seq _ _ ⟨de_num _, de_num _, de_num _, de_num _, de_num _, de_num _, de_num _, de_num _, de_bool _, de_ents _, de_str _, trivial⟩
theorem de_id (i : IdD) : DE (seqR (qsId 0 0)).D i.pss.flatten := de_seq _ _ ⟨de_num _, de_num _, trivial⟩
theorem de_rep (x : RepD) : DE (seqR (qsRep 1 0)).D x.pss.flatten := de_seq _ _ ⟨de_num _, de_num _, de_posts _, trivial⟩
theorem de_ans (i : IdD) (x : RepD) : DE dAns (i.pss.flatten ++ x.pss.flatten) := by
  have := de_seq [seqR (qsId 0 0), seqR (qsRep 1 0)] [i.pss.flatten, x.pss.flatten] ⟨de_id i, de_rep x, trivial⟩
  have e : [i.pss.flatten, x.pss.flatten].flatten = i.pss.flatten ++ x.pss.flatten := by simp
  rw [e] at this
  exact this
theorem de_takeX {m : UInt8} {D : List UInt8 → Option (List (Cm.K × Cm.V) × List UInt8)} {vs : List (Cm.K × Cm.V)} (h : DE D vs) {bs : List UInt8} (he : Cm.enc vs = some bs) : takeX m D (m :: bs) = some vs := by
  have := h bs [] he
  rw [List.append_nil] at this
  simp only [takeX, if_true, this]

/-- A message that is put is read back. -/
theorem FromM_put (x : MsgD) {bs : List UInt8} (h : Cm.enc x.pss.flatten = some bs) (hl : x.ents.length ≤ 1000) (w : World) : Calls Try.prog 24 #[.string (putS ⟨#[77]⟩ (some bs))] w fun e w' => (∃ p c, e = .returned (.tuple #[.agg #[.int .i64 x.kind, .int .i64 x.group, .int .i64 x.frm, .int .i64 x.to, .int .i64 x.term, .int .i64 x.index, .int .i64 x.at_, .slice p x.ents.length c, .int .i64 x.commit, .bool x.ok, .string x.data], .int .i64 0]) ∧ EntsIn w' p x.ents) ∧ Below w.heap.size w w' := by
  have hb := Cm.enc_len _ _ x.small h
  rw [x.len] at hb
  have hsz : (putS ⟨#[77]⟩ (some bs)).size = bs.length + 1 := by
    show (([77] : List UInt8) ++ bs).toArray.size = _
    simp
  refine (FromM_c _ (by rw [hsz]; omega) w).mono ?_
  rintro e w' ⟨a, b⟩
  refine ⟨?_, b⟩
  have ht : takeX 77 dMsg (putS ⟨#[77]⟩ (some bs)).data.toList = some x.pss.flatten := de_takeX (de_msg x) h
  unfold MsgO at a
  rw [ht] at a
  obtain ⟨y, hv, he, hat, _⟩ := a
  obtain ⟨h0, h1, h2, h3, h4, h5, h6, h7, h8, h9, h10⟩ := msg_inj hv
  refine ⟨y.p, y.ents.length, ?_, by rw [h9]; exact hat.toIn⟩
  rw [he, h0, h1, h2, h3, h4, h5, h6, h7, h8, h9, h10]
  rfl
theorem FromW_put (i : IdD) (x : RepD) {bs : List UInt8} (h : Cm.enc (i.pss.flatten ++ x.pss.flatten) = some bs) (hl : x.posts.length ≤ 1000) (w : World) : Calls Try.prog 20 #[.string (putS ⟨#[65]⟩ (some bs))] w fun e w' => (∃ p c, e = .returned (.tuple #[.agg i.cells.toArray, .agg #[.int .i64 x.err, .int .i64 x.at_, .slice p x.posts.length c], .int .i64 0]) ∧ PostsIn w' p x.posts) ∧ Below w.heap.size w w' := by
  have hb := Cm.enc_len _ _ (small_app i.small x.small) h
  rw [List.length_append, x.len, show i.pss.flatten.length = 2 from rfl] at hb
  have hsz : (putS ⟨#[65]⟩ (some bs)).size = bs.length + 1 := by
    show (([65] : List UInt8) ++ bs).toArray.size = _
    simp
  refine (FromAnswer_c _ (by rw [hsz]; omega) w).mono ?_
  rintro e w' ⟨a, b⟩
  refine ⟨?_, b⟩
  have ht : takeX 65 dAns (putS ⟨#[65]⟩ (some bs)).data.toList = some (i.pss.flatten ++ x.pss.flatten) := de_takeX (de_ans i x) h
  unfold AnsO at a
  rw [ht] at a
  obtain ⟨j, y, hv, he, hat, _⟩ := a
  obtain ⟨h1, h2, h3, h4⟩ := ans_inj hv
  refine ⟨y.p, y.posts.length, ?_, by rw [h4]; exact hat.toIn⟩
  rw [he, h1, h2, h3, h4]
  rfl
theorem FromAsk_put (i : IdD) (x : OpD) {bs : List UInt8} (h : Cm.enc (i.pss.flatten ++ x.pss.flatten) = some bs) (w : World) : Calls Try.prog 19 #[.string (putS ⟨#[81]⟩ (some bs))] w fun e w' => e = .returned (.tuple #[.agg i.cells.toArray, .agg x.cells.toArray, .int .i64 0]) ∧ Below w.heap.size w w' := by
  have hs := small_app i.small x.small
  have hb := Cm.enc_len _ _ hs h
  rw [List.length_append, show i.pss.flatten.length = 2 from rfl, show x.pss.flatten.length = 9 from rfl] at hb
  have hsz : (putS ⟨#[81]⟩ (some bs)).size = bs.length + 1 := by
    show (([81] : List UInt8) ++ bs).toArray.size = _
    simp
  refine (FromAsk_c _ (by rw [hsz]; omega) w).mono ?_
  rintro e w' ⟨a, b⟩
  refine ⟨?_, b⟩
  have ht : takeX 81 (Cm.dec ksAsk) (putS ⟨#[81]⟩ (some bs)).data.toList = some (i.pss.flatten ++ x.pss.flatten) := enc_takeX hs rfl h
  unfold AskO at a
  rw [ht] at a
  obtain ⟨j, y, hv, he⟩ := a
  obtain ⟨h1, h2⟩ := ask_inj hv
  rw [he, h1, h2]

end Go.Proofs.Ytgkcchbignakcaa
