/-
  A raft node that is asked for its vote, again and again.
-/
import Derived.Test.YteaopnhjndnpnaaNdRecv
import Derived.Test.YteaopnhjndnpnaaNdVote
import Derived.Test.YteaopnhjndnpnaaNdAwake
namespace Go.Proofs.Yteaopnhjndnpnaa
open Go.RowKit

theorem Msgs.lt {w : World} {P : Nat → Prop} {v : Value} {l : List N.Msg} (h : Msgs w P v l) : Msgs w (fun k => P k ∧ k < w.heap.size) v l := by
  obtain ⟨q, h1, h2, h3, h4⟩ := h
  exact ⟨q, h1, h2, fun k hk => ⟨h3 k hk, h2.lt (by decide) hk⟩, fun x hx => ⟨(h4 x hx).1, fun k hk => ⟨(h4 x hx).2 k hk, (h4 x hx).1.lt (by decide) hk⟩⟩⟩

/-- Messages that a node handed out: in blocks made since, that are not its own. -/
def MsgF (w : World) (B : Nat) (own : Nat → Prop) (X : World) (v : Value) (l : List N.Msg) : Prop := Msgs X (fun k => (w.heap.size ≤ k ∧ k ≠ B ∧ ¬ own k) ∧ k < X.heap.size) v l
theorem MsgF.stays {w : World} {B : Nat} {l : List N.Msg} (X Y : World) (o o' : Nat → Prop) (v : Value) (h : MsgF w B o X v l) (hk : KeptB B o X Y) (ho : ∀ k, o' k → o k ∨ X.heap.size ≤ k) : MsgF w B o' Y v l := by
  refine (Msgs.carry h (fun k hk' => hk.block k hk'.2 hk'.1.2.1 hk'.1.2.2)).mono (fun k hk' => ⟨⟨hk'.1.1, hk'.1.2.1, fun q => ?_⟩, Nat.lt_of_lt_of_le hk'.2 hk.size⟩)
  rcases ho k q with e | e
  · exact hk'.1.2.2 e
  · have := hk'.2; omega
theorem MsgF.of {w X : World} {B : Nat} {own : Nat → Prop} {v : Value} {l : List N.Msg} (h : Msgs X (fun k => w.heap.size ≤ k) v l) (hB : B < w.heap.size) (ho : ∀ k, own k → k < w.heap.size) : MsgF w B own X v l :=
  h.lt.mono (fun k hk => ⟨⟨hk.1, by have := hk.1; omega, fun e => by have := ho k e; have := hk.1; omega⟩, hk.2⟩)

/-- The message that asks for a vote. -/
def askM (frm term index : Int) : N.Msg := ⟨1, 0, frm, 0, term, index, 0, [], 0, false, ⟨#[]⟩⟩

section
variable {w : World} {B : Nat} {s : N.St} {own : Nat → Prop}

theorem recv1_recs (m : N.Msg) : (recv1 s m).recs = s.recs ∧ (recv1 s m).group = s.group := by unfold recv1; split <;> exact ⟨rfl, rfl⟩
theorem voteS_recs (a b c d : Int) : (voteS s a b c d).recs = s.recs ∧ (voteS s a b c d).group = s.group := by unfold voteS; split <;> exact ⟨rfl, rfl⟩

/-- The node behind. -/
def askS (s : N.St) (frm term index : Int) : N.St := N.noted s (voteS (recv1 s (askM frm term index)) frm term index 0)
def askOk (s : N.St) (frm term index : Int) : Bool := voteOk (recv1 s (askM frm term index)) frm term index 0
def askA (s : N.St) (frm term index : Int) : N.Msg := { N.msg (voteS (recv1 s (askM frm term index)) frm term index 0) 2 frm with ok := askOk s frm term index }

theorem Ask_c (h : Nd w B s own) (frm term index : Int) (hm : May s (askM frm term index)) (hr : s.recs.length ≤ 1000000) :
    Calls Try.prog 17 #[.pointer (some ⟨B, 0, none⟩), .agg #[.int .i64 1, .int .i64 0, .int .i64 frm, .int .i64 0, .int .i64 term, .int .i64 index, .int .i64 0, .slice none 0 0, .int .i64 0, .bool false, .string ⟨#[]⟩]] w
      fun e w' => ∃ p n c own', e = .returned (.slice p n c) ∧ AftN own w w' B (askS s frm term index) own' ∧ MsgF w B own' w' (.slice p n c) [askA s frm term index] := by
  have hrg := recv1_recs (s := s) (askM frm term index)
  have hvg := voteS_recs (s := recv1 s (askM frm term index)) frm term index 0
  refine Receive_c h (askM frm term index) (.slice none 0 0) ⟨none, 0, rfl, Nat.le_refl _, by unfold maxLen; omega, fun k x hx => by simp [askM] at hx⟩ hm (s' := voteS (recv1 s (askM frm term index)) frm term index 0)
    (M := fun X o v => MsgF w B o X v [askA s frm term index]) (fun X Y o o' v => MsgF.stays X Y o o' v) (fun X hX => ?_) (hvg.2.trans hrg.2) ⟨[], by rw [hvg.1, hrg.1, List.append_nil]⟩ (by rw [hvg.1, hrg.1]; omega)
  have e : takeF (askM frm term index).kind = 67 := rfl
  rw [e]
  refine (takeVote_c hX.1 (askM frm term index) none 0 0).mono ?_
  rintro e w' ⟨p, n, c, rfl, ha, hq⟩
  have hwX := hX.2.1.size
  refine ⟨p, n, c, own, rfl, ha, MsgF.of (hq.mono (fun k hk => by omega)) h.lt (fun k hk => (h.here k hk).1)⟩

end

/-- A node of five that was only asked for votes; whom it voted for in each term. -/
structure Asked (s : N.St) (wh : List Int) (i : Nat) : Prop where
  group : s.group = 0
  id : s.id = 0
  nodes : s.nodes = 5
  role : s.role = 1
  log : s.log = ⟨0, 0, []⟩
  data : s.data = ⟨#[]⟩
  term : 0 ≤ s.term ∧ s.term ≤ 39
  vote : -1 ≤ s.vote ∧ s.vote < 5
  recs : s.recs.length ≤ i
  len : wh.length = 40
  wh : ∀ (j : Nat) x, wh[j]? = some x → (s.term < (j : Int) → x = 0) ∧ ((j : Int) = s.term → x ≠ 0 → x = s.vote) ∧ 0 ≤ x ∧ x ≤ 4

theorem noted_eq (s s' : N.St) : (N.noted s s').group = s'.group ∧ (N.noted s s').id = s'.id ∧ (N.noted s s').nodes = s'.nodes ∧ (N.noted s s').role = s'.role ∧ (N.noted s s').log = s'.log ∧ (N.noted s s').data = s'.data ∧ (N.noted s s').term = s'.term ∧ (N.noted s s').vote = s'.vote := by
  unfold N.noted
  split <;> exact ⟨rfl, rfl, rfl, rfl, rfl, rfl, rfl, rfl⟩
theorem noted_recs (s s' : N.St) : (N.noted s s').recs.length ≤ s'.recs.length + s.recs.length + 1 := by
  unfold N.noted
  split
  · omega
  · simp
    omega
theorem noted_recs' (s s' : N.St) (h : s'.recs = s.recs) : (N.noted s s').recs.length ≤ s.recs.length + 1 := by
  unfold N.noted
  split
  · rw [h]; omega
  · rw [h]; simp

theorem newer_none (i : Int) (hi : 0 ≤ i) : G.newer ⟨0, 0, []⟩ i 0 = true := by
  have : G.last ⟨0, 0, []⟩ = 0 := rfl
  unfold G.newer
  rw [this]
  have e : G.termAt ⟨0, 0, []⟩ 0 = 0 := rfl
  rw [e]
  simp [hi]

theorem Asked.may {s : N.St} {wh : List Int} {i : Nat} (h : Asked s wh i) (f t x : Nat) (hf : 1 ≤ f ∧ f ≤ 4) (ht : 1 ≤ t ∧ t ≤ 39) (hx : x < 9) : May s (askM f t x) := by
  refine ⟨⟨by show (1 : Int) ≤ 1; omega, by show (1 : Int) ≤ 5; omega⟩, h.group.symm, ?_, ⟨?_, ?_, ?_⟩, ⟨?_, ?_⟩, ⟨?_, ?_⟩, ⟨by show (0 : Int) ≤ 0; omega, by show (0 : Int) ≤ _; omega⟩, ⟨by show (0 : Int) ≤ 0; omega, by show (0 : Int) ≤ _; omega⟩, by show (0 : Nat) ≤ 16; omega, trivial, by show (0 : Nat) ≤ _; omega⟩
  · show (0 : Int) = (s.id : Int)
    rw [h.id]
    rfl
  · show (0 : Int) ≤ (f : Int); omega
  · show (f : Int) < (s.nodes : Int)
    rw [h.nodes]
    omega
  · show (f : Int) ≠ (s.id : Int)
    rw [h.id]
    omega
  · show (1 : Int) ≤ (t : Int); omega
  · show (t : Int) ≤ _; omega
  · show (0 : Int) ≤ (x : Int); omega
  · show (x : Int) ≤ _; omega

theorem getElem?_set' {l : List Int} {j k : Nat} {a x : Int} (h : (l.set j a)[k]? = some x) : (k = j ∧ x = a) ∨ (k ≠ j ∧ l[k]? = some x) := by
  by_cases e : k = j
  · subst e
    rw [List.getElem?_set] at h
    simp at h
    exact .inl ⟨rfl, h.2.symm⟩
  · rw [List.getElem?_set_ne (fun q => e q.symm)] at h
    exact .inr ⟨e, h⟩

/-- It is asked. -/
theorem Asked.step {s : N.St} {wh : List Int} {i : Nat} (h : Asked s wh i) (f t x : Nat) (hf : 1 ≤ f ∧ f ≤ 4) (ht : 1 ≤ t ∧ t ≤ 39) (hx : x < 9) (y : Int) (hy : wh[t]? = some y) :
    (askA s f t x).kind = 2 ∧ (askA s f t x).to = (f : Int) ∧ (askA s f t x).ok = askOk s f t x ∧
    (askOk s f t x = true → (askA s f t x).term = (t : Int) ∧ (y = 0 ∨ y = (f : Int)) ∧ (askS s f t x).term = (t : Int) ∧ (askS s f t x).vote = (f : Int) ∧ Asked (askS s f t x) (wh.set t (f : Int)) (i + 1)) ∧
    (askOk s f t x = false → Asked (askS s f t x) wh (i + 1)) := by
  have hw := h.wh t y hy
  have htm := h.term
  have hvo := h.vote
  obtain ⟨n1, n2, n3, n4, n5, n6, n7, n8⟩ := noted_eq s (voteS (recv1 s (askM f t x)) f t x 0)
  have hrl : (askS s f t x).recs.length ≤ i + 1 := by
    have := noted_recs' s (voteS (recv1 s (askM f t x)) f t x 0) ((voteS_recs (s := recv1 s (askM f t x)) f t x 0).1.trans (recv1_recs (s := s) (askM f t x)).1)
    have := h.recs
    unfold askS
    omega
  refine ⟨rfl, rfl, rfl, fun hok => ?_, fun hok => ?_⟩
  · have hv : voteS (recv1 s (askM f t x)) f t x 0 = { recv1 s (askM f t x) with vote := (f : Int), left := (recv1 s (askM f t x)).wait } := by
      unfold voteS
      unfold askOk at hok
      rw [if_pos hok]
    have hok' := hok
    unfold askOk voteOk at hok'
    simp only [Bool.and_eq_true, decide_eq_true_eq, Bool.or_eq_true] at hok'
    obtain ⟨⟨⟨o1, o2⟩, o3⟩, _⟩ := hok'
    rw [hv] at n1 n2 n3 n4 n5 n6 n7 n8
    dsimp only at n1 n2 n3 n4 n5 n6 n7 n8
    by_cases hlt : s.term < (t : Int)
    · have hr : recv1 s (askM f t x) = { s with term := (t : Int), vote := -1, role := 1, lead := -1 } := by unfold recv1; rw [if_pos (show s.term < (askM f t x).term from hlt)]; rfl
      rw [hr] at n1 n2 n3 n4 n5 n6 n7 n8
      have e0 : askS s f t x = N.noted s (voteS (recv1 s (askM f t x)) f t x 0) := rfl
      rw [hv, hr] at e0
      dsimp only at n1 n2 n3 n4 n5 n6 n7 n8 e0
      rw [e0] at hrl ⊢
      refine ⟨?_, .inl (hw.1 hlt), n7, n8, ⟨n1.trans h.group, n2.trans h.id, n3.trans h.nodes, n4, n5.trans h.log, n6.trans h.data, ?_, ?_, hrl, by rw [List.length_set]; exact h.len, fun j z hz => ?_⟩⟩
      · show (N.msg (voteS (recv1 s (askM f t x)) f t x 0) 2 f).term = _
        rw [hv, hr]
        rfl
      · rw [n7]
        omega
      · rw [n8]
        omega
      · rw [n7, n8]
        rcases getElem?_set' hz with ⟨rfl, rfl⟩ | ⟨q1, q2⟩
        · exact ⟨fun e => by omega, fun _ _ => rfl, by omega, by omega⟩
        · have := h.wh j z q2
          exact ⟨fun e => this.1 (by omega), fun e => by omega, this.2.2⟩
    · have hr : recv1 s (askM f t x) = s := by unfold recv1; rw [if_neg (show ¬ s.term < (askM f t x).term from hlt)]
      rw [hr] at n1 n2 n3 n4 n5 n6 n7 n8 o1 o2 o3
      have e0 : askS s f t x = N.noted s (voteS (recv1 s (askM f t x)) f t x 0) := rfl
      rw [hv, hr] at e0
      rw [e0] at hrl ⊢
      refine ⟨?_, ?_, n7.trans o1.symm, n8, ⟨n1.trans h.group, n2.trans h.id, n3.trans h.nodes, n4.trans h.role, n5.trans h.log, n6.trans h.data, ?_, ?_, hrl, by rw [List.length_set]; exact h.len, fun j z hz => ?_⟩⟩
      · show (N.msg (voteS (recv1 s (askM f t x)) f t x 0) 2 f).term = _
        rw [hv, hr]
        exact o1.symm
      · by_cases hy0 : y = 0
        · exact .inl hy0
        · have := hw.2.1 o1 hy0
          omega
      · rw [n7]
        omega
      · rw [n8]
        omega
      · rw [n7, n8]
        rcases getElem?_set' hz with ⟨rfl, rfl⟩ | ⟨q1, q2⟩
        · exact ⟨fun e => by omega, fun _ _ => rfl, by omega, by omega⟩
        · have := h.wh j z q2
          exact ⟨this.1, fun e => by omega, this.2.2⟩
  · have hv : voteS (recv1 s (askM f t x)) f t x 0 = recv1 s (askM f t x) := by
      unfold voteS
      unfold askOk at hok
      rw [hok]
      rfl
    rw [hv] at n1 n2 n3 n4 n5 n6 n7 n8
    have e0 : askS s f t x = N.noted s (recv1 s (askM f t x)) := by unfold askS; rw [hv]
    rw [e0] at hrl ⊢
    by_cases hlt : s.term < (t : Int)
    · exfalso
      have hr : recv1 s (askM f t x) = { s with term := (t : Int), vote := -1, role := 1, lead := -1 } := by unfold recv1; rw [if_pos (show s.term < (askM f t x).term from hlt)]; rfl
      unfold askOk voteOk at hok
      rw [hr] at hok
      dsimp only at hok
      rw [h.log, newer_none x (by omega)] at hok
      simp at hok
    · have hr : recv1 s (askM f t x) = s := by unfold recv1; rw [if_neg (show ¬ s.term < (askM f t x).term from hlt)]
      rw [hr] at n1 n2 n3 n4 n5 n6 n7 n8 hrl ⊢
      exact ⟨n1.trans h.group, n2.trans h.id, n3.trans h.nodes, n4.trans h.role, n5.trans h.log, n6.trans h.data, by rw [n7]; exact h.term, by rw [n8]; exact h.vote, hrl, h.len, fun j z hz => by rw [n7, n8]; exact h.wh j z hz⟩

theorem Asked.svOk {s : N.St} {wh : List Int} {i : Nat} (h : Asked s wh i) : SvOk (N.saved s) := by
  have ht := h.term
  have e : N.saved s = ⟨s.term, s.vote, 0, 0, ⟨#[]⟩, []⟩ := by
    unfold N.saved
    rw [h.log, h.data]
    rfl
  rw [e]
  exact ⟨⟨by show 0 ≤ s.term; omega, by show s.term ≤ _; omega⟩, ⟨by show (0 : Int) ≤ 0; omega, by show (0 : Int) ≤ _; omega⟩, ⟨by show (0 : Int) ≤ 0; omega, by show (0 : Int) ≤ _; omega⟩, by show (0 : Nat) ≤ _; omega, fun k x hx => by simp at hx, by show (0 : Int) ≤ s.term; omega⟩

theorem Asked.anew {s : N.St} {wh : List Int} {i : Nat} (h : Asked s wh i) : Asked (N.new 0 0 5 (N.saved s) 0) wh i := by
  have e : N.saved s = ⟨s.term, s.vote, 0, 0, ⟨#[]⟩, []⟩ := by
    unfold N.saved
    rw [h.log, h.data]
    rfl
  rw [e]
  exact ⟨rfl, rfl, rfl, rfl, rfl, rfl, h.term, h.vote, Nat.zero_le _, h.len, h.wh⟩

theorem Asked.first : Asked (N.new 0 0 5 frSv 0) (List.replicate 40 0) 0 :=
  ⟨rfl, rfl, rfl, rfl, rfl, rfl, by decide, by decide, by decide, by decide, fun j x hx => by
    rw [List.getElem?_replicate] at hx
    split at hx
    · simp at hx
      subst hx
      exact ⟨fun _ => rfl, fun _ q => absurd rfl q, by omega, by omega⟩
    · cases hx⟩

/-- The law's node, and whom it voted for, in block gw. -/
structure Vw (w : World) (B gw : Nat) (s : N.St) (wh : List Int) (i : Nat) (X : World) : Prop where
  nd : ∃ own, Nd X B s own ∧ (∀ k, own k → w.heap.size ≤ k) ∧ ¬ own gw
  old : Below w.heap.size w X
  hB : w.heap.size ≤ B
  hg : w.heap.size ≤ gw
  ne : gw ≠ B
  lt : gw < X.heap.size
  c : ∀ (j : Nat) x, wh[j]? = some x → X.cell? ⟨gw, j, none⟩ = some (.int .i64 x)
  fz : ∀ j, j < 40 → X.frozen? ⟨gw, j, none⟩ = false
  asked : Asked s wh i

section
variable {w X : World} {B gw : Nat} {s : N.St} {wh : List Int} {i : Nat}

theorem Vw.below {Y : World} (h : Vw w B gw s wh i X) (hb : Below X.heap.size X Y) : Vw w B gw s wh i Y := by
  obtain ⟨own, h1, h2, h3⟩ := h.nd
  exact ⟨⟨own, h1.below hb, h2, h3⟩, h.old.trans (hb.mono h.old.size), h.hB, h.hg, h.ne, Nat.lt_of_lt_of_le h.lt hb.size, fun j x hx => (hb.cell (p := ⟨gw, j, none⟩) h.lt).trans (h.c j x hx), fun j hj => (hb.frozen (p := ⟨gw, j, none⟩) h.lt).trans (h.fz j hj), h.asked⟩

/-- What an ask leaves. -/
def VAns (w : World) (B gw : Nat) (s : N.St) (wh : List Int) (i f t x : Nat) (e : Ending) (Y : World) : Prop :=
  ∃ g off c, e = .returned (.slice (some ⟨g, off, none⟩) 1 (c + 1)) ∧ g < Y.heap.size ∧ g ≠ B ∧ c + 1 ≤ maxLen ∧ Y.cell? ⟨g, off, none⟩ = some (.int .i64 2) ∧ Y.cell? ⟨g, off + 3, none⟩ = some (.int .i64 (f : Int)) ∧ Y.cell? ⟨g, off + 4, none⟩ = some (.int .i64 (askA s f t x).term) ∧ Y.cell? ⟨g, off + 9, none⟩ = some (.bool (askOk s f t x)) ∧
    (askOk s f t x = true → ∀ y, wh[t]? = some y → (askA s f t x).term = (t : Int) ∧ (y = 0 ∨ y = (f : Int)) ∧ (askS s f t x).term = (t : Int) ∧ (askS s f t x).vote = (f : Int) ∧ Y.cell? ⟨gw, t, none⟩ = some (.int .i64 y) ∧ Y.frozen? ⟨gw, t, none⟩ = false ∧
      (∀ Z, Below Y.heap.size Y Z → Calls Try.prog 15 #[.pointer (some ⟨B, 0, none⟩)] Z (fun e Z' => (∃ b bt d p n c, e = .returned (.agg #[.int .i64 (t : Int), .int .i64 (f : Int), .int .i64 b, .int .i64 bt, .string d, .slice p n c])) ∧ Below Z.heap.size Z Z')) ∧
      ∀ Z, Below Y.heap.size Y Z → Vw w B gw (askS s f t x) (wh.set t (f : Int)) (i + 1) (Z.setCell ⟨gw, t, none⟩ (.int .i64 (f : Int)))) ∧
    (askOk s f t x = false → Vw w B gw (askS s f t x) wh (i + 1) Y)

theorem Vw.ask (h : Vw w B gw s wh i X) (hi : i ≤ 100) (f t x : Nat) (hf : 1 ≤ f ∧ f ≤ 4) (ht : 1 ≤ t ∧ t ≤ 39) (hx : x < 9) :
    Calls Try.prog 17 #[.pointer (some ⟨B, 0, none⟩), .agg #[.int .i64 1, .int .i64 0, .int .i64 (f : Int), .int .i64 0, .int .i64 (t : Int), .int .i64 (x : Int), .int .i64 0, .slice none 0 0, .int .i64 0, .bool false, .string ⟨#[]⟩]] X (VAns w B gw s wh i f t x) := by
  obtain ⟨own, h1, h2, h3⟩ := h.nd
  have hl := h.asked.len
  obtain ⟨y, hy⟩ : ∃ y, wh[t]? = some y := ⟨_, List.getElem?_eq_getElem (by omega)⟩
  obtain ⟨s1, s2, s3, s4, s5⟩ := h.asked.step f t x hf ht hx y hy
  refine (Ask_c h1 f t x (h.asked.may f t x hf ht hx) (by have := h.asked.recs; omega)).mono ?_
  rintro e Y ⟨p, n, c, own', rfl, ha, hq⟩
  obtain ⟨a1, a2, a3⟩ := ha
  obtain ⟨qq, q1, q2, q3, q4⟩ := hq
  obtain ⟨g, off, c', hv, _, hc2, _, hcs⟩ := q2.cells (by show 0 < 1; omega)
  have hgP := q3 g (by rw [hv]; rfl)
  have hqq : ∃ v, qq = [(askA s f t x, v)] := by
    match qq, q1 with
    | [(a, v)], e => simp at e; exact ⟨v, by rw [e]⟩
  obtain ⟨v, rfl⟩ := hqq
  injection hv with e1 e2 e3
  subst e1 e2 e3
  have hs := h.old.size
  have o1 : ∀ k, own' k → w.heap.size ≤ k := fun k hk => by
    rcases a3 k hk with q | q
    · exact h2 k q
    · omega
  have o2 : ¬ own' gw := fun hk => by
    rcases a3 gw hk with q | q
    · exact h3 q
    · have := h.lt; omega
  have hgY : Y.heap[gw]? = X.heap[gw]? := a2.block gw h.lt h.ne h3
  have hold : Below w.heap.size w Y := h.old.trans (a2.below h.hB h2 hs)
  have hc' : ∀ (j : Nat) z, wh[j]? = some z → Y.cell? ⟨gw, j, none⟩ = some (.int .i64 z) := fun j z hz => (World.cell?_of_block (a := ⟨gw, j, none⟩) hgY).trans (h.c j z hz)
  have hf' : ∀ j, j < 40 → Y.frozen? ⟨gw, j, none⟩ = false := fun j hj => (World.frozen?_of_block (a := ⟨gw, j, none⟩) hgY).trans (h.fz j hj)
  have hlt' : gw < Y.heap.size := Nat.lt_of_lt_of_le h.lt a2.size
  refine ⟨g, off, c', rfl, hgP.2, hgP.1.2.1, hc2, ?_, ?_, ?_, ?_, fun hok y' hy' => ?_, fun hok => ?_⟩
  · have := hcs 0 (.int .i64 (askA s f t x).kind) rfl
    rw [s1] at this
    exact this
  · have := hcs 3 (.int .i64 (askA s f t x).to) rfl
    rw [s2] at this
    exact this
  · exact hcs 4 (.int .i64 (askA s f t x).term) rfl
  · exact hcs 9 (.bool (askA s f t x).ok) rfl
  · rw [hy] at hy'
    injection hy' with hy'
    subst hy'
    obtain ⟨t1, t2, t3, t4, t5⟩ := s4 hok
    refine ⟨t1, t2, t3, t4, hc' t y hy, hf' t (by omega), fun Z hZ => ?_, fun Z hZ => ?_⟩
    · refine (Saved_c (a1.below hZ)).mono ?_
      rintro e Z' ⟨p, n, c, rfl, hb, _⟩
      refine ⟨⟨(N.saved (askS s f t x)).base, (N.saved (askS s f t x)).baseTerm, (N.saved (askS s f t x)).data, p, n, c, ?_⟩, hb⟩
      unfold svV
      have e1 : (N.saved (askS s f t x)).term = (t : Int) := t3
      have e2 : (N.saved (askS s f t x)).vote = (f : Int) := t4
      rw [e1, e2]
    · have zc : ∀ j, Z.cell? ⟨gw, j, none⟩ = Y.cell? ⟨gw, j, none⟩ := fun j => hZ.cell (p := ⟨gw, j, none⟩) hlt'
      have zf : ∀ j, Z.frozen? ⟨gw, j, none⟩ = Y.frozen? ⟨gw, j, none⟩ := fun j => hZ.frozen (p := ⟨gw, j, none⟩) hlt'
      have hzs := hZ.size
      have hnd : Nd (Z.setCell ⟨gw, t, none⟩ (.int .i64 (f : Int))) B (askS s f t x) own' := by
        obtain ⟨LB, MB, ol, rv, hv⟩ := a1.below hZ
        exact (hv.carry (by rw [size_set6]; exact Nat.le_refl _) (Below.heap_setCell _ _ _ _ (fun e => h.ne e.symm)) (fun k hk => Below.heap_setCell _ _ _ _ (fun e => o2 (by have e' : k = gw := e; rw [← e']; exact hk)))).nd
      refine ⟨⟨own', hnd, o1, o2⟩, ?_, h.hB, h.hg, h.ne, by rw [size_set6]; omega, fun j z hz => ?_, fun j hj => ?_, t5⟩
      · exact (hold.trans (hZ.mono hold.size)).setCell (p := ⟨gw, t, none⟩) (by show _ ≤ gw; exact h.hg) _
      · rw [cell_set6 _ ((zc t).trans (hc' t y hy)) j]
        rcases getElem?_set' hz with ⟨rfl, rfl⟩ | ⟨q1, q2⟩
        · rw [if_pos rfl]
        · rw [if_neg q1, zc]
          exact hc' j z q2
      · rw [World.frozen?_setCell, zf]
        exact hf' j hj
  · exact ⟨⟨own', a1, o1, o2⟩, hold, h.hB, h.hg, h.ne, hlt', hc', hf', s5 hok⟩

/-- It begins anew, as it was saved. -/
theorem Vw.saved (h : Vw w B gw s wh i X) : Calls Try.prog 15 #[.pointer (some ⟨B, 0, none⟩)] X (fun e Y => ∃ p n c, e = .returned (svV (N.saved s) (.slice p n c)) ∧ Vw w B gw s wh i Y ∧ EntRd Y (.slice p n c) (N.saved s).ents) := by
  obtain ⟨own, h1, h2, h3⟩ := h.nd
  refine (Saved_c h1).mono ?_
  rintro e Y ⟨p, n, c, rfl, hb, hq⟩
  exact ⟨p, n, c, rfl, h.below hb, EntRd.ofRow hq.1⟩
theorem Vw.anew (h : Vw w B gw s wh i X) {v : Value} (hv : EntRd X v (N.saved s).ents) : Calls Try.prog 24 #[.int .i64 0, .int .i64 0, .int .i64 5, svV (N.saved s) v, .int .i64 0] X (fun e Y => ∃ B', e = .returned (.tuple #[.pointer (some ⟨B', 0, none⟩), .int .i64 0]) ∧ Vw w B' gw (N.new 0 0 5 (N.saved s) 0) wh i Y) := by
  have hvo := h.asked.vote
  refine (New_c X 0 0 5 (N.saved s) v 0 ⟨by decide, by decide⟩ (by decide) (by decide) h.asked.svOk ⟨by show -1 ≤ s.vote; omega, by show s.vote < 5; omega⟩ (by decide) hv).mono ?_
  rintro e Y ⟨B', rfl, n1, n2, n3⟩
  have hs := h.old.size
  have hl := h.lt
  refine ⟨B', rfl, ⟨⟨_, n2, fun k hk => by omega, fun hk => by omega⟩, h.old.trans (n3.mono hs), by omega, h.hg, by omega, Nat.lt_of_lt_of_le h.lt n3.size, fun j x hx => (n3.cell (p := ⟨gw, j, none⟩) h.lt).trans (h.c j x hx), fun j hj => (n3.frozen (p := ⟨gw, j, none⟩) h.lt).trans (h.fz j hj), h.asked.anew⟩⟩

end
end Go.Proofs.Yteaopnhjndnpnaa
