/-
  The document's model over plain lists: channels that rise by their names, members that rise; what an op does to it is what it does to a model.
-/
import Derived.Test.YtkioeahlajjmiaaMoMath
namespace Go.Proofs.Ytkioeahlajjmiaa.Mp
open Mo

/-! ### lists that rise -/
structure Lin {K : Type} (lt : K → K → Prop) : Prop where
  irr : ∀ a, ¬ lt a a
  tr : ∀ a b c, lt a b → lt b c → lt a c
  tri : ∀ a b, lt a b ∨ a = b ∨ lt b a
/-- One step of putting c into a list. -/
def st {α K : Type} (key : α → K) (lt : K → K → Prop) [DecidableEq K] [DecidableRel lt] (c : α) (s : List α × Bool) (x : α) : List α × Bool := if key x = key c then s else if s.2 = false ∧ lt (key c) (key x) then (s.1 ++ [c] ++ [x], true) else (s.1 ++ [x], s.2)
def fin {α : Type} (c : α) (s : List α × Bool) : List α := if s.2 = true then s.1 else s.1 ++ [c]
/-- A list with c in its place. -/
def ins {α K : Type} (key : α → K) (lt : K → K → Prop) [DecidableRel lt] (c : α) (l : List α) : List α := l.filter (fun x => decide (lt (key x) (key c))) ++ c :: l.filter (fun x => decide (lt (key c) (key x)))
def Sorted {α K : Type} (key : α → K) (lt : K → K → Prop) (l : List α) : Prop := l.Pairwise (fun a b => lt (key a) (key b))
theorem sorted_uniq {α K : Type} {key : α → K} {lt : K → K → Prop} (H : Lin lt) {l : List α} (h : Sorted key lt l) {a b : α} (ha : a ∈ l) (hb : b ∈ l) (e : key a = key b) : a = b := by
  induction l with
  | nil => cases ha
  | cons x l ih =>
    obtain ⟨h1, h2⟩ := List.pairwise_cons.1 h
    rcases List.mem_cons.1 ha with p | p <;> rcases List.mem_cons.1 hb with q | q
    · rw [p, q]
    · exact absurd (h1 b q) (by rw [← p, e]; exact H.irr _)
    · exact absurd (h1 a p) (by rw [← q, ← e]; exact H.irr _)
    · exact ih h2 p q
section
variable {α K : Type} {key : α → K} {lt : K → K → Prop} [DecidableRel lt]
theorem filt_all (H : Lin lt) {c : α} (l : List α) (h : ∀ x ∈ l, lt (key c) (key x)) : l.filter (fun x => decide (lt (key x) (key c))) = [] ∧ l.filter (fun x => decide (lt (key c) (key x))) = l := by
  refine ⟨List.filter_eq_nil_iff.2 (fun x hx => ?_), List.filter_eq_self.2 (fun x hx => decide_eq_true (h x hx))⟩
  simp
  exact fun e => H.irr _ (H.tr _ _ _ e (h x hx))
theorem ins_mem (H : Lin lt) {c : α} {l : List α} {x : α} : x ∈ ins key lt c l ↔ x = c ∨ (x ∈ l ∧ key x ≠ key c) := by
  unfold ins
  simp only [List.mem_append, List.mem_cons, List.mem_filter, decide_eq_true_eq]
  constructor
  · rintro (⟨h1, h2⟩ | h | ⟨h1, h2⟩)
    · exact .inr ⟨h1, fun e => H.irr _ (e ▸ h2)⟩
    · exact .inl h
    · exact .inr ⟨h1, fun e => H.irr _ (e ▸ h2)⟩
  · rintro (h | ⟨h1, h2⟩)
    · exact .inr (.inl h)
    · rcases H.tri (key x) (key c) with q | q | q
      · exact .inl ⟨h1, q⟩
      · exact absurd q h2
      · exact .inr (.inr ⟨h1, q⟩)
theorem ins_sorted (H : Lin lt) {c : α} {l : List α} (h : Sorted key lt l) : Sorted key lt (ins key lt c l) := by
  unfold ins Sorted
  refine List.pairwise_append.2 ⟨h.filter _, List.pairwise_cons.2 ⟨fun x hx => ?_, h.filter _⟩, fun a ha b hb => ?_⟩
  · simpa using (List.mem_filter.1 hx).2
  · have h1 : lt (key a) (key c) := by simpa using (List.mem_filter.1 ha).2
    rcases List.mem_cons.1 hb with q | q
    · rw [q]; exact h1
    · have h2 : lt (key c) (key b) := by simpa using (List.mem_filter.1 q).2
      exact H.tr _ _ _ h1 h2
end
section
variable {α K : Type} {key : α → K} {lt : K → K → Prop} [DecidableEq K] [DecidableRel lt]
theorem st_done (H : Lin lt) {c : α} : ∀ (l o : List α), (∀ x ∈ l, lt (key c) (key x)) → l.foldl (st key lt c) (o, true) = (o ++ l, true)
  | [], o, _ => by simp
  | x :: l, o, h => by
    have hx := h x List.mem_cons_self
    have hne : ¬ key x = key c := fun e => H.irr _ (e ▸ hx)
    have e : st key lt c (o, true) x = (o ++ [x], true) := by simp [st, hne]
    rw [List.foldl_cons, e, st_done H l _ (fun y hy => h y (List.mem_cons_of_mem _ hy))]
    simp
theorem st_all (H : Lin lt) {c : α} : ∀ (l o : List α), Sorted key lt l → fin c (l.foldl (st key lt c) (o, false)) = o ++ ins key lt c l
  | [], o, _ => by simp [fin, ins]
  | x :: l, o, h => by
    obtain ⟨h1, h2⟩ := List.pairwise_cons.1 h
    rw [List.foldl_cons]
    rcases H.tri (key x) (key c) with q | q | q
    · have hne : ¬ key x = key c := fun e => H.irr _ (e ▸ q)
      have hnl : ¬ lt (key c) (key x) := fun e => H.irr _ (H.tr _ _ _ e q)
      have e : st key lt c (o, false) x = (o ++ [x], false) := by simp [st, hne, hnl]
      rw [e, st_all H l _ h2]
      simp [ins, q, hnl]
    · have hir : ¬ lt (key c) (key x) := fun e => H.irr _ (q ▸ e)
      have hir2 : ¬ lt (key x) (key c) := fun e => H.irr _ (q ▸ e)
      have e : st key lt c (o, false) x = (o, false) := by simp [st, q]
      rw [e, st_all H l o h2]
      simp [ins, hir, hir2]
    · have hne : ¬ key x = key c := fun e => H.irr _ (e ▸ q)
      have hnl : ¬ lt (key x) (key c) := fun e => H.irr _ (H.tr _ _ _ e q)
      have hall : ∀ y ∈ l, lt (key c) (key y) := fun y hy => H.tr _ _ _ q (h1 y hy)
      have e : st key lt c (o, false) x = (o ++ [c] ++ [x], true) := by simp [st, hne, q]
      rw [e, st_done H l _ hall]
      have hr := filt_all H l hall
      simp [ins, fin, q, hnl, hr.1, hr.2]
end

/-! ### names -/
abbrev ltB (x y : ByteArray) : Prop := x.data.toList < y.data.toList
theorem ba_ext {x y : ByteArray} (h : x.data.toList = y.data.toList) : x = y := by
  obtain ⟨⟨x⟩⟩ := x
  obtain ⟨⟨y⟩⟩ := y
  simp at h
  rw [h]
theorem linB : Lin ltB where
  irr a := List.lt_irrefl _
  tr a b c h1 h2 := List.lt_trans h1 h2
  tri a b := by
    by_cases h : a.data.toList < b.data.toList
    · exact .inl h
    · by_cases h' : b.data.toList < a.data.toList
      · exact .inr (.inr h')
      · exact .inr (.inl (ba_ext (List.le_antisymm (List.not_lt.1 h') (List.not_lt.1 h))))
abbrev ltK (a b : ByteArray × ByteArray) : Prop := ltB a.1 b.1 ∨ (a.1 = b.1 ∧ ltB a.2 b.2)
theorem linK : Lin ltK where
  irr a h := by rcases h with h | ⟨_, h⟩ <;> exact linB.irr _ h
  tr a b c h1 h2 := by
    rcases h1 with h1 | ⟨e1, h1⟩ <;> rcases h2 with h2 | ⟨e2, h2⟩
    · exact .inl (linB.tr _ _ _ h1 h2)
    · exact .inl (e2 ▸ h1)
    · exact .inl (e1 ▸ h2)
    · exact .inr ⟨e1.trans e2, linB.tr _ _ _ h1 h2⟩
  tri a b := by
    obtain ⟨a1, a2⟩ := a
    obtain ⟨b1, b2⟩ := b
    rcases linB.tri a1 b1 with q | q | q
    · exact .inl (.inl q)
    · subst q
      rcases linB.tri a2 b2 with q | q | q
      · exact .inl (.inr ⟨rfl, q⟩)
      · subst q; exact .inr (.inl rfl)
      · exact .inr (.inr (.inr ⟨rfl, q⟩))
    · exact .inr (.inr (.inl q))

/-- Whether a name is one of a list's. -/
def isIn (a : ByteArray) (l : List ByteArray) : Bool := l.any (fun x => decide (x = a))
theorem isIn_iff {a : ByteArray} {l : List ByteArray} : isIn a l = true ↔ a ∈ l := by
  unfold isIn
  rw [List.any_eq_true]
  constructor
  · rintro ⟨x, hx, e⟩
    rw [← of_decide_eq_true e]; exact hx
  · intro h
    exact ⟨a, h, decide_eq_true rfl⟩
theorem isIn_no {a : ByteArray} {l : List ByteArray} : isIn a l = false ↔ a ∉ l := by
  rw [← isIn_iff]
  cases isIn a l <;> simp
theorem isIn_ext {a b : ByteArray} {l m : List ByteArray} (h : a ∈ l ↔ b ∈ m) : isIn a l = isIn b m := by
  cases e : isIn b m with
  | true => exact isIn_iff.2 (h.2 (isIn_iff.1 e))
  | false => exact isIn_no.2 (fun q => isIn_no.1 e (h.1 q))
/-- A channel of the document's. -/
structure Cn where
  space : ByteArray
  name : ByteArray
  mems : List ByteArray
  posts : List Po
def Cn.key (c : Cn) : ByteArray × ByteArray := (c.space, c.name)
structure Dm where
  list : List Cn
  off : List ByteArray
def toCh (c : Cn) : Ch := ⟨fun a => isIn a c.mems, c.posts⟩
def look (q : Dm) (x y : ByteArray) : Option Cn := q.list.find? (fun c => decide (c.key = (x, y)))
abbrev insS (s : ByteArray) (l : List ByteArray) : List ByteArray := ins id ltB s l
def put (q : Dm) (c : Cn) : Dm := ⟨ins Cn.key ltK c q.list, q.off⟩
def drop (q : Dm) (x y : ByteArray) : Dm := ⟨q.list.filter (fun c => decide (c.key ≠ (x, y))), q.off⟩
def close (q : Dm) (x : ByteArray) : Dm := ⟨q.list.filter (fun c => decide (c.space ≠ x)), q.off⟩
def lessS (s : ByteArray) (l : List ByteArray) : List ByteArray := l.filter (fun x => decide (x ≠ s))
def lessC (u : ByteArray) (c : Cn) : Cn := ⟨c.space, c.name, lessS u c.mems, c.posts⟩
def offD (q : Dm) (u : ByteArray) : Dm := ⟨q.list.map (lessC u), insS u q.off⟩

/-- What is done to a channel. -/
def inner (q : Dm) (c : Cn) (o : Op) : Dm × Re :=
  if o.kind = 2 then (if isIn o.user q.off = true then (q, ⟨92, 0, []⟩) else if isIn o.user c.mems = true then (q, ⟨90, 0, []⟩) else (put q ⟨c.space, c.name, insS o.user c.mems, c.posts⟩, ⟨0, 0, []⟩))
  else if o.kind = 3 then (if isIn o.user q.off = true then (q, ⟨92, 0, []⟩) else if isIn o.user c.mems = false then (q, ⟨91, 0, []⟩) else if 1024 ≤ c.posts.length then (q, ⟨2, 0, []⟩) else (put q ⟨c.space, c.name, c.mems, c.posts ++ [⟨o.user, o.text⟩]⟩, ⟨0, (c.posts.length : Int), []⟩))
  else if o.kind = 4 then (q, ⟨0, (endN o (toCh c) : Int), (c.posts.drop (frmN o (toCh c))).take (endN o (toCh c) - frmN o (toCh c))⟩)
  else match look q o.toSpace o.to with
    | some _ => (q, ⟨90, 0, []⟩)
    | none => (put (drop q o.space o.channel) ⟨o.toSpace, o.to, c.mems, c.posts⟩, ⟨0, 0, []⟩)
/-- What is done. -/
def dDo (q : Dm) (o : Op) : Dm × Re :=
  if may o = false then (q, ⟨1, 0, []⟩)
  else if o.kind = 1 then (match look q o.space o.channel with | some _ => (q, ⟨90, 0, []⟩) | none => (put q ⟨o.space, o.channel, [], []⟩, ⟨0, 0, []⟩))
  else if o.kind = 6 then (close q o.space, ⟨0, 0, []⟩)
  else if o.kind = 7 then (if isIn o.user q.off = true then (q, ⟨92, 0, []⟩) else (offD q o.user, ⟨0, 0, []⟩))
  else match look q o.space o.channel with
    | none => (q, ⟨3, 0, []⟩)
    | some c => inner q c o

/-- A model, and the document's. -/
structure Rel (s : St) (q : Dm) : Prop where
  rise : Sorted Cn.key ltK q.list
  mems : ∀ c ∈ q.list, Sorted id ltB c.mems
  ch : ∀ x y, s.ch x y = (look q x y).map toCh
  off : s.off = fun a => isIn a q.off
  offS : Sorted id ltB q.off
  few : ∀ c ∈ q.list, c.posts.length ≤ 1024

theorem look_iff {q : Dm} (h : Sorted Cn.key ltK q.list) {x y : ByteArray} {c : Cn} : look q x y = some c ↔ c ∈ q.list ∧ c.key = (x, y) := by
  unfold look
  constructor
  · intro e
    exact ⟨List.mem_of_find?_eq_some e, by simpa using List.find?_some e⟩
  · rintro ⟨h1, h2⟩
    cases e : q.list.find? (fun c => decide (c.key = (x, y))) with
    | none => exact absurd (by simpa using h2) (List.find?_eq_none.1 e c h1)
    | some d =>
      have e1 := List.mem_of_find?_eq_some e
      have e2 : d.key = (x, y) := by simpa using List.find?_some e
      rw [sorted_uniq linK h e1 h1 (e2.trans h2.symm)]
theorem look_none {q : Dm} {x y : ByteArray} (h : look q x y = none) {c : Cn} (hc : c ∈ q.list) : c.key ≠ (x, y) := by
  have := List.find?_eq_none.1 h c hc
  simpa using this
theorem look_put {q : Dm} (h : Sorted Cn.key ltK q.list) (c : Cn) (x y : ByteArray) : look (put q c) x y = if (x, y) = c.key then some c else look q x y := by
  refine Option.ext fun d => ?_
  rw [look_iff (q := put q c) (ins_sorted linK h)]
  show d ∈ ins Cn.key ltK c q.list ∧ _ ↔ _
  rw [ins_mem linK]
  split
  · rename_i e
    constructor
    · rintro ⟨q1 | ⟨q1, q2⟩, q3⟩
      · rw [q1]
      · exact absurd (q3.trans e) q2
    · intro q1
      injection q1 with q1
      exact ⟨.inl q1.symm, by rw [← q1, e]⟩
  · rename_i e
    rw [look_iff h]
    constructor
    · rintro ⟨q1 | ⟨q1, q2⟩, q3⟩
      · exact absurd (by rw [← q3, q1]) e
      · exact ⟨q1, q3⟩
    · rintro ⟨q1, q3⟩
      exact ⟨.inr ⟨q1, fun q4 => e (by rw [← q3, q4])⟩, q3⟩
theorem look_filter {q : Dm} (h : Sorted Cn.key ltK q.list) (p : Cn → Bool) (f : List ByteArray) (x y : ByteArray) : look ⟨q.list.filter p, f⟩ x y = (look q x y).filter p := by
  refine Option.ext fun d => ?_
  rw [look_iff (q := ⟨q.list.filter p, f⟩) (h.filter _), Option.filter_eq_some_iff, look_iff h, List.mem_filter]
  constructor
  · rintro ⟨⟨a, b⟩, c⟩; exact ⟨⟨a, c⟩, b⟩
  · rintro ⟨⟨a, c⟩, b⟩; exact ⟨⟨a, b⟩, c⟩
theorem lessS_mem {s : ByteArray} {l : List ByteArray} {a : ByteArray} : a ∈ lessS s l ↔ a ∈ l ∧ a ≠ s := by
  unfold lessS
  rw [List.mem_filter]
  simp
theorem look_off (q : Dm) (u x y : ByteArray) (f : List ByteArray) : look ⟨q.list.map (lessC u), f⟩ x y = (look q x y).map (lessC u) := by
  unfold look
  dsimp only
  rw [List.find?_map]
  rfl

theorem Rel.new : Rel Mo.new ⟨[], []⟩ := ⟨List.Pairwise.nil, fun _ hc => (nomatch hc), fun _ _ => rfl, (by funext a; rfl), List.Pairwise.nil, fun _ hc => (nomatch hc)⟩

theorem Rel.put {s : St} {q : Dm} (h : Rel s q) (c : Cn) (hm : Sorted id ltB c.mems) (hp : c.posts.length ≤ 1024) : Rel (setC s c.space c.name (some (toCh c))) (put q c) := by
  refine ⟨ins_sorted linK h.rise, fun d hd => ?_, fun x y => ?_, h.off, h.offS, fun d hd => ?_⟩
  · rcases (ins_mem linK).1 hd with e | e
    · rw [e]; exact hm
    · exact h.mems d e.1
  · rw [look_put h.rise]
    unfold setC
    dsimp only
    by_cases e : x = c.space ∧ y = c.name
    · rw [if_pos e, if_pos (by rw [e.1, e.2]; rfl)]
      rfl
    · rw [if_neg e, if_neg (by intro q; injection q with q1 q2; exact e ⟨q1, q2⟩)]
      exact h.ch x y
  · rcases (ins_mem linK).1 hd with e | e
    · rw [e]; exact hp
    · exact h.few d e.1
theorem Rel.drop {s : St} {q : Dm} (h : Rel s q) (x y : ByteArray) : Rel (setC s x y none) (drop q x y) := by
  refine ⟨h.rise.filter _, fun d hd => h.mems d (List.mem_filter.1 hd).1, fun a b => ?_, h.off, h.offS, fun d hd => h.few d (List.mem_filter.1 hd).1⟩
  show _ = (look ⟨q.list.filter _, q.off⟩ a b).map toCh
  rw [look_filter h.rise]
  unfold setC
  dsimp only
  cases e : look q a b with
  | none =>
    have := h.ch a b
    rw [e] at this
    split
    · rfl
    · rw [this]; rfl
  | some c =>
    have hk := ((look_iff h.rise).1 e).2
    have := h.ch a b
    rw [e] at this
    by_cases e2 : a = x ∧ b = y
    · rw [if_pos e2]
      simp [Option.filter, hk, e2]
    · rw [if_neg e2, this]
      have : ¬ (a, b) = (x, y) := fun q => e2 (by injection q with q1 q2; exact ⟨q1, q2⟩)
      simp [Option.filter, hk, this]
theorem Rel.close {s : St} {q : Dm} (h : Rel s q) (x : ByteArray) : Rel { s with ch := fun a b => if a = x then none else s.ch a b } (close q x) := by
  refine ⟨h.rise.filter _, fun d hd => h.mems d (List.mem_filter.1 hd).1, fun a b => ?_, h.off, h.offS, fun d hd => h.few d (List.mem_filter.1 hd).1⟩
  show _ = (look ⟨q.list.filter _, q.off⟩ a b).map toCh
  rw [look_filter h.rise]
  dsimp only
  cases e : look q a b with
  | none =>
    have := h.ch a b
    rw [e] at this
    split
    · rfl
    · rw [this]; rfl
  | some c =>
    have hk := ((look_iff h.rise).1 e).2
    have hs : c.space = a := congrArg Prod.fst hk
    have := h.ch a b
    rw [e] at this
    by_cases e2 : a = x
    · rw [if_pos e2]
      simp [Option.filter, hs, e2]
    · rw [if_neg e2, this]
      simp [Option.filter, hs, e2]
theorem sorted_map {u : ByteArray} {l : List Cn} (h : Sorted Cn.key ltK l) : Sorted Cn.key ltK (l.map (lessC u)) := by
  unfold Sorted
  rw [List.pairwise_map]
  exact h
theorem Rel.offs {s : St} {q : Dm} (h : Rel s q) (u : ByteArray) : Rel ⟨fun a b => (s.ch a b).map (lessM · u), fun x => if x = u then true else s.off x⟩ (offD q u) := by
  refine ⟨sorted_map h.rise, fun d hd => ?_, fun a b => ?_, ?_, ins_sorted linB h.offS, fun d hd => ?_⟩
  · obtain ⟨c, hc, rfl⟩ := List.mem_map.1 hd
    exact (h.mems c hc).filter _
  · show _ = (look ⟨q.list.map (lessC u), _⟩ a b).map toCh
    rw [look_off]
    dsimp only
    rw [h.ch]
    cases look q a b with
    | none => rfl
    | some c =>
      show some _ = some _
      congr 1
      show (⟨_, _⟩ : Ch) = ⟨_, _⟩
      congr 1
      funext z
      show (if z = u then false else isIn z c.mems) = isIn z (lessS u c.mems)
      by_cases e : z = u
      · rw [if_pos e]
        exact (isIn_no.2 (fun m => (lessS_mem.1 m).2 e)).symm
      · rw [if_neg e]
        refine isIn_ext ?_
        rw [lessS_mem]
        exact ⟨fun m => ⟨m, e⟩, fun m => m.1⟩
  · funext z
    show (if z = u then true else s.off z) = isIn z (insS u q.off)
    rw [h.off]
    by_cases e : z = u
    · rw [if_pos e]
      exact (isIn_iff.2 ((ins_mem linB).2 (.inl e))).symm
    · rw [if_neg e]
      refine isIn_ext ?_
      rw [ins_mem linB]
      exact ⟨fun m => .inr ⟨m, e⟩, fun m => m.resolve_left e |>.1⟩
  · obtain ⟨c, hc, rfl⟩ := List.mem_map.1 hd
    exact h.few c hc

theorem chk {c : Cn} {x y : ByteArray} (h : c.key = (x, y)) : c.space = x ∧ c.name = y := by
  injection h with h1 h2
  exact ⟨h1, h2⟩
theorem withM_ins (c : Cn) (u : ByteArray) : toCh ⟨c.space, c.name, insS u c.mems, c.posts⟩ = withM (toCh c) u := by
  unfold toCh withM
  dsimp only
  congr 1
  funext z
  by_cases e : z = u
  · rw [if_pos e]
    exact isIn_iff.2 ((ins_mem linB).2 (.inl e))
  · rw [if_neg e]
    refine isIn_ext ?_
    rw [ins_mem linB]
    exact ⟨fun m => m.resolve_left e |>.1, fun m => .inr ⟨m, e⟩⟩

/-- What an op does is what it does to the document's; so is what it answers. -/
theorem Rel.step {s : St} {q : Dm} (h : Rel s q) (o : Op) : Rel (Mo.does s o) (dDo q o).1 ∧ tells s o = (dDo q o).2 := by
  unfold Mo.does tells dDo
  by_cases hm : may o = false
  · rw [if_pos hm, if_pos hm, if_pos hm]; exact ⟨h, rfl⟩
  rw [if_neg hm, if_neg hm, if_neg hm]
  have hof : ∀ u, s.off u = isIn u q.off := fun u => by rw [h.off]
  by_cases h1 : o.kind = 1
  · rw [if_pos h1, if_pos h1, if_pos h1, h.ch]
    cases e : look q o.space o.channel with
    | some c => exact ⟨h, rfl⟩
    | none => exact ⟨h.put ⟨o.space, o.channel, [], []⟩ List.Pairwise.nil (by simp), rfl⟩
  rw [if_neg h1, if_neg h1, if_neg h1]
  by_cases h6 : o.kind = 6
  · have n2 : ¬ o.kind = 2 := by omega
    have n3 : ¬ o.kind = 3 := by omega
    have n4 : ¬ o.kind = 4 := by omega
    have n5 : ¬ o.kind = 5 := by omega
    simp only [if_neg n2, if_neg n3, if_neg n4, if_neg n5, if_pos h6]
    exact ⟨h.close _, trivial⟩
  by_cases h7 : o.kind = 7
  · have n2 : ¬ o.kind = 2 := by omega
    have n3 : ¬ o.kind = 3 := by omega
    have n4 : ¬ o.kind = 4 := by omega
    have n5 : ¬ o.kind = 5 := by omega
    simp only [if_neg n2, if_neg n3, if_neg n4, if_neg n5, if_neg h6, if_pos h7, hof]
    by_cases e : isIn o.user q.off = true
    · simp only [if_pos e]
      exact ⟨h, trivial⟩
    · simp only [if_neg e]
      have hr := h.offs o.user
      simp only [hof] at hr
      exact ⟨hr, trivial⟩
  simp only [if_neg h6, if_neg h7]
  have hx := h.ch o.space o.channel
  cases e : look q o.space o.channel with
  | none =>
    rw [e] at hx
    rw [hx]
    dsimp only [Option.map_none]
    by_cases h2 : o.kind = 2
    · simp only [if_pos h2]; exact ⟨h, trivial⟩
    by_cases h3 : o.kind = 3
    · simp only [if_neg h2, if_pos h3]; exact ⟨h, trivial⟩
    by_cases h4 : o.kind = 4
    · simp only [if_neg h2, if_neg h3, if_pos h4]; exact ⟨h, trivial⟩
    by_cases h5 : o.kind = 5
    · simp only [if_neg h2, if_neg h3, if_neg h4, if_pos h5]; exact ⟨h, trivial⟩
    · exfalso
      unfold may at hm
      simp [h1, h2, h3, h4, h5, h6, h7] at hm
  | some c =>
    rw [e] at hx
    obtain ⟨hc, hk⟩ := (look_iff h.rise).1 e
    obtain ⟨k1, k2⟩ := chk hk
    rw [hx]
    unfold inner
    dsimp only [Option.map_some]
    by_cases h2 : o.kind = 2
    · simp only [if_pos h2, hof]
      by_cases e1 : isIn o.user q.off = true
      · simp only [if_pos e1]; exact ⟨h, trivial⟩
      have hmm : (toCh c).mem o.user = isIn o.user c.mems := rfl
      simp only [if_neg e1, hmm]
      by_cases e2 : isIn o.user c.mems = true
      · simp only [if_pos e2]; exact ⟨h, trivial⟩
      · simp only [if_neg e2]
        refine ⟨?_, trivial⟩
        have := h.put ⟨c.space, c.name, insS o.user c.mems, c.posts⟩ (ins_sorted linB (h.mems c hc)) (h.few c hc)
        rw [withM_ins] at this
        rw [k1, k2] at this ⊢
        exact this
    by_cases h3 : o.kind = 3
    · have hmm : (toCh c).mem o.user = isIn o.user c.mems := rfl
      have hpp : (toCh c).posts = c.posts := rfl
      simp only [if_neg h2, if_pos h3, mayPost, hof, hmm, hpp]
      by_cases e1 : isIn o.user q.off = true
      · simp only [if_pos e1]; exact ⟨h, rfl⟩
      simp only [if_neg e1]
      by_cases e2 : isIn o.user c.mems = false
      · simp only [if_pos e2]; exact ⟨h, rfl⟩
      simp only [if_neg e2]
      by_cases e3 : 1024 ≤ c.posts.length
      · simp only [if_pos e3]; exact ⟨h, rfl⟩
      · simp only [if_neg e3]
        refine ⟨?_, rfl⟩
        have := h.put ⟨c.space, c.name, c.mems, c.posts ++ [⟨o.user, o.text⟩]⟩ (h.mems c hc) (by simp; omega)
        rw [k1, k2] at this ⊢
        exact this
    by_cases h4 : o.kind = 4
    · simp only [if_neg h2, if_neg h3, if_pos h4]
      exact ⟨h, rfl⟩
    by_cases h5 : o.kind = 5
    · simp only [if_neg h2, if_neg h3, if_neg h4, if_pos h5]
      rw [h.ch o.toSpace o.to]
      cases e5 : look q o.toSpace o.to with
      | some d => exact ⟨h, rfl⟩
      | none => exact ⟨(h.drop o.space o.channel).put ⟨o.toSpace, o.to, c.mems, c.posts⟩ (h.mems c hc) (h.few c hc), rfl⟩
    · exfalso
      unfold may at hm
      simp [h1, h2, h3, h4, h5, h6, h7] at hm

end Go.Proofs.Ytkioeahlajjmiaa.Mp
