/-
  A table in memory: its block, its map from sessions to what they asked last; posts that are read alone.
-/
import Derived.Test.YtepbmfjimppgcaaMoRow
import Derived.Test.YtepbmfjimppgcaaSeMath
import Derived.Maps.RangeWalk
import Derived.Maps.Ext
namespace Go.Proofs.Ytepbmfjimppgcaa
open Go.RowKit Go.WideMaps
open Go.MapKept

/-- A number of 64 bits. -/
def se_In64 (a : Int) : Prop := -9223372036854775808 ≤ a ∧ a ≤ 9223372036854775807
theorem wf64 {a : Int} (h : se_In64 a) : (Lit.int .i64 a).wf = true := WalkArith.wf_i64 h
theorem intKeyed : Maps.Keyed Try.prog 3 := Maps.int_keyed Try.underlying3
theorem keyInt {a : Int} (h : se_In64 a) : keyOf Try.prog 3 (.int .i64 a) = some (.int .i64 a) := Maps.keyOf_int_mk Try.underlying3 (wf64 h)

/-- An element as it is. -/
def valElem (v : Value) : Option (DataW Value × List MemPlace) := some (.held v, [])
def enE (p : Int × Value) : Lit × DataW Value := (.int .i64 p.1, .held p.2)
def dat (m : List (Int × Value)) : DataW Value := .map (m.map enE)

def vget : List (Int × Value) → Int → Option Value
  | [], _ => none
  | (k, v) :: r, x => if k = x then some v else vget r x

theorem dat_at (x : Int) (z : Value) : ∀ m : List (Int × Value), (dat m).atKey (.int .i64 x) (.held z) = .held ((vget m x).getD z)
  | [] => rfl
  | (k, v) :: r => by
    have ih := dat_at x z r
    unfold dat DataW.atKey at ih ⊢
    dsimp only at ih ⊢
    rw [List.map_cons, List.find?_cons]
    by_cases h : k = x
    · have : ((enE (k, v)).1.sameKey (.int .i64 x)) = true := by simp [enE, Lit.sameKey, h]
      rw [this]
      simp [vget, h, enE]
    · have : ((enE (k, v)).1.sameKey (.int .i64 x)) = false := by simp [enE, Lit.sameKey, h]
      rw [this]
      unfold vget
      rw [if_neg h]
      exact ih
theorem dat_has (x : Int) : ∀ m : List (Int × Value), Maps.has (dat m) (.int .i64 x) = (vget m x).isSome
  | [] => rfl
  | (k, v) :: r => by
    have ih := dat_has x r
    unfold dat Maps.has at ih ⊢
    dsimp only at ih ⊢
    rw [List.map_cons, List.any_cons, ih]
    by_cases h : k = x
    · simp [enE, Lit.sameKey, h, vget]
    · have : ((enE (k, v)).1.sameKey (.int .i64 x)) = false := by simp [enE, Lit.sameKey, h]
      have e : vget ((k, v) :: r) x = vget r x := by show (if k = x then _ else _) = _; rw [if_neg h]
      rw [this, e]
      rfl
theorem dat_filter (x : Int) : ∀ m : List (Int × Value), (∀ p ∈ m, x < p.1) → (m.map enE).filter (fun p => !p.1.sameKey (.int .i64 x)) = m.map enE
  | [], _ => rfl
  | (k, v) :: r, h => by
    have h1 : x < k := h (k, v) List.mem_cons_self
    have : ((enE (k, v)).1.sameKey (.int .i64 x)) = false := by simp [enE, Lit.sameKey]; omega
    rw [List.map_cons, List.filter_cons, this, dat_filter x r fun p hp => h p (List.mem_cons_of_mem _ hp)]
    rfl
theorem dat_insert (x : Int) (v : Value) : ∀ m : List (Int × Value), Se.Rise m → DataW.insert (.int .i64 x, .held v) ((m.map enE).filter fun p => !p.1.sameKey (.int .i64 x)) = (Se.ins x v m).map enE
  | [], _ => rfl
  | (k, u) :: r, h => by
    obtain ⟨h1, h2⟩ := List.pairwise_cons.1 h
    by_cases hx : x < k
    · rw [dat_filter x _ (fun p hp => by
        rcases List.mem_cons.1 hp with e | e
        · rw [e]; exact hx
        · have h3 : k < p.1 := h1 p e
          omega)]
      have hb : (Lit.int .i64 x).before (enE (k, u)).1 = true := by simp [enE, Lit.before, hx]
      rw [List.map_cons]
      unfold DataW.insert Se.ins
      rw [if_pos hb, if_pos hx]
      rfl
    · by_cases he : k = x
      · have hs : ((enE (k, u)).1.sameKey (.int .i64 x)) = true := by simp [enE, Lit.sameKey, he]
        rw [List.map_cons, List.filter_cons, hs]
        simp only [Bool.not_true, Bool.false_eq_true, if_false]
        rw [dat_filter x r (fun p hp => by rw [← he]; exact h1 p hp)]
        unfold Se.ins
        rw [if_neg hx, if_pos he]
        cases r with
        | nil => rfl
        | cons q r' =>
          have h3 : k < q.1 := h1 q List.mem_cons_self
          have hb : (Lit.int .i64 x).before (enE q).1 = true := by simp [enE, Lit.before]; omega
          rw [List.map_cons]
          unfold DataW.insert
          rw [if_pos hb]
          rfl
      · have hs : ((enE (k, u)).1.sameKey (.int .i64 x)) = false := by simp [enE, Lit.sameKey, he]
        have hb : (Lit.int .i64 x).before (enE (k, u)).1 = false := by simp [enE, Lit.before]; omega
        rw [List.map_cons, List.filter_cons, hs]
        simp only [Bool.not_false, if_true]
        unfold DataW.insert Se.ins
        rw [if_neg hx, if_neg he, hb, List.map_cons, ← dat_insert x v r h2]
        rfl

/-- Block mb is the map of just these. -/
def Mi (w : World) (mb : Nat) (m : List (Int × Value)) : Prop := w.ownsMap Try.prog 3 valElem mb m.length (dat m)

/-- Nothing. -/
def zeroLast : Value := .agg #[.int .i64 0, .int .i64 0, .int .i64 0, .slice none 0 0]
theorem zeroLastRun (w : World) : (zeroValue 104).run Try.prog w = .ok zeroLast w := by kernel_rfl

section
variable {w w' : World} {mb : Nat} {m : List (Int × Value)}
theorem Mi.lt (h : Mi w mb m) : mb < w.heap.size := World.ownsMap.lt h
theorem Mi.carry (h : Mi w mb m) (hb : w'.heap[mb]? = w.heap[mb]?) : Mi w' mb m := by
  obtain ⟨es, clock, h1, h2⟩ := h
  exact ⟨es, clock, hb.trans h1, h2⟩
theorem Mi.noCell (h : Mi w mb m) (o : Nat) (sp : Option Nat) : w.cell? ⟨mb, o, sp⟩ = none := by
  obtain ⟨es, clock, h1, _⟩ := h
  simp [World.cell?, h1]
theorem Mi.rise (h : Mi w mb m) : Se.Rise m := by
  obtain ⟨es, he, hp, _⟩ := World.ownsMap.canon h intKeyed
  injection he with he
  rw [← he] at hp
  rw [List.pairwise_map] at hp
  exact hp.imp (fun {a b} hab => by simpa [enE, Lit.before] using hab)
theorem Mi.made (w : World) : Mi (w.alloc (.map #[] 0)) w.heap.size [] := World.ownsMap_made w _ _ _
theorem Mi.of {n : Nat} (h : w.ownsMap Try.prog 3 valElem mb n (dat m)) : Mi w mb m := by
  obtain ⟨es, clock, hb, F, hs, hD⟩ := h
  refine ⟨es, clock, hb, F, ?_, hD⟩
  injection hD with hD
  have e := congrArg List.length hD
  rw [length_sorted] at e
  simp at e
  omega
set_option maxRecDepth 20000 in
theorem Mi.look (h : Mi w mb m) {x : Int} (hx : se_In64 x) :
    (Instr.lookup 78 (.map (some mb)) (.int .i64 x) true).run Try.prog w = .ok (.tuple #[(vget m x).getD zeroLast, .bool (vget m x).isSome]) w := by
  obtain ⟨v, ps, h1, h2⟩ := World.ownsMap.look_ok h intKeyed Try.underlying78 (zeroLastRun w) (zd := .held zeroLast) (zp := []) rfl (keyInt hx)
  rw [dat_has] at h1
  rw [dat_at] at h2
  injection h2 with h2
  injection h2 with h2 _
  injection h2 with h2
  rw [← h2]
  exact h1
set_option maxRecDepth 20000 in
theorem Mi.len (h : Mi w mb m) (ty : TypeId) : (Builtin.len_ #[78] ty #[.map (some mb)]).run Try.prog w = .ok (.int .i64 (m.length : Int)) w := by
  have := World.ownsMap.len h Try.underlying78 ty
  rw [this]
  simp [Maps.size, dat]
set_option maxRecDepth 20000 in
theorem Mi.put (h : Mi w mb m) (hn : m.length < 1000) {x : Int} (hx : se_In64 x) (v : Value) :
    ∃ w', (Instr.mapUpdate 78 (.map (some mb)) (.int .i64 x) v).run Try.prog w = .ok () w' ∧ w.mapTurned w' mb ∧ Mi w' mb (Se.ins x v m) := by
  obtain ⟨w', hr, ho, ht⟩ := World.ownsMap.store h intKeyed Try.underlying78 (by unfold maxLen; omega) (keyInt hx) (val := v) (d := .held v) (ps := []) rfl
  refine ⟨w', hr, ht, Mi.of (n := m.length + 1) ?_⟩
  have e : dat (Se.ins x v m) = (dat m).put (.int .i64 x) (.held v) := by
    show _ = DataW.map _
    rw [dat_insert x v m h.rise]
    rfl
  rw [e]
  exact ho
end

theorem enE_inj : ∀ {m m' : List (Int × Value)}, m.map enE = m'.map enE → m = m'
  | [], [], _ => rfl
  | [], _ :: _, h => by cases h
  | _ :: _, [], h => by cases h
  | (a, b) :: r, (a', b') :: r', h => by
    rw [List.map_cons, List.map_cons] at h
    injection h with h1 h2
    injection h1 with h1 h3
    injection h1 with _ h1
    injection h3 with h3
    have h1 : a = a' := h1
    have h3 : b = b' := h3
    rw [h1, h3, enE_inj h2]
theorem Mi.uniq {w : World} {mb : Nat} {m m' : List (Int × Value)} (h : Mi w mb m) (h' : Mi w mb m') : m = m' := by
  obtain ⟨es, clock, hb, _, _, hD⟩ := h
  obtain ⟨es', clock', hb', _, _, hD'⟩ := h'
  rw [hb] at hb'
  injection hb' with hb'
  injection hb' with e1 e2
  subst e1
  rw [← hD'] at hD
  injection hD with hD
  exact enE_inj hD
/-- Posts that lie in blocks from lo on. -/
def FarV (lo : Nat) (v : Value) : Prop := ∀ q e t pv, v = .agg #[q, e, t, pv] → ∀ k, cBlk pv = some k → lo ≤ k
/-- What the map holds has its posts in blocks from lo on. -/
def Far (lo : Nat) (w : World) (mb : Nat) : Prop := ∀ m, Mi w mb m → ∀ p ∈ m, FarV lo p.2
theorem Far.carry {lo : Nat} {w w' : World} {mb : Nat} (h : Far lo w mb) (hb : w'.heap[mb]? = w.heap[mb]?) : Far lo w' mb := fun m hm => h m (hm.carry hb.symm)

theorem se_turned_size {w w1 : World} {b : Nat} (h : w.mapTurned w1 b) : w1.heap.size = w.heap.size := by
  obtain ⟨es, clock, es', clock', hb, rfl⟩ := h
  simp [Go.ChangeMaps.setBlock]

/-! ### posts that are read alone -/
/-- The slice value v reads as these posts. -/
def PoR (w : World) (v : Value) (ps : List Mo.Po) : Prop :=
  ∃ p c, v = .slice p ps.length c ∧ ps.length ≤ c ∧ c ≤ maxLen ∧ (p = none → c = 0) ∧ ∀ a, p = some a → ∀ j x, (poCells ps)[j]? = some x → w.cell? (a.add j) = some x

theorem PoR.ofRow {w : World} {v : Value} {ps : List Mo.Po} (h : RowC w 2 v ps.length (poCells ps)) : PoR w v ps := by
  obtain ⟨h1, p, c, hv, h2, h3, h4⟩ := h
  refine ⟨p, c, hv, h2, h3, fun e => ?_, fun a ha j x hx => ?_⟩
  · rcases h4 with h | ⟨g, off, hp, _⟩
    · exact h
    · rw [hp] at e; cases e
  · rcases h4 with h | ⟨g, off, hp, _, hC⟩
    · have h0 : ps.length = 0 := by omega
      have : (poCells ps).length = 0 := by rw [poCells_len, h0]
      rw [List.eq_nil_of_length_eq_zero this] at hx
      simp at hx
    · rw [hp] at ha
      injection ha with ha
      rw [← ha, Addr.add_lit]
      exact hC j x hx

theorem add_block (a : Addr) (j : Nat) : (a.add j).block = a.block := by
  unfold Addr.add
  split <;> rfl

/-- It stays while blocks that have cells stay. -/
theorem PoR.carry {w w' : World} {v : Value} {ps : List Mo.Po} (h : PoR w v ps) (hk : ∀ k, (∃ o sp x, w.cell? ⟨k, o, sp⟩ = some x) → w'.heap[k]? = w.heap[k]?) : PoR w' v ps := by
  obtain ⟨p, c, hv, h2, h3, h4, h5⟩ := h
  refine ⟨p, c, hv, h2, h3, h4, fun a ha j x hx => ?_⟩
  have := h5 a ha j x hx
  rw [World.cell?_of_block (a := a.add j) (hk (a.add j).block ⟨(a.add j).off, (a.add j).spot, x, this⟩)]
  exact this
/-- .. while its block stays. -/
theorem PoR.carryB {w w' : World} {v : Value} {ps : List Mo.Po} (h : PoR w v ps) (hk : ∀ k, cBlk v = some k → w'.heap[k]? = w.heap[k]?) : PoR w' v ps := by
  obtain ⟨p, c, hv, h2, h3, h4, h5⟩ := h
  refine ⟨p, c, hv, h2, h3, h4, fun a ha j x hx => ?_⟩
  have hj := (List.getElem?_eq_some_iff.1 hx).1
  rw [poCells_len] at hj
  obtain ⟨c', rfl⟩ : ∃ c', c = c' + 1 := ⟨c - 1, by omega⟩
  have hb := hk a.block (by rw [hv, ha]; rfl)
  have hb' : w'.heap[(a.add j).block]? = w.heap[(a.add j).block]? := by rw [add_block]; exact hb
  rw [World.cell?_of_block hb']
  exact h5 a ha j x hx
theorem PoR.below {w w' : World} {v : Value} {ps : List Mo.Po} (h : PoR w v ps) (hb : Below w.heap.size w w') : PoR w' v ps :=
  h.carry fun k ⟨_, _, _, hx⟩ => hb.block k (World.block_lt_of_cell? w _ hx)
theorem PoR.nil (w : World) : PoR w (.slice none 0 0) [] := ⟨none, 0, rfl, by simp, by unfold maxLen; omega, fun _ => rfl, fun a ha => by cases ha⟩
theorem PoR.form {w : World} {v : Value} {ps : List Mo.Po} (h : PoR w v ps) : ∃ p c, v = .slice p ps.length c ∧ ps.length ≤ c ∧ c ≤ maxLen := by
  obtain ⟨p, c, hv, h2, h3, _⟩ := h
  exact ⟨p, c, hv, h2, h3⟩

/-- What a session asked last, as a value. -/
def LsV (w : World) (v : Value) (l : Se.Ls) : Prop := ∃ pv, v = .agg #[.int .i64 l.seq, .int .i64 l.re.err, .int .i64 l.re.at_, pv] ∧ PoR w pv l.re.posts ∧ l.re.posts.length ≤ 64

/-- Sessions, and the map's entries. -/
def Ents (w : World) : Se.St → List (Int × Value) → Prop
  | [], [] => True
  | (k, l) :: s, (k', v) :: m => (k = k' ∧ LsV w v l) ∧ Ents w s m
  | _, _ => False

/-- Block B holds a table; block mb is its map. -/
structure Tb (w : World) (B mb : Nat) (s : Se.St) : Prop where
  c0 : w.cell? ⟨B, 0, none⟩ = some (.map (some mb))
  map : ∃ m, Mi w mb m ∧ Ents w s m
  len : s.length ≤ 64

theorem Ents.get {w : World} (x : Int) : ∀ {s : Se.St} {m : List (Int × Value)}, Ents w s m → (Se.get s x = none ∧ vget m x = none) ∨ ∃ l v, Se.get s x = some l ∧ vget m x = some v ∧ LsV w v l
  | [], [], _ => .inl ⟨rfl, rfl⟩
  | (k, l) :: s, (k', v) :: m, h => by
    obtain ⟨⟨h1, h2⟩, r⟩ := h
    subst h1
    by_cases e : k = x
    · exact .inr ⟨l, v, by simp [Se.get, e], by simp [vget, e], h2⟩
    · have hg : Se.get ((k, l) :: s) x = Se.get s x := by show (if k = x then _ else _) = _; rw [if_neg e]
      have hv : vget ((k, v) :: m) x = vget m x := by show (if k = x then _ else _) = _; rw [if_neg e]
      rw [hg, hv]
      exact Ents.get x r
theorem Ents.ins {w : World} (x : Int) {l : Se.Ls} {v : Value} (hl : LsV w v l) : ∀ {s : Se.St} {m : List (Int × Value)}, Ents w s m → Ents w (Se.ins x l s) (Se.ins x v m)
  | [], [], _ => ⟨⟨rfl, hl⟩, trivial⟩
  | (k, l') :: s, (k', v') :: m, h => by
    obtain ⟨⟨h1, h2⟩, r⟩ := h
    subst h1
    unfold Se.ins
    split
    · exact ⟨⟨rfl, hl⟩, ⟨rfl, h2⟩, r⟩
    · split
      · exact ⟨⟨rfl, hl⟩, r⟩
      · exact ⟨⟨rfl, h2⟩, Ents.ins x hl r⟩
theorem Ents.keys {w : World} : ∀ {s : Se.St} {m : List (Int × Value)}, Ents w s m → s.map (·.1) = m.map (·.1)
  | [], [], _ => rfl
  | (k, l) :: s, (k', v) :: m, h => by
    obtain ⟨⟨h1, _⟩, r⟩ := h
    rw [List.map_cons, List.map_cons, Ents.keys r, h1]
theorem Ents.length {w : World} {s : Se.St} {m : List (Int × Value)} (h : Ents w s m) : s.length = m.length := by
  have := congrArg List.length h.keys
  simpa using this
theorem Ents.imp {w w' : World} (hi : ∀ v l, LsV w v l → LsV w' v l) : ∀ {s : Se.St} {m : List (Int × Value)}, Ents w s m → Ents w' s m
  | [], [], _ => trivial
  | (_, _) :: _, (_, _) :: _, h => ⟨⟨h.1.1, hi _ _ h.1.2⟩, Ents.imp hi h.2⟩
theorem LsV.carry {w w' : World} {v : Value} {l : Se.Ls} (h : LsV w v l) (hk : ∀ k, (∃ o sp x, w.cell? ⟨k, o, sp⟩ = some x) → w'.heap[k]? = w.heap[k]?) : LsV w' v l := by
  obtain ⟨pv, h1, h2, h3⟩ := h
  exact ⟨pv, h1, h2.carry hk, h3⟩

section
variable {w w' : World} {B mb : Nat} {s : Se.St}
theorem Tb.lt (h : Tb w B mb s) : B < w.heap.size ∧ mb < w.heap.size := ⟨World.block_lt_of_cell? w _ h.c0, by obtain ⟨m, h, _⟩ := h.map; exact h.lt⟩
/-- A block with a cell is not the map. -/
theorem Tb.ne (h : Tb w B mb s) {k o : Nat} {sp : Option Nat} {x : Value} (hx : w.cell? ⟨k, o, sp⟩ = some x) : k ≠ mb := by
  rintro rfl
  obtain ⟨m, h, _⟩ := h.map
  rw [h.noCell] at hx
  cases hx
theorem Tb.rise (h : Tb w B mb s) : Se.Rise s := by
  obtain ⟨m, h1, h2⟩ := h.map
  have e := h2.keys
  have hr := h1.rise
  unfold Se.Rise at hr ⊢
  rw [← List.pairwise_map (f := fun p : Int × Value => p.1) (R := fun a b : Int => a < b), ← e, List.pairwise_map] at hr
  exact hr
theorem Tb.carry (h : Tb w B mb s) (hk : ∀ k, k < w.heap.size → w'.heap[k]? = w.heap[k]?) : Tb w' B mb s := by
  obtain ⟨m, h1, h2⟩ := h.map
  refine ⟨by rw [World.cell?_of_block (a := ⟨B, 0, none⟩) (hk B h.lt.1)]; exact h.c0, ⟨m, h1.carry (hk mb h1.lt), ?_⟩, h.len⟩
  exact h2.imp fun _ _ hl => hl.carry fun k ⟨_, _, _, hx⟩ => hk k (World.block_lt_of_cell? w _ hx)
theorem Tb.below (h : Tb w B mb s) (hb : Below w.heap.size w w') : Tb w' B mb s := h.carry hb.block
/-- Another cell is written: no block of the table's. -/
theorem Tb.cell (h : Tb w B mb s) (hg : w.grownBy w' (some mb)) {k o : Nat} {sp : Option Nat} {x : Value} (hx : w.cell? ⟨k, o, sp⟩ = some x) : w'.cell? ⟨k, o, sp⟩ = some x := by
  rw [World.cell?_of_block (a := ⟨k, o, sp⟩) (hg.block k (World.block_lt_of_cell? w _ hx) (fun e => h.ne hx (by injection e)))]
  exact hx
theorem Tb.frozen (h : Tb w B mb s) (hg : w.grownBy w' (some mb)) {k o o' : Nat} {sp : Option Nat} {x : Value} (hx : w.cell? ⟨k, o', sp⟩ = some x) : w'.frozen? ⟨k, o, none⟩ = w.frozen? ⟨k, o, none⟩ :=
  World.frozen?_of_block (a := ⟨k, o, none⟩) (hg.block k (World.block_lt_of_cell? w _ hx) (fun e => h.ne hx (by injection e)))
theorem Tb.look (h : Tb w B mb s) {x : Int} (hx : se_In64 x) : (Se.get s x = none ∧ (Instr.lookup 78 (.map (some mb)) (.int .i64 x) true).run Try.prog w = .ok (.tuple #[zeroLast, .bool false]) w) ∨
    ∃ l pv, Se.get s x = some l ∧ PoR w pv l.re.posts ∧ l.re.posts.length ≤ 64 ∧ (Instr.lookup 78 (.map (some mb)) (.int .i64 x) true).run Try.prog w = .ok (.tuple #[.agg #[.int .i64 l.seq, .int .i64 l.re.err, .int .i64 l.re.at_, pv], .bool true]) w := by
  obtain ⟨m, h1, h2⟩ := h.map
  have hl := h1.look hx
  rcases h2.get x with ⟨e1, e2⟩ | ⟨l, v, e1, e2, pv, hv, hp, hp'⟩
  · rw [e2] at hl
    exact .inl ⟨e1, hl⟩
  · rw [e2] at hl
    refine .inr ⟨l, pv, e1, hp, hp', ?_⟩
    rw [← hv]
    exact hl
/-- .. and in every later world. -/
theorem Tb.looks' {u : World} (h : Tb w B mb s) (hu : Below w.heap.size w u) {x : Int} (hx : se_In64 x) : (Se.get s x = none ∧ ∀ X, Below u.heap.size u X → (Instr.lookup 78 (.map (some mb)) (.int .i64 x) true).run Try.prog X = .ok (.tuple #[zeroLast, .bool false]) X) ∨
    ∃ l pv, Se.get s x = some l ∧ PoR w pv l.re.posts ∧ l.re.posts.length ≤ 64 ∧ ∀ X, Below u.heap.size u X → (Instr.lookup 78 (.map (some mb)) (.int .i64 x) true).run Try.prog X = .ok (.tuple #[.agg #[.int .i64 l.seq, .int .i64 l.re.err, .int .i64 l.re.at_, pv], .bool true]) X := by
  obtain ⟨m, h1, h2⟩ := h.map
  have hl : ∀ X, Below u.heap.size u X → _ := fun X hX => (h1.carry ((hX.block mb (Nat.lt_of_lt_of_le h1.lt hu.size)).trans (hu.block mb h1.lt))).look hx
  rcases h2.get x with ⟨e1, e2⟩ | ⟨l, v, e1, e2, pv, hv, hp, hp'⟩
  · rw [e2] at hl
    exact .inl ⟨e1, hl⟩
  · rw [e2] at hl
    refine .inr ⟨l, pv, e1, hp, hp', ?_⟩
    rw [← hv]
    exact hl
theorem Tb.lenC (h : Tb w B mb s) (ty : TypeId) : (Builtin.len_ #[78] ty #[.map (some mb)]).run Try.prog w = .ok (.int .i64 (s.length : Int)) w := by
  obtain ⟨m, h1, h2⟩ := h.map
  rw [h2.length]
  exact h1.len ty
theorem Tb.put (h : Tb w B mb s) {x : Int} (hx : se_In64 x) {v : Value} {l : Se.Ls} (hv : LsV w v l) (hl : (Se.ins x l s).length ≤ 64) :
    ∃ w', (Instr.mapUpdate 78 (.map (some mb)) (.int .i64 x) v).run Try.prog w = .ok () w' ∧ w.grownBy w' (some mb) ∧ w'.heap.size = w.heap.size ∧ Tb w' B mb (Se.ins x l s) ∧ ∀ lo, FarV lo v → Far lo w mb → Far lo w' mb := by
  obtain ⟨m, h1, h2⟩ := h.map
  have hlen := h.len
  have hml := h2.length
  obtain ⟨w', hr, ht, hm⟩ := h1.put (by omega) hx v
  have hg := ht.grown
  refine ⟨w', hr, hg, se_turned_size ht, ⟨?_, ⟨_, hm, ?_⟩, hl⟩, fun lo hv hf m' hm' p hp => ?_⟩
  · exact h.cell hg h.c0
  · refine (h2.ins x hv).imp fun _ _ hl => hl.carry fun k ⟨_, _, _, hy⟩ => hg.block k (World.block_lt_of_cell? w _ hy) (fun e => h.ne hy (by injection e))
  · rw [hm'.uniq hm] at hp
    rcases Se.ins_mem hp with q | q
    · rw [q]; exact hv
    · exact hf m h1 p q
end

end Go.Proofs.Ytepbmfjimppgcaa
