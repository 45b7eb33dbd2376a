/-
  The structs that go as bytes, as plain data: what their cells hold, which fields these are; a walk over them.
-/
import Derived.Test.YtnfjfhjhofaodaaCmTake2
namespace Go.Proofs.Ytnfjfhjhofaodaa
open Go.RowKit

def All2 {α β : Type} (R : α → β → Prop) : List α → List β → Prop
  | [], [] => True
  | a :: us, b :: bs => R a b ∧ All2 R us bs
  | _, _ => False

theorem All2.len {α β : Type} {R : α → β → Prop} : ∀ {us : List α} {bs : List β}, All2 R us bs → bs.length = us.length
  | [], [], _ => rfl
  | _ :: _, _ :: _, h => by simp [All2.len h.2]
  | [], _ :: _, h => h.elim
  | _ :: _, [], h => h.elim

theorem All2.get {α β : Type} {R : α → β → Prop} : ∀ {us : List α} {bs : List β}, All2 R us bs → ∀ (k : Nat) (a : α) (b : β), us[k]? = some a → bs[k]? = some b → R a b
  | [], [], _, k, a, b, h1, _ => by simp at h1
  | x :: xs, y :: ys, h, 0, a, b, h1, h2 => by simp at h1 h2; subst h1 h2; exact h.1
  | x :: xs, y :: ys, h, k + 1, a, b, h1, h2 => All2.get h.2 k a b (by simpa using h1) (by simpa using h2)
  | [], _ :: _, h, _, _, _, _, _ => h.elim
  | _ :: _, [], h, _, _, _, _, _ => h.elim

theorem walk_w2 {w0 : World} {fs : List Fd} {pss : List (List (Cm.K × Cm.V))} (h : All2 (FW w0) fs pss) (hs : Cm.small pss.flatten) (hsm : fs.length < 1000) : WalkC w0 fs pss.flatten :=
  walk_w h.len (fun k f p h1 h2 => h.get k f p h1 h2) hs hsm

/-- An id. -/
structure IdD where
  session : Int
  seq : Int

/-- An op. -/
structure OpD where
  kind : Int
  space : ByteArray
  channel : ByteArray
  user : ByteArray
  text : ByteArray
  toSpace : ByteArray
  to : ByteArray
  frm : Int
  most : Int

/-- A command. -/
structure CmdD where
  kind : Int
  id : IdD
  op : OpD
  tx : Int
  plan : Int
  slot : Int
  epoch : Int
  group : Int
  ok : Bool
  err : Int
  data : ByteArray

def IdD.cells (x : IdD) : List Value := [.int .i64 x.session, .int .i64 x.seq]
def OpD.cells (x : OpD) : List Value := [.int .i64 x.kind, .string x.space, .string x.channel, .string x.user, .string x.text, .string x.toSpace, .string x.to, .int .i64 x.frm, .int .i64 x.most]
def CmdD.cells (x : CmdD) : List Value := [.int .i64 x.kind, .int .i64 x.id.session, .int .i64 x.id.seq, .int .i64 x.op.kind, .string x.op.space, .string x.op.channel, .string x.op.user, .string x.op.text, .string x.op.toSpace, .string x.op.to, .int .i64 x.op.frm, .int .i64 x.op.most, .int .i64 x.tx, .int .i64 x.plan, .int .i64 x.slot, .int .i64 x.epoch, .int .i64 x.group, .bool x.ok, .int .i64 x.err, .string x.data]

abbrev fit (v : Int) : Prop := v < 9223372036854775808
abbrev fits (s : ByteArray) : Prop := s.size ≤ 9223372036854775807

def IdD.Ok (x : IdD) : Prop := fit x.session ∧ fit x.seq
def OpD.Ok (x : OpD) : Prop := fit x.kind ∧ fits x.space ∧ fits x.channel ∧ fits x.user ∧ fits x.text ∧ fits x.toSpace ∧ fits x.to ∧ fit x.frm ∧ fit x.most
def CmdD.Ok (x : CmdD) : Prop := fit x.kind ∧ x.id.Ok ∧ x.op.Ok ∧ fit x.tx ∧ fit x.plan ∧ fit x.slot ∧ fit x.epoch ∧ fit x.group ∧ fit x.err ∧ fits x.data

def nf (v : Int) : Cm.K × Cm.V := (.n Cm.mI, .n v)
def tf (s : ByteArray) : Cm.K × Cm.V := (.t, .t s)

def IdD.pss (x : IdD) : List (List (Cm.K × Cm.V)) := [[nf x.session], [nf x.seq]]
def OpD.pss (x : OpD) : List (List (Cm.K × Cm.V)) := [[nf x.kind], [tf x.space], [tf x.channel], [tf x.user], [tf x.text], [tf x.toSpace], [tf x.to], [nf x.frm], [nf x.most]]
def CmdD.pss (x : CmdD) : List (List (Cm.K × Cm.V)) := [[nf x.kind], x.id.pss.flatten, [nf x.tx], [nf x.plan], [nf x.slot], [nf x.epoch], [nf x.group], [(.n 1, .n (if x.ok then 1 else 0))], [nf x.err], x.op.pss.flatten, [tf x.data]]

theorem small_of {ps : List (Cm.K × Cm.V)} (h : ∀ p ∈ ps, p.1 = .n Cm.mI ∨ p.1 = .n 1 ∨ p.1 = .n 16 ∨ p.1 = .n 64 ∨ p.1 = .t) : Cm.small ps := by
  intro p hp m e
  rcases h p hp with x | x | x | x | x
  · rw [x] at e; injection e with e; rw [← e]; decide
  · rw [x] at e; injection e with e; omega
  · rw [x] at e; injection e with e; omega
  · rw [x] at e; injection e with e; omega
  · rw [x] at e; cases e

theorem IdD.small (x : IdD) : Cm.small x.pss.flatten := small_of (fun p hp => by
  simp [IdD.pss, nf] at hp
  rcases hp with rfl | rfl <;> simp)
theorem OpD.small (x : OpD) : Cm.small x.pss.flatten := small_of (fun p hp => by
  simp [OpD.pss, nf, tf] at hp
  rcases hp with rfl | rfl | rfl | rfl | rfl | rfl | rfl | rfl | rfl <;> simp)
theorem CmdD.small (x : CmdD) : Cm.small x.pss.flatten := small_of (fun p hp => by
  simp [CmdD.pss, IdD.pss, OpD.pss, nf, tf] at hp
  rcases hp with rfl | rfl | rfl | rfl | rfl | rfl | rfl | rfl | rfl | rfl | rfl | rfl | rfl | rfl | rfl | rfl | rfl | rfl | rfl | rfl <;> simp)

/-- A row of cells, in a block that nobody froze, from o on. -/
def At (w : World) (b o : Nat) (xs : List Value) : Prop := ∀ (i : Nat) (x : Value), xs[i]? = some x → w.cell? ⟨b, o + i, none⟩ = some x ∧ w.frozen? ⟨b, o + i, none⟩ = false

theorem At.of_block {w : World} {b : Nat} {xs : List Value} {t : TypeId} (h : w.heap[b]? = some (.cells xs.toArray t (0, 0))) : At w b 0 xs := by
  intro i x hx
  refine ⟨?_, ?_⟩
  · rw [Lib.cell_of_heap h, Nat.zero_add]; simp [hx]
  · simp [World.frozen?, h]

theorem At.below {w w' : World} {b o : Nat} {xs : List Value} (h : At w b o xs) (hb : Below w.heap.size w w') : At w' b o xs := fun i x hx => by
  obtain ⟨h1, h2⟩ := h i x hx
  have hl := World.block_lt_of_cell? _ _ h1
  exact ⟨by rw [hb.cell hl]; exact h1, by rw [hb.frozen hl]; exact h2⟩

theorem FW.int {w : World} {b o i : Nat} {xs : List Value} {v : Int} (h : At w b o xs) (hi : xs[i]? = some (.int .i64 v)) (hv : fit v) : FW w (.int b (o + i)) [nf v] := ⟨v, hv, (h i _ hi).1, rfl⟩
theorem FW.errno {w : World} {b o i : Nat} {xs : List Value} {v : Int} (h : At w b o xs) (hi : xs[i]? = some (.int .i64 v)) (hv : fit v) : FW w (.errno b (o + i)) [nf v] := ⟨v, hv, (h i _ hi).1, (h i _ hi).2, rfl⟩
theorem FW.str {w : World} {b o i : Nat} {xs : List Value} {s : ByteArray} (h : At w b o xs) (hi : xs[i]? = some (.string s)) (hs : fits s) : FW w (.str b (o + i)) [tf s] := ⟨s, by unfold fits at hs; omega, (h i _ hi).1, rfl⟩
theorem FW.bool {w : World} {b o i : Nat} {xs : List Value} {t : Bool} (h : At w b o xs) (hi : xs[i]? = some (.bool t)) : FW w (.bool b (o + i)) [(.n 1, .n (if t then 1 else 0))] := ⟨t, (h i _ hi).1, (h i _ hi).2, rfl⟩

theorem IdD.walk {w : World} {b o : Nat} (x : IdD) (h : At w b o x.cells) (hk : x.Ok) : WalkC w (fields b o .id) x.pss.flatten :=
  walk_w2 ⟨FW.int (i := 0) h rfl hk.1, FW.int (i := 1) h rfl hk.2, trivial⟩ x.small (by simp [fields])

theorem OpD.walk {w : World} {b o : Nat} (x : OpD) (h : At w b o x.cells) (hk : x.Ok) : WalkC w (fields b o .op) x.pss.flatten := by
  obtain ⟨h0, h1, h2, h3, h4, h5, h6, h7, h8⟩ := hk
  exact walk_w2 ⟨FW.int (i := 0) h rfl h0, FW.str (i := 1) h rfl h1, FW.str (i := 2) h rfl h2, FW.str (i := 3) h rfl h3, FW.str (i := 4) h rfl h4, FW.str (i := 5) h rfl h5, FW.str (i := 6) h rfl h6, FW.int (i := 7) h rfl h7, FW.int (i := 8) h rfl h8, trivial⟩ x.small (by simp [fields])

theorem At.sub {w : World} {b o : Nat} {xs ys : List Value} (k : Nat) (h : At w b o xs) (hs : ∀ i y, ys[i]? = some y → xs[k + i]? = some y) : At w b (o + k) ys := fun i y hy => by
  have := h (k + i) y (hs i y hy)
  rw [Nat.add_assoc]
  exact this

theorem CmdD.walk {w : World} {b o : Nat} (x : CmdD) (h : At w b o x.cells) (hk : x.Ok) : WalkC w (fields b o .cmd) x.pss.flatten := by
  obtain ⟨h0, hid, hop, h3, h4, h5, h6, h7, h8, h9⟩ := hk
  have hi : At w b (o + 1) x.id.cells := h.sub 1 (fun i y hy => by
    match i, hy with
    | 0, hy => exact hy
    | 1, hy => exact hy)
  have ho : At w b (o + 3) x.op.cells := h.sub 3 (fun i y hy => by
    match i, hy with
    | 0, hy => exact hy
    | 1, hy => exact hy
    | 2, hy => exact hy
    | 3, hy => exact hy
    | 4, hy => exact hy
    | 5, hy => exact hy
    | 6, hy => exact hy
    | 7, hy => exact hy
    | 8, hy => exact hy)
  exact walk_w2 ⟨FW.int (i := 0) h rfl h0, x.id.walk hi hid, FW.int (i := 12) h rfl h3, FW.int (i := 13) h rfl h4, FW.int (i := 14) h rfl h5, FW.int (i := 15) h rfl h6, FW.int (i := 16) h rfl h7, FW.bool (i := 17) h rfl, FW.errno (i := 18) h rfl h8, x.op.walk ho hop, FW.str (i := 19) h rfl h9, trivial⟩ x.small (by simp [fields])

end Go.Proofs.Ytnfjfhjhofaodaa
