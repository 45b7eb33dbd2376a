/-
  Workspaces over plain lists: what an op may be, what it does, what it answers.
-/
import Derived.Test.YtepbmfjimppgcaaMath
namespace Go.Proofs.Ytepbmfjimppgcaa.Mo

/-- A post. -/
structure Po where
  user : ByteArray
  text : ByteArray
/-- A channel. -/
structure Ch where
  mem : ByteArray → Bool
  posts : List Po
/-- A model. -/
structure St where
  ch : ByteArray → ByteArray → Option Ch
  off : ByteArray → Bool
/-- An op. -/
structure Op where
  kind : Int
  space : ByteArray
  channel : ByteArray
  user : ByteArray
  text : ByteArray
  toSpace : ByteArray
  to : ByteArray
  frm : Int
  most : Int
/-- A reply. -/
structure Re where
  err : Int
  at_ : Int
  posts : List Po

def byteOk (b : Nat) : Bool := (decide (97 ≤ b) && decide (b ≤ 122)) || (decide (48 ≤ b) && decide (b ≤ 57)) || decide (b = 45)
def allOk (l : List UInt8) : Bool := l.all fun b => byteOk b.toNat
/-- A label. -/
def label (s : ByteArray) : Bool := decide (1 ≤ s.size) && decide (s.size ≤ 16) && allOk s.data.toList
def labels (l : List ByteArray) : Bool := l.all label
/-- A text that may be posted. -/
def postable (s : ByteArray) : Bool := decide (s.size ≤ 1024) && M.mValid ⟨0, 0, 0⟩ s.data.toList
/-- A number from 0 up to another one. -/
def within (n most : Int) : Bool := decide (0 ≤ n) && decide (n ≤ most)
/-- Nothing. -/
def e0 : ByteArray := ⟨#[]⟩

/-- Are two the same? -/
def opEq (o q : Op) : Bool := decide (o.kind = q.kind) && (decide (o.space = q.space) && (decide (o.channel = q.channel) && (decide (o.user = q.user) && (decide (o.text = q.text) && (decide (o.toSpace = q.toSpace) && (decide (o.to = q.to) && (decide (o.frm = q.frm) && decide (o.most = q.most))))))))

/-- May an op be? -/
def may (o : Op) : Bool :=
  if o.kind = 1 then labels [o.space, o.channel] && opEq o ⟨o.kind, o.space, o.channel, e0, e0, e0, e0, 0, 0⟩
  else if o.kind = 2 then labels [o.space, o.channel, o.user] && opEq o ⟨o.kind, o.space, o.channel, o.user, e0, e0, e0, 0, 0⟩
  else if o.kind = 3 then (labels [o.space, o.channel, o.user] && postable o.text) && opEq o ⟨o.kind, o.space, o.channel, o.user, o.text, e0, e0, 0, 0⟩
  else if o.kind = 4 then ((labels [o.space, o.channel] && within o.frm 2147483647) && within o.most 64) && opEq o ⟨o.kind, o.space, o.channel, e0, e0, e0, e0, o.frm, o.most⟩
  else if o.kind = 5 then labels [o.space, o.channel, o.toSpace, o.to] && opEq o ⟨o.kind, o.space, o.channel, e0, e0, o.toSpace, o.to, 0, 0⟩
  else if o.kind = 6 then labels [o.space] && opEq o ⟨o.kind, o.space, e0, e0, e0, e0, e0, 0, 0⟩
  else if o.kind = 7 then labels [o.user] && opEq o ⟨o.kind, e0, e0, o.user, e0, e0, e0, 0, 0⟩
  else false

theorem label_size {s : ByteArray} (h : label s = true) : s.size ≤ 16 := by
  unfold label at h
  simp at h
  exact h.1.2

/-- A channel at a name. -/
def setC (s : St) (x y : ByteArray) (c : Option Ch) : St := { s with ch := fun a b => if a = x ∧ b = y then c else s.ch a b }
/-- Nobody's channel. -/
def newC : Ch := ⟨fun _ => false, []⟩
def withM (c : Ch) (u : ByteArray) : Ch := { c with mem := fun x => if x = u then true else c.mem x }
def lessM (c : Ch) (u : ByteArray) : Ch := { c with mem := fun x => if x = u then false else c.mem x }
def withP (c : Ch) (p : Po) : Ch := { c with posts := c.posts ++ [p] }

/-- Why a user may not post. -/
def mayPost (s : St) (c : Ch) (u : ByteArray) : Int := if s.off u = true then 92 else if c.mem u = false then 91 else if 1024 ≤ c.posts.length then 2 else 0

/-- What an op does. -/
def does (s : St) (o : Op) : St :=
  if may o = false then s
  else if o.kind = 1 then (match s.ch o.space o.channel with | some _ => s | none => setC s o.space o.channel (some newC))
  else if o.kind = 2 then (match s.ch o.space o.channel with | none => s | some c => if s.off o.user = true then s else if c.mem o.user = true then s else setC s o.space o.channel (some (withM c o.user)))
  else if o.kind = 3 then (match s.ch o.space o.channel with | none => s | some c => if mayPost s c o.user = 0 then setC s o.space o.channel (some (withP c ⟨o.user, o.text⟩)) else s)
  else if o.kind = 4 then s
  else if o.kind = 5 then (match s.ch o.space o.channel with | none => s | some c => match s.ch o.toSpace o.to with | some _ => s | none => setC (setC s o.space o.channel none) o.toSpace o.to (some c))
  else if o.kind = 6 then { s with ch := fun a b => if a = o.space then none else s.ch a b }
  else if s.off o.user = true then s else ⟨fun a b => (s.ch a b).map (lessM · o.user), fun x => if x = o.user then true else s.off x⟩

/-- From where a page is. -/
def frmN (o : Op) (c : Ch) : Nat := min o.frm.toNat c.posts.length
def endN (o : Op) (c : Ch) : Nat := min (frmN o c + o.most.toNat) c.posts.length

/-- What it answers. -/
def tells (s : St) (o : Op) : Re :=
  if may o = false then ⟨1, 0, []⟩
  else if o.kind = 1 then (match s.ch o.space o.channel with | some _ => ⟨90, 0, []⟩ | none => ⟨0, 0, []⟩)
  else if o.kind = 2 then (match s.ch o.space o.channel with | none => ⟨3, 0, []⟩ | some c => if s.off o.user = true then ⟨92, 0, []⟩ else if c.mem o.user = true then ⟨90, 0, []⟩ else ⟨0, 0, []⟩)
  else if o.kind = 3 then (match s.ch o.space o.channel with | none => ⟨3, 0, []⟩ | some c => if mayPost s c o.user = 0 then ⟨0, (c.posts.length : Int), []⟩ else ⟨mayPost s c o.user, 0, []⟩)
  else if o.kind = 4 then (match s.ch o.space o.channel with | none => ⟨3, 0, []⟩ | some c => ⟨0, (endN o c : Int), (c.posts.drop (frmN o c)).take (endN o c - frmN o c)⟩)
  else if o.kind = 5 then (match s.ch o.space o.channel with | none => ⟨3, 0, []⟩ | some _ => match s.ch o.toSpace o.to with | some _ => ⟨90, 0, []⟩ | none => ⟨0, 0, []⟩)
  else if o.kind = 6 then ⟨0, 0, []⟩
  else if s.off o.user = true then ⟨92, 0, []⟩ else ⟨0, 0, []⟩

/-- A model without anything. -/
def new : St := ⟨fun _ _ => none, fun _ => false⟩

end Go.Proofs.Ytepbmfjimppgcaa.Mo
