/-
  The meta group's machine over plain lists.
-/
import Derived.Test.YtepbmfjimppgcaaSePut
import Derived.Test.YtepbmfjimppgcaaSlSlots
namespace Go.Proofs.Ytepbmfjimppgcaa
open Go.RowKit

namespace Me
/-- A transaction that waits: whose it is, its op, its slots' votes and ends, its data. -/
structure Tx where
  a : Int
  b : Int
  op : Mo.Op
  vs : List (Int × Int)
  es : List (Int × Unit)
  data : ByteArray
/-- A slot on its way. -/
structure Pl where
  plan : Int
  slot : Int
  frm : Int
  to : Int
  epoch : Int
  frozen : Bool
  data : ByteArray
/-- A machine. -/
structure St where
  groups : Nat
  own : Sl.St
  tab : Se.St
  ans : Nat
  wait : List Tx
  pl : Pl

def e0 : ByteArray := ⟨#[]⟩
def noPl : Pl := ⟨0, 0, 0, 0, 0, false, e0⟩
def new (k : Nat) : St := ⟨k, Sl.new k, [], 0, [], noPl⟩

/-- A command. -/
structure Cd where
  kind : Int
  a : Int
  b : Int
  op : Mo.Op
  tx : Int
  plan : Int
  slot : Int
  epoch : Int
  group : Int
  ok : Bool
  err : Int
  data : ByteArray

def at? {α : Type} : List (Int × α) → Int → Option α
  | [], _ => none
  | (k, v) :: r, x => if k = x then some v else at? r x

def dec (t : Tx) : Bool := decide (t.vs.length = (slotsL t.op).length)
def done (t : Tx) (x : Nat) : Bool := if dec t = true then (at? t.es (x : Int)).isSome else (at? t.vs (x : Int)).isSome
def opn (t : Tx) : List Nat := (slotsL t.op).filter fun x => !(done t x)
def firstBad (vs : List (Int × Int)) : List Nat → Int
  | [] => 0
  | x :: r => if (at? vs (x : Int)).getD 0 ≠ 0 then (at? vs (x : Int)).getD 0 else firstBad vs r
def about (t : Tx) : List Nat := if t.op.kind = 5 then slotOf t.op.space t.op.channel :: slotsL t.op else slotsL t.op
def refuse (t : Tx) : Int := firstBad t.vs (about t)

/-- How many sessions the table has, and those that wait and are none of its. -/
def count (tab : Se.St) : List Tx → Nat
  | [] => 0
  | t :: r => (if Se.get tab t.a = none then 1 else 0) + count tab r
def same (a : Int) : List Tx → Option Tx
  | [] => none
  | t :: r => if t.a = a then some t else same a r
/-- Why no transaction of that id may begin. -/
def refuses (q : St) (a b : Int) : Int := match same a q.wait with
  | some t => if t.b > b then 110 else 120
  | none => if 64 ≤ q.tab.length + count q.tab q.wait then 2 else 0

def many (o : Mo.Op) : Bool := decide (o.kind = 5) || decide (o.kind = 6) || decide (o.kind = 7)

/-- An answer's error and number. -/
def beginR (q : St) (a b : Int) (o : Mo.Op) : Mo.Re :=
  if Mo.may o = true ∧ many o = true then
    (if (Se.find q.tab a b).2 = 0 then (Se.find q.tab a b).1 else if (Se.find q.tab a b).2 ≠ 3 then ⟨(Se.find q.tab a b).2, 0, []⟩
     else if refuses q a b ≠ 0 then ⟨refuses q a b, 0, []⟩ else ⟨120, (q.ans + q.wait.length + 1 : Nat), []⟩)
  else ⟨1, 0, []⟩
def begins (q : St) (a b : Int) (o : Mo.Op) : Prop := Mo.may o = true ∧ many o = true ∧ (Se.find q.tab a b).2 = 3 ∧ refuses q a b = 0
def fresh (a b : Int) (o : Mo.Op) : Tx := ⟨a, b, o, [], [], e0⟩
def begin (q : St) (a b : Int) (o : Mo.Op) : St := { q with wait := q.wait ++ [fresh a b o] }

/-- Whether a command is about the first transaction, and a slot that it waits for. -/
def awaits (q : St) (tx slot : Int) (d : Bool) : Bool := match q.wait with
  | [] => false
  | t :: _ => decide (tx = (q.ans : Int) + 1) && (dec t == d) && (opn t).any fun (x : Nat) => decide ((x : Int) = slot)

def voteT (t : Tx) (slot err : Int) (d : ByteArray) : Tx := { t with vs := Se.ins slot err t.vs, data := if d.size = 0 then t.data else d }
def vote (q : St) (slot err : Int) (d : ByteArray) : St := match q.wait with
  | [] => q
  | t :: r => { q with wait := voteT t slot err d :: r }
def endT (t : Tx) (slot : Int) : Tx := { t with es := Se.ins slot () t.es }
def ended (q : St) (slot : Int) : St := match q.wait with
  | [] => q
  | t :: r => if opn (endT t slot) = [] then { q with tab := Se.put q.tab t.a t.b ⟨refuse (endT t slot), 0, []⟩, wait := r, ans := q.ans + 1 } else { q with wait := endT t slot :: r }

def takenTo (E : Nat → Nat) : Nat → Int
  | 0 => 0
  | n + 1 => takenTo E n + ((E n : Int) - 1)
def planE (q : St) (slot group : Int) : Int :=
  if isSlot slot = true ∧ 1 ≤ group ∧ group ≤ q.groups then (if q.pl.plan ≠ 0 then 120 else if (q.own.O slot.toNat : Int) = group then 90 else 0) else 1
def planned (q : St) (slot group : Int) : Pl := ⟨takenTo q.own.E 16 + 1, slot, q.own.O slot.toNat, group, q.own.E slot.toNat, false, e0⟩
def onWay (q : St) (p : Int) : Bool := decide (q.pl.plan ≠ 0) && decide (p = q.pl.plan)
def freeze (q : St) (d : ByteArray) : St := { q with pl := { q.pl with frozen := true, data := d } }
def take (q : St) : St := { q with own := Sl.give q.own q.pl.slot q.pl.to, pl := noPl }

/-- A transaction that may be. -/
structure TxOk (t : Tx) : Prop where
  may : Mo.may t.op = true
  many : many t.op = true
  ok : OpOk t.op
  id : Se.may t.a t.b = true
  rv : Se.Rise t.vs
  re : Se.Rise t.es
  kv : ∀ p ∈ t.vs, ∃ x ∈ slotsL t.op, p.1 = (x : Int)
  ke : ∀ p ∈ t.es, ∃ x ∈ slotsL t.op, p.1 = (x : Int)
  size : t.data.size ≤ maxLen
/-- A machine behind at most n commands. -/
structure Ok (n : Nat) (q : St) : Prop where
  tx : ∀ t ∈ q.wait, TxOk t
  few : q.wait.length ≤ n
  ans : q.ans ≤ n
  np : ∀ p ∈ q.tab, p.2.re.posts = []
  grp : 1 ≤ q.groups ∧ q.groups ≤ 8
  pl : q.pl.data.size ≤ maxLen
  sq : ∀ p ∈ q.tab, 1 ≤ p.2.seq
theorem Ok.mono {n m : Nat} {q : St} (h : Ok n q) (hm : n ≤ m) : Ok m q := ⟨h.tx, Nat.le_trans h.few hm, Nat.le_trans h.ans hm, h.np, h.grp, h.pl, h.sq⟩
theorem Ok.new {k : Nat} (h : 1 ≤ k ∧ k ≤ 8) : Ok 0 (new k) := ⟨fun _ h => (List.not_mem_nil h).elim, Nat.le_refl _, Nat.le_refl _, fun _ h => (List.not_mem_nil h).elim, h, by show (e0).size ≤ _; exact Nat.zero_le _, fun _ h => (List.not_mem_nil h).elim⟩
end Me
end Go.Proofs.Ytepbmfjimppgcaa
