/-
  A node of a raft group over plain numbers and lists: what each call of it does.
-/
import Derived.Test.YteaopnhjndnpnaaRlMath
namespace Go.Proofs.Yteaopnhjndnpnaa.N
open Go.Proofs.Yteaopnhjndnpnaa

structure Rec where
  kind : Int
  index : Int
  term : Int
  vote : Int
  data : ByteArray

structure Msg where
  kind : Int
  group : Int
  frm : Int
  to : Int
  term : Int
  index : Int
  at_ : Int
  ents : List (Int × ByteArray)
  commit : Int
  ok : Bool
  data : ByteArray

structure St where
  group : Int
  id : Nat
  nodes : Nat
  log : G.L
  data : ByteArray
  term : Int
  vote : Int
  role : Int
  lead : Int
  commit : Int
  wait : Int
  left : Int
  voted : List Bool
  next : List Int
  mtch : List Int
  recs : List Rec

/-- What is saved. -/
structure Sv where
  term : Int
  vote : Int
  base : Int
  baseTerm : Int
  data : ByteArray
  ents : List (Int × ByteArray)

def msg (s : St) (kind : Int) (to : Int) : Msg := ⟨kind, s.group, s.id, to, s.term, 0, 0, [], 0, false, ⟨#[]⟩⟩
def askVote (s : St) (to : Nat) : Msg := { msg s 1 to with index := G.last s.log, at_ := G.termA s.log (G.last s.log) }
def nextOf (s : St) (to : Nat) : Int := s.next.getD to 0
def mtchOf (s : St) (to : Nat) : Int := s.mtch.getD to 0
def tell (s : St) (to : Nat) : Msg :=
  if nextOf s to - 1 < s.log.base then
    { msg s 5 to with index := s.log.base, at_ := G.termA s.log s.log.base, data := s.data, commit := s.commit }
  else
    { msg s 3 to with index := nextOf s to - 1, at_ := G.termA s.log (nextOf s to - 1), commit := s.commit, ents := G.slice s.log (nextOf s to - 1 + 1) 16 }
def toOthers (s : St) (f : Nat → Msg) : List Msg := ((List.range s.nodes).filter (fun i => !(i == s.id))).map f

def ins (x : Int) : List Int → List Int
  | [] => [x]
  | y :: l => if x < y then x :: y :: l else y :: ins x l
def sort : List Int → List Int
  | [] => []
  | x :: l => ins x (sort l)

/-- What a majority has. -/
def held (s : St) : Int := (sort ((s.mtch.set s.id (G.last s.log)).take s.nodes)).getD ((s.nodes - 1) / 2) 0
def commitMore (s : St) : St := if s.commit < held s ∧ G.termA s.log (held s) = s.term then { s with commit := held s } else s

def add (s : St) (x : Int × ByteArray) : St :=
  if G.appE s.log x = 0 then { s with log := G.app s.log x, recs := s.recs ++ [⟨2, G.last s.log + 1, x.1, 0, x.2⟩] } else s
def cut (s : St) (i : Int) : St :=
  if G.last s.log < i then s else { s with log := G.cut s.log i, recs := s.recs ++ [⟨3, i, 0, 0, ⟨#[]⟩⟩] }
def has (s : St) (i t : Int) : Bool := decide (G.termE s.log i = 0) && decide (G.termA s.log i = t)
def rebase (s : St) (i t : Int) (d : ByteArray) : St :=
  { s with log := if has s i t then G.cmp s.log i else ⟨i, t, []⟩, data := d, recs := s.recs ++ [⟨4, i, t, 0, d⟩] }

def isElected (s : St) : Bool := decide ((s.nodes : Int) < 2 * (s.voted.filter id).length)
def takeLead1 (s : St) : St :=
  { s with role := 3, lead := s.id, next := List.replicate s.nodes (G.last s.log + 1) ++ s.next.drop s.nodes, mtch := List.replicate s.nodes 0 ++ s.mtch.drop s.nodes }
def takeLead (s : St) : St := commitMore (add (takeLead1 s) (s.term, ⟨#[]⟩))
def waitOf (draw : Int) : Int := 10 + (max draw 0) % 10
def stand1 (s : St) (draw : Int) : St :=
  { s with term := s.term + 1, vote := s.id, role := 2, lead := -1, voted := (List.replicate 7 false).set s.id true, wait := waitOf draw, left := waitOf draw }

/-- A call's RecHard stands ahead of what the call did. -/
def noted (s s' : St) : St :=
  if s'.term = s.term ∧ s'.vote = s.vote then s' else { s' with recs := s.recs ++ [⟨1, 0, s'.term, s'.vote, ⟨#[]⟩⟩] ++ s'.recs.drop s.recs.length }

def standS (s : St) (draw : Int) : St :=
  if s.term = 1099511627776 then { s with left := s.wait } else
    if isElected (stand1 s draw) then takeLead (stand1 s draw) else stand1 s draw
def standM (s : St) (draw : Int) : List Msg :=
  if s.term = 1099511627776 then [] else
    if isElected (stand1 s draw) then toOthers (takeLead (stand1 s draw)) (tell (takeLead (stand1 s draw)))
    else toOthers (stand1 s draw) (askVote (stand1 s draw))

def tickS (s : St) (draw : Int) : St :=
  if s.role = 3 then s else
    if 0 < s.left - 1 then { s with left := s.left - 1 } else noted { s with left := s.left - 1 } (standS { s with left := s.left - 1 } draw)
def tickM (s : St) (draw : Int) : List Msg :=
  if s.role = 3 then toOthers s (tell s) else
    if 0 < s.left - 1 then [] else standM { s with left := s.left - 1 } draw

def saved (s : St) : Sv := ⟨s.term, s.vote, s.log.base, G.termA s.log s.log.base, s.data, s.log.ents⟩

def new (group : Int) (id nodes : Nat) (s : Sv) (draw : Int) : St :=
  ⟨group, id, nodes, ⟨s.base, s.baseTerm, s.ents⟩, s.data, s.term, s.vote, 1, -1, s.base, waitOf draw, waitOf draw, List.replicate 7 false, List.replicate 7 0, List.replicate 7 0, []⟩

end Go.Proofs.Yteaopnhjndnpnaa.N
