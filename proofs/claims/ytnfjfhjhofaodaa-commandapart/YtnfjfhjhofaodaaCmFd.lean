/-
  Fields: pointers to the cells of structs, as values of any type; the fields of a struct.
-/
import Derived.StillTailTactics
import Derived.Test.YtnfjfhjhofaodaaCmNum
namespace Go.Proofs.Ytnfjfhjhofaodaa
open Go.RowKit

/-- The structs that go as bytes. -/
abbrev St := Unit ⊕ Unit ⊕ Unit ⊕ Unit ⊕ Unit ⊕ Unit ⊕ Unit
abbrev St.id : St := .inl ()
abbrev St.op : St := .inr (.inl ())
abbrev St.cmd : St := .inr (.inr (.inl ()))
abbrev St.ent : St := .inr (.inr (.inr (.inl ())))
abbrev St.msg : St := .inr (.inr (.inr (.inr (.inl ()))))
abbrev St.post : St := .inr (.inr (.inr (.inr (.inr (.inl ())))))
abbrev St.reply : St := .inr (.inr (.inr (.inr (.inr (.inr ())))))

/-- A field: where its first cell lies. -/
abbrev Fd := (Nat × Nat) ⊕ (Nat × Nat) ⊕ (Nat × Nat) ⊕ (Nat × Nat) ⊕ (Nat × Nat) ⊕ (Nat × Nat) ⊕ (St × Nat × Nat)
abbrev Fd.int (b o : Nat) : Fd := .inl (b, o)
abbrev Fd.errno (b o : Nat) : Fd := .inr (.inl (b, o))
abbrev Fd.bool (b o : Nat) : Fd := .inr (.inr (.inl (b, o)))
abbrev Fd.str (b o : Nat) : Fd := .inr (.inr (.inr (.inl (b, o))))
abbrev Fd.ents (b o : Nat) : Fd := .inr (.inr (.inr (.inr (.inl (b, o)))))
abbrev Fd.posts (b o : Nat) : Fd := .inr (.inr (.inr (.inr (.inr (.inl (b, o))))))
abbrev Fd.sub (t : St) (b o : Nat) : Fd := .inr (.inr (.inr (.inr (.inr (.inr (t, b, o))))))

def St.ty : St → TypeId
  | .inl _ => 88
  | .inr (.inl _) => 89
  | .inr (.inr (.inl _)) => 81
  | .inr (.inr (.inr (.inl _))) => 143
  | .inr (.inr (.inr (.inr (.inl _)))) => 145
  | .inr (.inr (.inr (.inr (.inr (.inl _))))) => 144
  | .inr (.inr (.inr (.inr (.inr (.inr _))))) => 148

def Fd.val : Fd → Value
  | .inl (b, o) => .iface 113 (.pointer (some ⟨b, o, none⟩))
  | .inr (.inl (b, o)) => .iface 115 (.pointer (some ⟨b, o, none⟩))
  | .inr (.inr (.inl (b, o))) => .iface 116 (.pointer (some ⟨b, o, none⟩))
  | .inr (.inr (.inr (.inl (b, o)))) => .iface 118 (.pointer (some ⟨b, o, none⟩))
  | .inr (.inr (.inr (.inr (.inl (b, o))))) => .iface 120 (.pointer (some ⟨b, o, none⟩))
  | .inr (.inr (.inr (.inr (.inr (.inl (b, o)))))) => .iface 124 (.pointer (some ⟨b, o, none⟩))
  | .inr (.inr (.inr (.inr (.inr (.inr (t, b, o)))))) => .iface t.ty (.pointer (some ⟨b, o, none⟩))

/-- The fields of a struct, in the order of their bytes. -/
def fields (b o : Nat) : St → List Fd
  | .inl _ => [.int b o, .int b (o + 1)]
  | .inr (.inl _) => [.int b o, .str b (o + 1), .str b (o + 2), .str b (o + 3), .str b (o + 4), .str b (o + 5), .str b (o + 6), .int b (o + 7), .int b (o + 8)]
  | .inr (.inr (.inl _)) => [.int b o, .sub .id b (o + 1), .int b (o + 12), .int b (o + 13), .int b (o + 14), .int b (o + 15), .int b (o + 16), .bool b (o + 17), .errno b (o + 18), .sub .op b (o + 3), .str b (o + 19)]
  | .inr (.inr (.inr (.inl _))) => [.int b o, .str b (o + 1)]
  | .inr (.inr (.inr (.inr (.inl _)))) => [.int b o, .int b (o + 1), .int b (o + 2), .int b (o + 3), .int b (o + 4), .int b (o + 5), .int b (o + 6), .int b (o + 8), .bool b (o + 9), .ents b (o + 7), .str b (o + 10)]
  | .inr (.inr (.inr (.inr (.inr (.inl _))))) => [.str b o, .str b (o + 1)]
  | .inr (.inr (.inr (.inr (.inr (.inr _))))) => [.errno b o, .int b (o + 1), .posts b (o + 2)]

/-- A row of fields, in a block of its own. -/
def Elems (w : World) (eb : Nat) (fs : List Fd) : Prop := w.heap[eb]? = some (.cells (fs.map Fd.val).toArray 20 (0, 0))

/-- What an assertion to a type that is not an interface gives. -/
theorem ta_hit_id (v : Value) (w : World) : (Instr.typeAssert (.iface 88 v) 20 88 true).run Try.prog w = .ok (.tuple #[v, .bool true]) w := by kernel_rfl
theorem ta_hit_op (v : Value) (w : World) : (Instr.typeAssert (.iface 89 v) 20 89 true).run Try.prog w = .ok (.tuple #[v, .bool true]) w := by kernel_rfl
theorem ta_hit_cmd (v : Value) (w : World) : (Instr.typeAssert (.iface 81 v) 20 81 true).run Try.prog w = .ok (.tuple #[v, .bool true]) w := by kernel_rfl
theorem ta_hit_ent (v : Value) (w : World) : (Instr.typeAssert (.iface 143 v) 20 143 true).run Try.prog w = .ok (.tuple #[v, .bool true]) w := by kernel_rfl
theorem ta_hit_msg (v : Value) (w : World) : (Instr.typeAssert (.iface 145 v) 20 145 true).run Try.prog w = .ok (.tuple #[v, .bool true]) w := by kernel_rfl
theorem ta_hit_post (v : Value) (w : World) : (Instr.typeAssert (.iface 144 v) 20 144 true).run Try.prog w = .ok (.tuple #[v, .bool true]) w := by kernel_rfl
theorem ta_hit_reply (v : Value) (w : World) : (Instr.typeAssert (.iface 148 v) 20 148 true).run Try.prog w = .ok (.tuple #[v, .bool true]) w := by kernel_rfl
theorem ta_hit_int (v : Value) (w : World) : (Instr.typeAssert (.iface 113 v) 20 113 true).run Try.prog w = .ok (.tuple #[v, .bool true]) w := by kernel_rfl
theorem ta_hit_errno (v : Value) (w : World) : (Instr.typeAssert (.iface 115 v) 20 115 true).run Try.prog w = .ok (.tuple #[v, .bool true]) w := by kernel_rfl
theorem ta_hit_bool (v : Value) (w : World) : (Instr.typeAssert (.iface 116 v) 20 116 true).run Try.prog w = .ok (.tuple #[v, .bool true]) w := by kernel_rfl
theorem ta_hit_str (v : Value) (w : World) : (Instr.typeAssert (.iface 118 v) 20 118 true).run Try.prog w = .ok (.tuple #[v, .bool true]) w := by kernel_rfl
theorem ta_hit_ents (v : Value) (w : World) : (Instr.typeAssert (.iface 120 v) 20 120 true).run Try.prog w = .ok (.tuple #[v, .bool true]) w := by kernel_rfl
theorem ta_hit_posts (v : Value) (w : World) : (Instr.typeAssert (.iface 124 v) 20 124 true).run Try.prog w = .ok (.tuple #[v, .bool true]) w := by kernel_rfl
theorem ta_op_not_id (v : Value) (w : World) : (Instr.typeAssert (.iface 89 v) 20 88 true).run Try.prog w = .ok (.tuple #[.pointer none, .bool false]) w := by kernel_rfl
theorem ta_cmd_not_id (v : Value) (w : World) : (Instr.typeAssert (.iface 81 v) 20 88 true).run Try.prog w = .ok (.tuple #[.pointer none, .bool false]) w := by kernel_rfl
theorem ta_cmd_not_op (v : Value) (w : World) : (Instr.typeAssert (.iface 81 v) 20 89 true).run Try.prog w = .ok (.tuple #[.pointer none, .bool false]) w := by kernel_rfl
theorem ta_ent_not_id (v : Value) (w : World) : (Instr.typeAssert (.iface 143 v) 20 88 true).run Try.prog w = .ok (.tuple #[.pointer none, .bool false]) w := by kernel_rfl
theorem ta_ent_not_op (v : Value) (w : World) : (Instr.typeAssert (.iface 143 v) 20 89 true).run Try.prog w = .ok (.tuple #[.pointer none, .bool false]) w := by kernel_rfl
theorem ta_ent_not_cmd (v : Value) (w : World) : (Instr.typeAssert (.iface 143 v) 20 81 true).run Try.prog w = .ok (.tuple #[.pointer none, .bool false]) w := by kernel_rfl
theorem ta_msg_not_id (v : Value) (w : World) : (Instr.typeAssert (.iface 145 v) 20 88 true).run Try.prog w = .ok (.tuple #[.pointer none, .bool false]) w := by kernel_rfl
theorem ta_msg_not_op (v : Value) (w : World) : (Instr.typeAssert (.iface 145 v) 20 89 true).run Try.prog w = .ok (.tuple #[.pointer none, .bool false]) w := by kernel_rfl
theorem ta_msg_not_cmd (v : Value) (w : World) : (Instr.typeAssert (.iface 145 v) 20 81 true).run Try.prog w = .ok (.tuple #[.pointer none, .bool false]) w := by kernel_rfl
theorem ta_msg_not_ent (v : Value) (w : World) : (Instr.typeAssert (.iface 145 v) 20 143 true).run Try.prog w = .ok (.tuple #[.pointer none, .bool false]) w := by kernel_rfl
theorem ta_post_not_id (v : Value) (w : World) : (Instr.typeAssert (.iface 144 v) 20 88 true).run Try.prog w = .ok (.tuple #[.pointer none, .bool false]) w := by kernel_rfl
theorem ta_post_not_op (v : Value) (w : World) : (Instr.typeAssert (.iface 144 v) 20 89 true).run Try.prog w = .ok (.tuple #[.pointer none, .bool false]) w := by kernel_rfl
theorem ta_post_not_cmd (v : Value) (w : World) : (Instr.typeAssert (.iface 144 v) 20 81 true).run Try.prog w = .ok (.tuple #[.pointer none, .bool false]) w := by kernel_rfl
theorem ta_post_not_ent (v : Value) (w : World) : (Instr.typeAssert (.iface 144 v) 20 143 true).run Try.prog w = .ok (.tuple #[.pointer none, .bool false]) w := by kernel_rfl
theorem ta_post_not_msg (v : Value) (w : World) : (Instr.typeAssert (.iface 144 v) 20 145 true).run Try.prog w = .ok (.tuple #[.pointer none, .bool false]) w := by kernel_rfl
theorem ta_reply_not_id (v : Value) (w : World) : (Instr.typeAssert (.iface 148 v) 20 88 true).run Try.prog w = .ok (.tuple #[.pointer none, .bool false]) w := by kernel_rfl
theorem ta_reply_not_op (v : Value) (w : World) : (Instr.typeAssert (.iface 148 v) 20 89 true).run Try.prog w = .ok (.tuple #[.pointer none, .bool false]) w := by kernel_rfl
theorem ta_reply_not_cmd (v : Value) (w : World) : (Instr.typeAssert (.iface 148 v) 20 81 true).run Try.prog w = .ok (.tuple #[.pointer none, .bool false]) w := by kernel_rfl
theorem ta_reply_not_ent (v : Value) (w : World) : (Instr.typeAssert (.iface 148 v) 20 143 true).run Try.prog w = .ok (.tuple #[.pointer none, .bool false]) w := by kernel_rfl
theorem ta_reply_not_msg (v : Value) (w : World) : (Instr.typeAssert (.iface 148 v) 20 145 true).run Try.prog w = .ok (.tuple #[.pointer none, .bool false]) w := by kernel_rfl
theorem ta_reply_not_post (v : Value) (w : World) : (Instr.typeAssert (.iface 148 v) 20 144 true).run Try.prog w = .ok (.tuple #[.pointer none, .bool false]) w := by kernel_rfl
theorem ta_errno_not_int (v : Value) (w : World) : (Instr.typeAssert (.iface 115 v) 20 113 true).run Try.prog w = .ok (.tuple #[.pointer none, .bool false]) w := by kernel_rfl
theorem ta_bool_not_int (v : Value) (w : World) : (Instr.typeAssert (.iface 116 v) 20 113 true).run Try.prog w = .ok (.tuple #[.pointer none, .bool false]) w := by kernel_rfl
theorem ta_bool_not_errno (v : Value) (w : World) : (Instr.typeAssert (.iface 116 v) 20 115 true).run Try.prog w = .ok (.tuple #[.pointer none, .bool false]) w := by kernel_rfl
theorem ta_str_not_int (v : Value) (w : World) : (Instr.typeAssert (.iface 118 v) 20 113 true).run Try.prog w = .ok (.tuple #[.pointer none, .bool false]) w := by kernel_rfl
theorem ta_str_not_errno (v : Value) (w : World) : (Instr.typeAssert (.iface 118 v) 20 115 true).run Try.prog w = .ok (.tuple #[.pointer none, .bool false]) w := by kernel_rfl
theorem ta_str_not_bool (v : Value) (w : World) : (Instr.typeAssert (.iface 118 v) 20 116 true).run Try.prog w = .ok (.tuple #[.pointer none, .bool false]) w := by kernel_rfl
theorem ta_ents_not_int (v : Value) (w : World) : (Instr.typeAssert (.iface 120 v) 20 113 true).run Try.prog w = .ok (.tuple #[.pointer none, .bool false]) w := by kernel_rfl
theorem ta_ents_not_errno (v : Value) (w : World) : (Instr.typeAssert (.iface 120 v) 20 115 true).run Try.prog w = .ok (.tuple #[.pointer none, .bool false]) w := by kernel_rfl
theorem ta_ents_not_bool (v : Value) (w : World) : (Instr.typeAssert (.iface 120 v) 20 116 true).run Try.prog w = .ok (.tuple #[.pointer none, .bool false]) w := by kernel_rfl
theorem ta_ents_not_str (v : Value) (w : World) : (Instr.typeAssert (.iface 120 v) 20 118 true).run Try.prog w = .ok (.tuple #[.pointer none, .bool false]) w := by kernel_rfl
theorem ta_posts_not_int (v : Value) (w : World) : (Instr.typeAssert (.iface 124 v) 20 113 true).run Try.prog w = .ok (.tuple #[.pointer none, .bool false]) w := by kernel_rfl
theorem ta_posts_not_errno (v : Value) (w : World) : (Instr.typeAssert (.iface 124 v) 20 115 true).run Try.prog w = .ok (.tuple #[.pointer none, .bool false]) w := by kernel_rfl
theorem ta_posts_not_bool (v : Value) (w : World) : (Instr.typeAssert (.iface 124 v) 20 116 true).run Try.prog w = .ok (.tuple #[.pointer none, .bool false]) w := by kernel_rfl
theorem ta_posts_not_str (v : Value) (w : World) : (Instr.typeAssert (.iface 124 v) 20 118 true).run Try.prog w = .ok (.tuple #[.pointer none, .bool false]) w := by kernel_rfl
theorem ta_posts_not_ents (v : Value) (w : World) : (Instr.typeAssert (.iface 124 v) 20 120 true).run Try.prog w = .ok (.tuple #[.pointer none, .bool false]) w := by kernel_rfl
theorem ta_id_not_int (v : Value) (w : World) : (Instr.typeAssert (.iface 88 v) 20 113 true).run Try.prog w = .ok (.tuple #[.pointer none, .bool false]) w := by kernel_rfl
theorem ta_id_not_errno (v : Value) (w : World) : (Instr.typeAssert (.iface 88 v) 20 115 true).run Try.prog w = .ok (.tuple #[.pointer none, .bool false]) w := by kernel_rfl
theorem ta_id_not_bool (v : Value) (w : World) : (Instr.typeAssert (.iface 88 v) 20 116 true).run Try.prog w = .ok (.tuple #[.pointer none, .bool false]) w := by kernel_rfl
theorem ta_id_not_str (v : Value) (w : World) : (Instr.typeAssert (.iface 88 v) 20 118 true).run Try.prog w = .ok (.tuple #[.pointer none, .bool false]) w := by kernel_rfl
theorem ta_id_not_ents (v : Value) (w : World) : (Instr.typeAssert (.iface 88 v) 20 120 true).run Try.prog w = .ok (.tuple #[.pointer none, .bool false]) w := by kernel_rfl
theorem ta_id_not_posts (v : Value) (w : World) : (Instr.typeAssert (.iface 88 v) 20 124 true).run Try.prog w = .ok (.tuple #[.pointer none, .bool false]) w := by kernel_rfl
theorem ta_op_not_int (v : Value) (w : World) : (Instr.typeAssert (.iface 89 v) 20 113 true).run Try.prog w = .ok (.tuple #[.pointer none, .bool false]) w := by kernel_rfl
theorem ta_op_not_errno (v : Value) (w : World) : (Instr.typeAssert (.iface 89 v) 20 115 true).run Try.prog w = .ok (.tuple #[.pointer none, .bool false]) w := by kernel_rfl
theorem ta_op_not_bool (v : Value) (w : World) : (Instr.typeAssert (.iface 89 v) 20 116 true).run Try.prog w = .ok (.tuple #[.pointer none, .bool false]) w := by kernel_rfl
theorem ta_op_not_str (v : Value) (w : World) : (Instr.typeAssert (.iface 89 v) 20 118 true).run Try.prog w = .ok (.tuple #[.pointer none, .bool false]) w := by kernel_rfl
theorem ta_op_not_ents (v : Value) (w : World) : (Instr.typeAssert (.iface 89 v) 20 120 true).run Try.prog w = .ok (.tuple #[.pointer none, .bool false]) w := by kernel_rfl
theorem ta_op_not_posts (v : Value) (w : World) : (Instr.typeAssert (.iface 89 v) 20 124 true).run Try.prog w = .ok (.tuple #[.pointer none, .bool false]) w := by kernel_rfl
theorem ta_cmd_not_int (v : Value) (w : World) : (Instr.typeAssert (.iface 81 v) 20 113 true).run Try.prog w = .ok (.tuple #[.pointer none, .bool false]) w := by kernel_rfl
theorem ta_cmd_not_errno (v : Value) (w : World) : (Instr.typeAssert (.iface 81 v) 20 115 true).run Try.prog w = .ok (.tuple #[.pointer none, .bool false]) w := by kernel_rfl
theorem ta_cmd_not_bool (v : Value) (w : World) : (Instr.typeAssert (.iface 81 v) 20 116 true).run Try.prog w = .ok (.tuple #[.pointer none, .bool false]) w := by kernel_rfl
theorem ta_cmd_not_str (v : Value) (w : World) : (Instr.typeAssert (.iface 81 v) 20 118 true).run Try.prog w = .ok (.tuple #[.pointer none, .bool false]) w := by kernel_rfl
theorem ta_cmd_not_ents (v : Value) (w : World) : (Instr.typeAssert (.iface 81 v) 20 120 true).run Try.prog w = .ok (.tuple #[.pointer none, .bool false]) w := by kernel_rfl
theorem ta_cmd_not_posts (v : Value) (w : World) : (Instr.typeAssert (.iface 81 v) 20 124 true).run Try.prog w = .ok (.tuple #[.pointer none, .bool false]) w := by kernel_rfl
theorem ta_ent_not_int (v : Value) (w : World) : (Instr.typeAssert (.iface 143 v) 20 113 true).run Try.prog w = .ok (.tuple #[.pointer none, .bool false]) w := by kernel_rfl
theorem ta_ent_not_errno (v : Value) (w : World) : (Instr.typeAssert (.iface 143 v) 20 115 true).run Try.prog w = .ok (.tuple #[.pointer none, .bool false]) w := by kernel_rfl
theorem ta_ent_not_bool (v : Value) (w : World) : (Instr.typeAssert (.iface 143 v) 20 116 true).run Try.prog w = .ok (.tuple #[.pointer none, .bool false]) w := by kernel_rfl
theorem ta_ent_not_str (v : Value) (w : World) : (Instr.typeAssert (.iface 143 v) 20 118 true).run Try.prog w = .ok (.tuple #[.pointer none, .bool false]) w := by kernel_rfl
theorem ta_ent_not_ents (v : Value) (w : World) : (Instr.typeAssert (.iface 143 v) 20 120 true).run Try.prog w = .ok (.tuple #[.pointer none, .bool false]) w := by kernel_rfl
theorem ta_ent_not_posts (v : Value) (w : World) : (Instr.typeAssert (.iface 143 v) 20 124 true).run Try.prog w = .ok (.tuple #[.pointer none, .bool false]) w := by kernel_rfl
theorem ta_msg_not_int (v : Value) (w : World) : (Instr.typeAssert (.iface 145 v) 20 113 true).run Try.prog w = .ok (.tuple #[.pointer none, .bool false]) w := by kernel_rfl
theorem ta_msg_not_errno (v : Value) (w : World) : (Instr.typeAssert (.iface 145 v) 20 115 true).run Try.prog w = .ok (.tuple #[.pointer none, .bool false]) w := by kernel_rfl
theorem ta_msg_not_bool (v : Value) (w : World) : (Instr.typeAssert (.iface 145 v) 20 116 true).run Try.prog w = .ok (.tuple #[.pointer none, .bool false]) w := by kernel_rfl
theorem ta_msg_not_str (v : Value) (w : World) : (Instr.typeAssert (.iface 145 v) 20 118 true).run Try.prog w = .ok (.tuple #[.pointer none, .bool false]) w := by kernel_rfl
theorem ta_msg_not_ents (v : Value) (w : World) : (Instr.typeAssert (.iface 145 v) 20 120 true).run Try.prog w = .ok (.tuple #[.pointer none, .bool false]) w := by kernel_rfl
theorem ta_msg_not_posts (v : Value) (w : World) : (Instr.typeAssert (.iface 145 v) 20 124 true).run Try.prog w = .ok (.tuple #[.pointer none, .bool false]) w := by kernel_rfl
theorem ta_post_not_int (v : Value) (w : World) : (Instr.typeAssert (.iface 144 v) 20 113 true).run Try.prog w = .ok (.tuple #[.pointer none, .bool false]) w := by kernel_rfl
theorem ta_post_not_errno (v : Value) (w : World) : (Instr.typeAssert (.iface 144 v) 20 115 true).run Try.prog w = .ok (.tuple #[.pointer none, .bool false]) w := by kernel_rfl
theorem ta_post_not_bool (v : Value) (w : World) : (Instr.typeAssert (.iface 144 v) 20 116 true).run Try.prog w = .ok (.tuple #[.pointer none, .bool false]) w := by kernel_rfl
theorem ta_post_not_str (v : Value) (w : World) : (Instr.typeAssert (.iface 144 v) 20 118 true).run Try.prog w = .ok (.tuple #[.pointer none, .bool false]) w := by kernel_rfl
theorem ta_post_not_ents (v : Value) (w : World) : (Instr.typeAssert (.iface 144 v) 20 120 true).run Try.prog w = .ok (.tuple #[.pointer none, .bool false]) w := by kernel_rfl
theorem ta_post_not_posts (v : Value) (w : World) : (Instr.typeAssert (.iface 144 v) 20 124 true).run Try.prog w = .ok (.tuple #[.pointer none, .bool false]) w := by kernel_rfl
theorem ta_reply_not_int (v : Value) (w : World) : (Instr.typeAssert (.iface 148 v) 20 113 true).run Try.prog w = .ok (.tuple #[.pointer none, .bool false]) w := by kernel_rfl
theorem ta_reply_not_errno (v : Value) (w : World) : (Instr.typeAssert (.iface 148 v) 20 115 true).run Try.prog w = .ok (.tuple #[.pointer none, .bool false]) w := by kernel_rfl
theorem ta_reply_not_bool (v : Value) (w : World) : (Instr.typeAssert (.iface 148 v) 20 116 true).run Try.prog w = .ok (.tuple #[.pointer none, .bool false]) w := by kernel_rfl
theorem ta_reply_not_str (v : Value) (w : World) : (Instr.typeAssert (.iface 148 v) 20 118 true).run Try.prog w = .ok (.tuple #[.pointer none, .bool false]) w := by kernel_rfl
theorem ta_reply_not_ents (v : Value) (w : World) : (Instr.typeAssert (.iface 148 v) 20 120 true).run Try.prog w = .ok (.tuple #[.pointer none, .bool false]) w := by kernel_rfl
theorem ta_reply_not_posts (v : Value) (w : World) : (Instr.typeAssert (.iface 148 v) 20 124 true).run Try.prog w = .ok (.tuple #[.pointer none, .bool false]) w := by kernel_rfl

theorem wp_tailF {P : Program} {id : Nat} {Q : Exit → Act → World → Prop} {a : Act} {w : World} {l : List Oper} (n : Nat) (hm : P.follows .mixedOrders = true) (hB : Region.lexTailB .any l.toArray n = true)
    (h : wpStill P l.toArray w.drew (fun a' => wpList P l.toArray Q (l.drop n) a' w.drew) (l.take n) a) : (Code.region id l.toArray true).wp P Q a w := wp_region_still_tail n hm hB h

set_option maxHeartbeats 1000000 in
set_option maxRecDepth 100000 in
theorem fieldsOf_id (b o : Nat) (w : World) :
    Calls Try.prog 55 #[(Fd.sub .id b o).val] w fun e w' => e = .returned (.slice (some ⟨w.heap.size, 0, none⟩) 2 2) ∧ w' = (w.alloc (.cells ((fields b o .id).map Fd.val).toArray 20)).drew := by
  have t0 := ta_hit_id
  unfold fields
  simp only [List.map_cons, List.map_nil]
  unfold Fd.val St.ty
  simp only
  go_enter Try.func55, Try.ntmps55
  go_wp2
  refine wp_tailF 8 (by kernel_rfl) (by kernel_rfl) ?_
  simp only [List.take_succ_cons, List.take_zero, List.drop_succ_cons, List.drop_zero]
  repeat still_step
  try refine wpStill_nil ?_
  go_wp2
  go_ret
  exact ⟨rfl, rfl⟩

set_option maxHeartbeats 1000000 in
set_option maxRecDepth 100000 in
theorem fieldsOf_op (b o : Nat) (w : World) :
    Calls Try.prog 55 #[(Fd.sub .op b o).val] w fun e w' => e = .returned (.slice (some ⟨w.heap.size, 0, none⟩) 9 9) ∧ w' = (w.alloc (.cells ((fields b o .op).map Fd.val).toArray 20)).drew := by
  have t1 := ta_hit_op
  have t0 := ta_op_not_id
  unfold fields
  simp only [List.map_cons, List.map_nil]
  unfold Fd.val St.ty
  simp only
  go_enter Try.func55, Try.ntmps55
  go_wp2
  refine wp_tailF 36 (by kernel_rfl) (by kernel_rfl) ?_
  simp only [List.take_succ_cons, List.take_zero, List.drop_succ_cons, List.drop_zero]
  repeat still_step
  try refine wpStill_nil ?_
  go_wp2
  go_ret
  exact ⟨rfl, rfl⟩

set_option maxHeartbeats 1000000 in
set_option maxRecDepth 100000 in
theorem fieldsOf_cmd (b o : Nat) (w : World) :
    Calls Try.prog 55 #[(Fd.sub .cmd b o).val] w fun e w' => e = .returned (.slice (some ⟨w.heap.size, 0, none⟩) 11 11) ∧ w' = (w.alloc (.cells ((fields b o .cmd).map Fd.val).toArray 20)).drew := by
  have t2 := ta_hit_cmd
  have t0 := ta_cmd_not_id
  have t1 := ta_cmd_not_op
  unfold fields
  simp only [List.map_cons, List.map_nil]
  unfold Fd.val St.ty
  simp only
  go_enter Try.func55, Try.ntmps55
  go_wp2
  refine wp_tailF 44 (by kernel_rfl) (by kernel_rfl) ?_
  simp only [List.take_succ_cons, List.take_zero, List.drop_succ_cons, List.drop_zero]
  repeat still_step
  try refine wpStill_nil ?_
  go_wp2
  go_ret
  exact ⟨rfl, rfl⟩

set_option maxHeartbeats 1000000 in
set_option maxRecDepth 100000 in
theorem fieldsOf_ent (b o : Nat) (w : World) :
    Calls Try.prog 55 #[(Fd.sub .ent b o).val] w fun e w' => e = .returned (.slice (some ⟨w.heap.size, 0, none⟩) 2 2) ∧ w' = (w.alloc (.cells ((fields b o .ent).map Fd.val).toArray 20)).drew := by
  have t3 := ta_hit_ent
  have t0 := ta_ent_not_id
  have t1 := ta_ent_not_op
  have t2 := ta_ent_not_cmd
  unfold fields
  simp only [List.map_cons, List.map_nil]
  unfold Fd.val St.ty
  simp only
  go_enter Try.func55, Try.ntmps55
  go_wp2
  refine wp_tailF 8 (by kernel_rfl) (by kernel_rfl) ?_
  simp only [List.take_succ_cons, List.take_zero, List.drop_succ_cons, List.drop_zero]
  repeat still_step
  try refine wpStill_nil ?_
  go_wp2
  go_ret
  exact ⟨rfl, rfl⟩

set_option maxHeartbeats 1000000 in
set_option maxRecDepth 100000 in
theorem fieldsOf_msg (b o : Nat) (w : World) :
    Calls Try.prog 55 #[(Fd.sub .msg b o).val] w fun e w' => e = .returned (.slice (some ⟨w.heap.size, 0, none⟩) 11 11) ∧ w' = (w.alloc (.cells ((fields b o .msg).map Fd.val).toArray 20)).drew := by
  have t4 := ta_hit_msg
  have t0 := ta_msg_not_id
  have t1 := ta_msg_not_op
  have t2 := ta_msg_not_cmd
  have t3 := ta_msg_not_ent
  unfold fields
  simp only [List.map_cons, List.map_nil]
  unfold Fd.val St.ty
  simp only
  go_enter Try.func55, Try.ntmps55
  go_wp2
  refine wp_tailF 44 (by kernel_rfl) (by kernel_rfl) ?_
  simp only [List.take_succ_cons, List.take_zero, List.drop_succ_cons, List.drop_zero]
  repeat still_step
  try refine wpStill_nil ?_
  go_wp2
  go_ret
  exact ⟨rfl, rfl⟩

set_option maxHeartbeats 1000000 in
set_option maxRecDepth 100000 in
theorem fieldsOf_post (b o : Nat) (w : World) :
    Calls Try.prog 55 #[(Fd.sub .post b o).val] w fun e w' => e = .returned (.slice (some ⟨w.heap.size, 0, none⟩) 2 2) ∧ w' = (w.alloc (.cells ((fields b o .post).map Fd.val).toArray 20)).drew := by
  have t5 := ta_hit_post
  have t0 := ta_post_not_id
  have t1 := ta_post_not_op
  have t2 := ta_post_not_cmd
  have t3 := ta_post_not_ent
  have t4 := ta_post_not_msg
  unfold fields
  simp only [List.map_cons, List.map_nil]
  unfold Fd.val St.ty
  simp only
  go_enter Try.func55, Try.ntmps55
  go_wp2
  refine wp_tailF 8 (by kernel_rfl) (by kernel_rfl) ?_
  simp only [List.take_succ_cons, List.take_zero, List.drop_succ_cons, List.drop_zero]
  repeat still_step
  try refine wpStill_nil ?_
  go_wp2
  go_ret
  exact ⟨rfl, rfl⟩

set_option maxHeartbeats 1000000 in
set_option maxRecDepth 100000 in
theorem fieldsOf_reply (b o : Nat) (w : World) :
    Calls Try.prog 55 #[(Fd.sub .reply b o).val] w fun e w' => e = .returned (.slice (some ⟨w.heap.size, 0, none⟩) 3 3) ∧ w' = (w.alloc (.cells ((fields b o .reply).map Fd.val).toArray 20)).drew := by
  have t6 := ta_hit_reply
  have t0 := ta_reply_not_id
  have t1 := ta_reply_not_op
  have t2 := ta_reply_not_cmd
  have t3 := ta_reply_not_ent
  have t4 := ta_reply_not_msg
  have t5 := ta_reply_not_post
  unfold fields
  simp only [List.map_cons, List.map_nil]
  unfold Fd.val St.ty
  simp only
  go_enter Try.func55, Try.ntmps55
  go_wp2
  refine wp_tailF 12 (by kernel_rfl) (by kernel_rfl) ?_
  simp only [List.take_succ_cons, List.take_zero, List.drop_succ_cons, List.drop_zero]
  repeat still_step
  try refine wpStill_nil ?_
  go_wp2
  go_ret
  exact ⟨rfl, rfl⟩

/-- The fields of a struct, in a row of their own. -/
theorem fieldsOf_c (t : St) (b o : Nat) (w : World) :
    Calls Try.prog 55 #[(Fd.sub t b o).val] w fun e w' => e = .returned (.slice (some ⟨w.heap.size, 0, none⟩) (fields b o t).length (fields b o t).length) ∧ w' = (w.alloc (.cells ((fields b o t).map Fd.val).toArray 20)).drew := by
  rcases t with _ | _ | _ | _ | _ | _ | _
  · exact fieldsOf_id b o w
  · exact fieldsOf_op b o w
  · exact fieldsOf_cmd b o w
  · exact fieldsOf_ent b o w
  · exact fieldsOf_msg b o w
  · exact fieldsOf_post b o w
  · exact fieldsOf_reply b o w

end Go.Proofs.Ytnfjfhjhofaodaa
