/-
  An op without the fields that its kind has: the document's bare.
-/
import Derived.Test.YtmdnegjpdedcnaaSlLab
namespace Go.Proofs.Ytmdnegjpdedcnaa
open Go.RowKit

set_option maxRecDepth 20000 in
theorem bare_0 (kind : Int) (h1 : (kind == 1) = false) (h2 : (kind == 2) = false) (h3 : (kind == 3) = false) (h4 : (kind == 4) = false) (h5 : (kind == 5) = false) (h6 : (kind == 6) = false) (h7 : (kind == 7) = false) (space channel user text toSpace to : ByteArray) (frm most : Int) (w : World) : Calls Try.prog 47 #[.agg #[.int .i64 kind, .string space, .string channel, .string user, .string text, .string toSpace, .string to, .int .i64 frm, .int .i64 most]] w fun e w' => e = .returned (.agg #[.int .i64 0, .string space, .string channel, .string user, .string text, .string toSpace, .string to, .int .i64 frm, .int .i64 most]) ∧ Below w.heap.size w w' := by
  have HB : Hid (∀ o o', Below w.heap.size w ((w.alloc o).alloc o')) := fun o o' => (below_alloc w o).trans ((below_alloc _ o').mono (by simp))
  go_enter Try.func47, Try.ntmps47
  go_wp2
  exact bodyPost_ret (v := .agg #[.int .i64 0, .string space, .string channel, .string user, .string text, .string toSpace, .string to, .int .i64 frm, .int .i64 most]) (by simp [results, Try.results47, go_sem]) rfl ⟨rfl, HB.out _ _⟩

set_option maxRecDepth 20000 in
theorem bare_1 (space channel user text toSpace to : ByteArray) (frm most : Int) (w : World) : Calls Try.prog 47 #[.agg #[.int .i64 1, .string space, .string channel, .string user, .string text, .string toSpace, .string to, .int .i64 frm, .int .i64 most]] w fun e w' => e = .returned (.agg #[.int .i64 0, .string ⟨#[]⟩, .string ⟨#[]⟩, .string user, .string text, .string toSpace, .string to, .int .i64 frm, .int .i64 most]) ∧ Below w.heap.size w w' := by
  have HB : Hid (∀ o o', Below w.heap.size w ((w.alloc o).alloc o')) := fun o o' => (below_alloc w o).trans ((below_alloc _ o').mono (by simp))
  go_enter Try.func47, Try.ntmps47
  go_wp2
  exact bodyPost_ret (v := .agg #[.int .i64 0, .string ⟨#[]⟩, .string ⟨#[]⟩, .string user, .string text, .string toSpace, .string to, .int .i64 frm, .int .i64 most]) (by simp [results, Try.results47, go_sem]) rfl ⟨rfl, HB.out _ _⟩

set_option maxRecDepth 20000 in
theorem bare_2 (space channel user text toSpace to : ByteArray) (frm most : Int) (w : World) : Calls Try.prog 47 #[.agg #[.int .i64 2, .string space, .string channel, .string user, .string text, .string toSpace, .string to, .int .i64 frm, .int .i64 most]] w fun e w' => e = .returned (.agg #[.int .i64 0, .string ⟨#[]⟩, .string ⟨#[]⟩, .string ⟨#[]⟩, .string text, .string toSpace, .string to, .int .i64 frm, .int .i64 most]) ∧ Below w.heap.size w w' := by
  have HB : Hid (∀ o o', Below w.heap.size w ((w.alloc o).alloc o')) := fun o o' => (below_alloc w o).trans ((below_alloc _ o').mono (by simp))
  go_enter Try.func47, Try.ntmps47
  go_wp2
  exact bodyPost_ret (v := .agg #[.int .i64 0, .string ⟨#[]⟩, .string ⟨#[]⟩, .string ⟨#[]⟩, .string text, .string toSpace, .string to, .int .i64 frm, .int .i64 most]) (by simp [results, Try.results47, go_sem]) rfl ⟨rfl, HB.out _ _⟩

set_option maxRecDepth 20000 in
theorem bare_3 (space channel user text toSpace to : ByteArray) (frm most : Int) (w : World) : Calls Try.prog 47 #[.agg #[.int .i64 3, .string space, .string channel, .string user, .string text, .string toSpace, .string to, .int .i64 frm, .int .i64 most]] w fun e w' => e = .returned (.agg #[.int .i64 0, .string ⟨#[]⟩, .string ⟨#[]⟩, .string ⟨#[]⟩, .string ⟨#[]⟩, .string toSpace, .string to, .int .i64 frm, .int .i64 most]) ∧ Below w.heap.size w w' := by
  have HB : Hid (∀ o o', Below w.heap.size w ((w.alloc o).alloc o')) := fun o o' => (below_alloc w o).trans ((below_alloc _ o').mono (by simp))
  go_enter Try.func47, Try.ntmps47
  go_wp2
  exact bodyPost_ret (v := .agg #[.int .i64 0, .string ⟨#[]⟩, .string ⟨#[]⟩, .string ⟨#[]⟩, .string ⟨#[]⟩, .string toSpace, .string to, .int .i64 frm, .int .i64 most]) (by simp [results, Try.results47, go_sem]) rfl ⟨rfl, HB.out _ _⟩

set_option maxRecDepth 20000 in
theorem bare_4 (space channel user text toSpace to : ByteArray) (frm most : Int) (w : World) : Calls Try.prog 47 #[.agg #[.int .i64 4, .string space, .string channel, .string user, .string text, .string toSpace, .string to, .int .i64 frm, .int .i64 most]] w fun e w' => e = .returned (.agg #[.int .i64 0, .string ⟨#[]⟩, .string ⟨#[]⟩, .string user, .string text, .string toSpace, .string to, .int .i64 0, .int .i64 0]) ∧ Below w.heap.size w w' := by
  have HB : Hid (∀ o o', Below w.heap.size w ((w.alloc o).alloc o')) := fun o o' => (below_alloc w o).trans ((below_alloc _ o').mono (by simp))
  go_enter Try.func47, Try.ntmps47
  go_wp2
  exact bodyPost_ret (v := .agg #[.int .i64 0, .string ⟨#[]⟩, .string ⟨#[]⟩, .string user, .string text, .string toSpace, .string to, .int .i64 0, .int .i64 0]) (by simp [results, Try.results47, go_sem]) rfl ⟨rfl, HB.out _ _⟩

set_option maxRecDepth 20000 in
theorem bare_5 (space channel user text toSpace to : ByteArray) (frm most : Int) (w : World) : Calls Try.prog 47 #[.agg #[.int .i64 5, .string space, .string channel, .string user, .string text, .string toSpace, .string to, .int .i64 frm, .int .i64 most]] w fun e w' => e = .returned (.agg #[.int .i64 0, .string ⟨#[]⟩, .string ⟨#[]⟩, .string user, .string text, .string ⟨#[]⟩, .string ⟨#[]⟩, .int .i64 frm, .int .i64 most]) ∧ Below w.heap.size w w' := by
  have HB : Hid (∀ o o', Below w.heap.size w ((w.alloc o).alloc o')) := fun o o' => (below_alloc w o).trans ((below_alloc _ o').mono (by simp))
  go_enter Try.func47, Try.ntmps47
  go_wp2
  exact bodyPost_ret (v := .agg #[.int .i64 0, .string ⟨#[]⟩, .string ⟨#[]⟩, .string user, .string text, .string ⟨#[]⟩, .string ⟨#[]⟩, .int .i64 frm, .int .i64 most]) (by simp [results, Try.results47, go_sem]) rfl ⟨rfl, HB.out _ _⟩

set_option maxRecDepth 20000 in
theorem bare_6 (space channel user text toSpace to : ByteArray) (frm most : Int) (w : World) : Calls Try.prog 47 #[.agg #[.int .i64 6, .string space, .string channel, .string user, .string text, .string toSpace, .string to, .int .i64 frm, .int .i64 most]] w fun e w' => e = .returned (.agg #[.int .i64 0, .string ⟨#[]⟩, .string channel, .string user, .string text, .string toSpace, .string to, .int .i64 frm, .int .i64 most]) ∧ Below w.heap.size w w' := by
  have HB : Hid (∀ o o', Below w.heap.size w ((w.alloc o).alloc o')) := fun o o' => (below_alloc w o).trans ((below_alloc _ o').mono (by simp))
  go_enter Try.func47, Try.ntmps47
  go_wp2
  exact bodyPost_ret (v := .agg #[.int .i64 0, .string ⟨#[]⟩, .string channel, .string user, .string text, .string toSpace, .string to, .int .i64 frm, .int .i64 most]) (by simp [results, Try.results47, go_sem]) rfl ⟨rfl, HB.out _ _⟩

set_option maxRecDepth 20000 in
theorem bare_7 (space channel user text toSpace to : ByteArray) (frm most : Int) (w : World) : Calls Try.prog 47 #[.agg #[.int .i64 7, .string space, .string channel, .string user, .string text, .string toSpace, .string to, .int .i64 frm, .int .i64 most]] w fun e w' => e = .returned (.agg #[.int .i64 0, .string space, .string channel, .string ⟨#[]⟩, .string text, .string toSpace, .string to, .int .i64 frm, .int .i64 most]) ∧ Below w.heap.size w w' := by
  have HB : Hid (∀ o o', Below w.heap.size w ((w.alloc o).alloc o')) := fun o o' => (below_alloc w o).trans ((below_alloc _ o').mono (by simp))
  go_enter Try.func47, Try.ntmps47
  go_wp2
  exact bodyPost_ret (v := .agg #[.int .i64 0, .string space, .string channel, .string ⟨#[]⟩, .string text, .string toSpace, .string to, .int .i64 frm, .int .i64 most]) (by simp [results, Try.results47, go_sem]) rfl ⟨rfl, HB.out _ _⟩

end Go.Proofs.Ytmdnegjpdedcnaa
