/-
  The document's op, put.
-/
import Derived.Test.YtgkcchbignakcaaCmOut
namespace Go.Proofs.Ytgkcchbignakcaa
open Go.RowKit

theorem Rb.cells9 {w0 U : World} {gU : Option Nat} {B n k : Nat} {x : Option (List UInt8)} {b : Nat} {o : OpD} {t : TypeId} {X : World} (h : Rb w0 U gU B n k x b o.cells t X) : X.cell? ⟨b, 0, none⟩ = some (.int .i64 o.kind) ∧ X.cell? ⟨b, 1, none⟩ = some (.string o.space) ∧ X.cell? ⟨b, 2, none⟩ = some (.string o.channel) ∧ X.cell? ⟨b, 3, none⟩ = some (.string o.user) ∧ X.cell? ⟨b, 4, none⟩ = some (.string o.text) ∧ X.cell? ⟨b, 5, none⟩ = some (.string o.toSpace) ∧ X.cell? ⟨b, 6, none⟩ = some (.string o.to) ∧ X.cell? ⟨b, 7, none⟩ = some (.int .i64 o.frm) ∧ X.cell? ⟨b, 8, none⟩ = some (.int .i64 o.most) :=
  ⟨h.load rfl, h.load rfl, h.load rfl, h.load rfl, h.load rfl, h.load rfl, h.load rfl, h.load rfl, h.load rfl⟩

set_option maxHeartbeats 2000000 in
set_option maxRecDepth 100000 in
theorem out_op {w0 w : World} {B n : Nat} {x : Option (List UInt8)} {g : Option Nat} (h : Ro w0 B n x g w) (hx : x ≠ some []) (o : OpD) (hn : n < 7000) :
    Calls Try.prog 33 #[.pointer (some ⟨B, 0, none⟩), .agg o.cells.toArray] w fun e w' => e = .returned (.tuple #[]) ∧ RoO w0 B (n + 15) (catF x o.pss.flatten) g w w' := by
  have hR : Rb w0 w g B n 0 x w.heap.size o.cells 25 (w.alloc (.cells o.cells.toArray 25)) :=
    ⟨⟨g, h.calm (alloc_below w _), fun e => Nat.lt_irrefl _ (h.lt.2 _ e), fun j e => .inl e⟩, hx, heap_alloc_new _ _, fun e => Nat.lt_irrefl _ (e ▸ h.lt.1), KeptO.of_below (alloc_below w _), hn⟩
  have hfin : ∀ (w' : World), RoO w0 B (n + 15) (catF x o.pss.flatten) g w w' = RoO w0 B (n + 15) (cat (cat (cat (cat (cat (cat (cat (cat (cat x (Cm.enc1 (.n Cm.mI) (.n o.kind))) (Cm.enc1 .t (.t o.space))) (Cm.enc1 .t (.t o.channel))) (Cm.enc1 .t (.t o.user))) (Cm.enc1 .t (.t o.text))) (Cm.enc1 .t (.t o.toSpace))) (Cm.enc1 .t (.t o.to))) (Cm.enc1 (.n Cm.mI) (.n o.frm))) (Cm.enc1 (.n Cm.mI) (.n o.most))) g w w' := fun _ => rfl
  simp only [hfin]
  clear hfin
  obtain ⟨cs, hcs⟩ : ∃ cs, cs = o.cells.toArray := ⟨_, rfl⟩
  have hcs2 : cs = #[.int .i64 o.kind, .string o.space, .string o.channel, .string o.user, .string o.text, .string o.toSpace, .string o.to, .int .i64 o.frm, .int .i64 o.most] := hcs
  rw [← hcs] at hR ⊢
  subst hcs2
  clear hcs hx hn h
  go_enter Try.func33, Try.ntmps33
  go_wp2_with (first
    | (go_at_call 31; refine (hR.num _ (by decide)).mono ?_; rintro e X ⟨rfl, h9⟩; clear hR; have hR := h9; clear h9; (try clear c0 c1 c2 c3 c4 c5 c6 c7 c8); obtain ⟨c0, c1, c2, c3, c4, c5, c6, c7, c8⟩ := hR.cells9)
    | (go_at_call 34; refine (hR.text _ (by decide)).mono ?_; rintro e X ⟨rfl, h9⟩; clear hR; have hR := h9; clear h9; (try clear c0 c1 c2 c3 c4 c5 c6 c7 c8); obtain ⟨c0, c1, c2, c3, c4, c5, c6, c7, c8⟩ := hR.cells9))
  go_end0
  exact ⟨rfl, hR.out⟩

theorem Rb.op {w0 U : World} {gU : Option Nat} {B n k : Nat} {x : Option (List UInt8)} {b : Nat} {cs : List Value} {t : TypeId} {X : World} (h : Rb w0 U gU B n k x b cs t X) (o : OpD) (hk : n + k < 7000) :
    Calls Try.prog 33 #[.pointer (some ⟨B, 0, none⟩), .agg o.cells.toArray] X fun e Y => e = .returned (.tuple #[]) ∧ Rb w0 U gU B n (k + 15) (catF x o.pss.flatten) b cs t Y := by
  refine h.call ?_ (fun g hr => ?_)
  · have : ∀ (l : List (Cm.K × Cm.V)) (y : Option (List UInt8)), y ≠ some [] → catF y l ≠ some [] := by
      intro l
      induction l with
      | nil => exact fun y h => h
      | cons p r ih => exact fun y h => ih _ (cat_ne h)
    exact this _ _ h.ok
  · rw [← Nat.add_assoc]
    exact out_op hr h.ok o hk

end Go.Proofs.Ytgkcchbignakcaa
