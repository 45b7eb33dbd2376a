/-
  The document's PutMessage.
-/
import Derived.Test.YtgkcchbignakcaaCmRw
namespace Go.Proofs.Ytgkcchbignakcaa
open Go.RowKit

set_option maxHeartbeats 4000000 in
set_option maxRecDepth 100000 in
theorem rPutMessage_c (x : MsgD) (c : Nat) (w : World) (he : EntsIn w x.p x.ents) (hl9 : x.ents.length < 9223372036854775808) : Calls Try.prog 23 #[.agg (x.cellsC c).toArray] w fun e w' => e = putO ⟨#[77]⟩ (Cm.enc (x.pss.flatten)) ∧ Below w.heap.size w w' := by
  obtain ⟨u, hu⟩ : ∃ u, u = w.alloc (.cells (x.cellsC c).toArray 52) := ⟨_, rfl⟩
  have hus : u.heap.size = w.heap.size + 1 := by rw [hu]; simp
  have hbu : Below w.heap.size w u := by rw [hu]; exact alloc_below w _
  have hbox : u.heap[w.heap.size]? = some (.cells (x.cellsC c).toArray 52 (0, 0)) := by rw [hu]; exact heap_alloc_new _ _
  have hR : Rw u (w.heap.size + 1 + 1) 1 0 (some [77]) ((u.alloc (.cells #[.int .u8 77] 5)).alloc (.cells #[.slice (some ⟨w.heap.size + 1, 0, none⟩) 1 1, .bool false] 65)) := by
    have := Rw.fresh u 77
    rw [hus] at this
    exact this
  have hcell : ∀ (X : World), Below u.heap.size u X → ∀ (j : Nat) (v : Value), (x.cellsC c)[j]? = some v → X.cell? ⟨w.heap.size, j, none⟩ = some v := fun X hX j v hj => by
    rw [hX.cell (p := ⟨w.heap.size, j, none⟩) (by show w.heap.size < _; omega), Lib.cell_of_heap hbox]
    simpa using hj
  obtain ⟨n, hn⟩ : ∃ n, n = x.ents.length := ⟨_, rfl⟩
  have HF : Hid (∀ X, Below u.heap.size u X → X.cell? ⟨w.heap.size, 0, none⟩ = some (.int .i64 x.kind) ∧ X.cell? ⟨w.heap.size, 1, none⟩ = some (.int .i64 x.group) ∧ X.cell? ⟨w.heap.size, 2, none⟩ = some (.int .i64 x.frm) ∧ X.cell? ⟨w.heap.size, 3, none⟩ = some (.int .i64 x.to) ∧ X.cell? ⟨w.heap.size, 4, none⟩ = some (.int .i64 x.term) ∧ X.cell? ⟨w.heap.size, 5, none⟩ = some (.int .i64 x.index) ∧ X.cell? ⟨w.heap.size, 6, none⟩ = some (.int .i64 x.at_) ∧ X.cell? ⟨w.heap.size, 7, none⟩ = some (.slice x.p n c) ∧ X.cell? ⟨w.heap.size, 8, none⟩ = some (.int .i64 x.commit) ∧ X.cell? ⟨w.heap.size, 9, none⟩ = some (.bool x.ok) ∧ X.cell? ⟨w.heap.size, 10, none⟩ = some (.string x.data)) := by
    rw [hn]
    exact fun X hX => ⟨hcell X hX 0 _ rfl, hcell X hX 1 _ rfl, hcell X hX 2 _ rfl, hcell X hX 3 _ rfl, hcell X hX 4 _ rfl, hcell X hX 5 _ rfl, hcell X hX 6 _ rfl, hcell X hX 7 _ rfl, hcell X hX 8 _ rfl, hcell X hX 9 _ rfl, hcell X hX 10 _ rfl⟩
  have HEn : Hid (∀ X, Below u.heap.size u X → EntsIn X x.p x.ents) := fun X hX => (he.below hbu).below hX
  have HE : Hid (∀ X, Below u.heap.size u X → Below w.heap.size w X) := fun X hX => hbu.trans ⟨hX.os, hX.tape, hX.output, hX.size, fun j hj => hX.block j (by omega)⟩
  have hcs : (x.cellsC c).toArray = #[.int .i64 x.kind, .int .i64 x.group, .int .i64 x.frm, .int .i64 x.to, .int .i64 x.term, .int .i64 x.index, .int .i64 x.at_, .slice x.p n c, .int .i64 x.commit, .bool x.ok, .string x.data] := by rw [hn]; rfl
  have HN : Hid (n = x.ents.length) := hn
  by_cases hm : n ≤ 16
  · have HQ : Hid (∀ Y, Y = cat (some [77]) (Cm.enc (x.pss.flatten)) → Ending.returned (.tuple #[.string (endS Y), .int .i64 (putE Y)]) = putO ⟨#[77]⟩ (Cm.enc (x.pss.flatten))) := fun Y h => put_end 77 h
    have hm1 : ¬ 16 < n := by omega
    have HM := hidden hm
    rw [hcs] at hu ⊢
    obtain ⟨W0, hW0⟩ : ∃ W0, W0 = (u.alloc (.cells #[.int .u8 77] 5)).alloc (.cells #[.slice (some ⟨w.heap.size + 1, 0, none⟩) 1 1, .bool false] 65) := ⟨_, rfl⟩
    rw [← hW0] at hR
    rw [hu] at hW0
    clear hu
    subst hW0
    generalize putO ⟨#[77]⟩ (Cm.enc (x.pss.flatten)) = q at *
    clear hus hbu hbox hcell hcs he hn hm hl9 
    go_enter Try.func23, Try.ntmps23
    go_wp2_with (first
      | (go_at_call 31; refine (hR.num _ (by decide)).mono ?_; rintro e X ⟨rfl, h9⟩; clear hR; have hR := h9; clear h9; (try clear c0 c1 c2 c3 c4 c5 c6 c7 c8 c9 c10); obtain ⟨c0, c1, c2, c3, c4, c5, c6, c7, c8, c9, c10⟩ := HF.out _ hR.below)
      | (go_at_call 32; refine (hR.truth _ (by decide)).mono ?_; rintro e X ⟨rfl, h9⟩; clear hR; have hR := h9; clear h9; (try clear c0 c1 c2 c3 c4 c5 c6 c7 c8 c9 c10); obtain ⟨c0, c1, c2, c3, c4, c5, c6, c7, c8, c9, c10⟩ := HF.out _ hR.below))
    have HR0 := hidden hR
    clear hR c0 c1 c2 c3 c4 c5 c6 c7 c8 c9 c10
    go_loopw [5] (fun v wr => ∃ k : Nat, v = .int .i64 (k : Int) ∧ k ≤ n ∧ Hid (Rw _ (w.heap.size + 1 + 1) (11 + 4 * k) 0 (catF (catF (some [77]) [nf x.kind, nf x.group, nf x.frm, nf x.to, nf x.term, nf x.index, nf x.at_, nf x.commit, (Cm.K.n 1, Cm.V.n (bv x.ok)), (Cm.K.n 16, Cm.V.n (n : Int))]) (rowF (fun e => [nf e.1, tf e.2]) x.ents k)) wr))
      (fun v _ => n - (intOf v).toNat)
    case atStart =>
      refine ⟨0, rfl, Nat.zero_le _, HR0.out.re (by omega) (by omega) ?_⟩
      rw [enc_up (m := 16) (by unfold Cm.mI; omega) HM.out]
      rfl
    case round =>
      obtain ⟨k, rfl, hkn, HR⟩ := hrel
      obtain ⟨c0, c1, c2, c3, c4, c5, c6, c7, c8, c9, c10⟩ := HF.out _ HR.out.below
      by_cases hlt : k < n
      · obtain ⟨e, hek⟩ : ∃ e, x.ents[k]? = some e := ⟨x.ents[k]'(by rw [← HN.out]; exact hlt), List.getElem?_eq_getElem _⟩
        obtain ⟨g, o, hp, hg, hge⟩ : ∃ g o, x.p = some ⟨g, o, none⟩ ∧ g < wr.heap.size ∧ ∀ (i : Nat) (e : Int × ByteArray), x.ents[i]? = some e → wr.cell? ⟨g, o + i * 2, none⟩ = some (.int .i64 e.1) ∧ wr.cell? ⟨g, o + i * 2 + 1, none⟩ = some (.string e.2) := by
          rcases HEn.out _ HR.out.below with h0 | h0
          · rw [h0] at hek; simp at hek
          · exact h0
        have HK := hidden hek
        obtain ⟨e0, e1⟩ := hge k e hek
        have HC : Hid (∀ X, Below u.heap.size u X → X.cell? ⟨g, o + k * 2, none⟩ = some (.int .i64 e.1) ∧ X.cell? ⟨g, o + k * 2 + 1, none⟩ = some (.string e.2)) := by
          intro X hX
          rcases HEn.out _ hX with h0 | ⟨g2, o2, hp2, hg2, hge2⟩
          · rw [h0] at hek; simp at hek
          · rw [hp] at hp2
            injection hp2 with hp2
            injection hp2 with h1 h2
            subst h1 h2
            exact hge2 k e hek
        have hR := HR.out
        generalize hy : catF (catF (some [77]) [nf x.kind, nf x.group, nf x.frm, nf x.to, nf x.term, nf x.index, nf x.at_, nf x.commit, (Cm.K.n 1, Cm.V.n (bv x.ok)), (Cm.K.n 16, Cm.V.n (n : Int))]) (rowF (fun e => [nf e.1, tf e.2]) x.ents k) = y at hR
        have HY := hidden hy
        rw [hp] at c7
        have HP := hidden hp
        clear hek hg hge hp hy
        go_wp2_with (first
          | (go_at_call 31; refine (hR.num _ (by decide)).mono ?_; rintro e X ⟨rfl, h9⟩; clear hR; have hR := h9; clear h9; (try clear c0 c1 c2 c3 c4 c5 c6 c7 c8 c9 c10 e0 e1); obtain ⟨c0, c1, c2, c3, c4, c5, c6, c7, c8, c9, c10⟩ := HF.out _ hR.below; obtain ⟨e0, e1⟩ := HC.out _ hR.below; rw [HP.out] at c7)
          | (go_at_call 34; refine (hR.text _ (by decide)).mono ?_; rintro e X ⟨rfl, h9⟩; clear hR; have hR := h9; clear h9; (try clear c0 c1 c2 c3 c4 c5 c6 c7 c8 c9 c10 e0 e1); obtain ⟨c0, c1, c2, c3, c4, c5, c6, c7, c8, c9, c10⟩ := HF.out _ hR.below; obtain ⟨e0, e1⟩ := HC.out _ hR.below; rw [HP.out] at c7))
        go_roundw
        case rel =>
          refine ⟨k + 1, by go_num, hlt, hR.re (by omega) (by have := HM.out; omega) ?_⟩
          rw [catF_take (fun e => [nf e.1, tf e.2]) _ _ k e HK.out, HY.out]
          rfl
        case measure => simp [intOf]; omega
      · obtain rfl : k = n := by omega
        have hR := HR.out
        clear HR
        go_wp2_with (first
          | (go_at_call 34; refine (hR.text _ (by decide)).mono ?_; rintro e X ⟨rfl, h9⟩; clear hR; have hR := h9; clear h9; (try clear c0 c1 c2 c3 c4 c5 c6 c7 c8 c9 c10); obtain ⟨c0, c1, c2, c3, c4, c5, c6, c7, c8, c9, c10⟩ := HF.out _ hR.below)
          | (go_at_call 35; refine hR.ends.mono ?_; rintro e X ⟨rfl, h9⟩; subst h9))
        go_ret2
        refine ⟨HQ.out _ ?_, HE.out _ hR.below⟩
        rw [← catF_some]
        have hk := HN.out
        subst hk
        rw [rowF_all]
        have e : x.pss.flatten = [nf x.kind, nf x.group, nf x.frm, nf x.to, nf x.term, nf x.index, nf x.at_, nf x.commit, (Cm.K.n 1, Cm.V.n (if x.ok then 1 else 0)), (Cm.K.n 16, Cm.V.n (x.ents.length : Int))] ++ ((x.ents.map fun e => [nf e.1, tf e.2]).flatten ++ [tf x.data]) := by
          simp only [MsgD.pss, pEnts, List.flatten_cons, List.flatten_nil, List.append_nil, List.cons_append, List.nil_append]
        rw [e, catF_app, catF_app]
        rfl
  · have hE : Cm.enc (x.pss.flatten) = none := enc_mem_none (p := (Cm.K.n 16, Cm.V.n (n : Int))) (by rw [hn]; simp [MsgD.pss, pEnts]) (by simp only [Cm.enc1]; rw [if_neg (by omega)])
    rw [hE]
    have hm1 : 16 < n := by omega
    rw [hcs] at hu ⊢
    subst hu
    clear hus hbu hbox hcell hcs he hn hm hl9 hR HF HEn HE hE HN 
    go_enter Try.func23, Try.ntmps23
    go_wp2
    go_ret2
    exact ⟨rfl, alloc_below w _⟩

end Go.Proofs.Ytgkcchbignakcaa
