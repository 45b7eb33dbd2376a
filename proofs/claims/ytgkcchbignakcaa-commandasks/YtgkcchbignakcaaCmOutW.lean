/-
  The document's PutAnswer.
-/
import Derived.Test.YtgkcchbignakcaaCmRw
namespace Go.Proofs.Ytgkcchbignakcaa
open Go.RowKit

set_option maxHeartbeats 4000000 in
set_option maxRecDepth 100000 in
theorem rPutAnswer_c (i : IdD) (x : RepD) (c : Nat) (w : World) (he : PostsIn w x.p x.posts) (hl9 : x.posts.length < 9223372036854775808) : Calls Try.prog 18 #[.agg i.cells.toArray, .agg (x.cellsC c).toArray] w fun e w' => e = putO ⟨#[65]⟩ (Cm.enc (i.pss.flatten ++ x.pss.flatten)) ∧ Below w.heap.size w w' := by
  obtain ⟨u, hu⟩ : ∃ u, u = (w.alloc (.cells i.cells.toArray 23)).alloc (.cells (x.cellsC c).toArray 39) := ⟨_, rfl⟩
  have hus : u.heap.size = w.heap.size + 1 + 1 := by rw [hu]; simp
  have hbu : Below w.heap.size w u := by rw [hu]; exact (alloc_below w _).alloc (by simp) _
  have hboxi : u.heap[w.heap.size]? = some (.cells i.cells.toArray 23 (0, 0)) := by rw [hu, Below.heap_alloc _ _ _ (by simp)]; exact heap_alloc_new _ _
  have hbox : u.heap[w.heap.size + 1]? = some (.cells (x.cellsC c).toArray 39 (0, 0)) := by
    rw [hu]
    have := heap_alloc_new (w.alloc (.cells i.cells.toArray 23)) (.cells (x.cellsC c).toArray 39)
    simpa using this
  have hR : Rw u (w.heap.size + 1 + 1 + 1) 1 0 (some [65]) ((u.alloc (.cells #[.int .u8 65] 5)).alloc (.cells #[.slice (some ⟨w.heap.size + 1 + 1, 0, none⟩) 1 1, .bool false] 65)) := by
    have := Rw.fresh u 65
    rw [hus] at this
    exact this
  have hcell : ∀ (X : World), Below u.heap.size u X → ∀ (j : Nat) (v : Value), (x.cellsC c)[j]? = some v → X.cell? ⟨w.heap.size + 1, j, none⟩ = some v := fun X hX j v hj => by
    rw [hX.cell (p := ⟨w.heap.size + 1, j, none⟩) (by show w.heap.size + 1 < _; omega), Lib.cell_of_heap hbox]
    simpa using hj
  have hcelli : ∀ (X : World), Below u.heap.size u X → ∀ (j : Nat) (v : Value), i.cells[j]? = some v → X.cell? ⟨w.heap.size, j, none⟩ = some v := fun X hX j v hj => by
    rw [hX.cell (p := ⟨w.heap.size, j, none⟩) (by show w.heap.size < _; omega), Lib.cell_of_heap hboxi]
    simpa using hj
  obtain ⟨n, hn⟩ : ∃ n, n = x.posts.length := ⟨_, rfl⟩
  have HF : Hid (∀ X, Below u.heap.size u X → X.cell? ⟨w.heap.size, 0, none⟩ = some (.int .i64 i.session) ∧ X.cell? ⟨w.heap.size, 1, none⟩ = some (.int .i64 i.seq) ∧ X.cell? ⟨w.heap.size + 1, 0, none⟩ = some (.int .i64 x.err) ∧ X.cell? ⟨w.heap.size + 1, 1, none⟩ = some (.int .i64 x.at_) ∧ X.cell? ⟨w.heap.size + 1, 2, none⟩ = some (.slice x.p n c)) := by
    rw [hn]
    exact fun X hX => ⟨hcelli X hX 0 _ rfl, hcelli X hX 1 _ rfl, hcell X hX 0 _ rfl, hcell X hX 1 _ rfl, hcell X hX 2 _ rfl⟩
  have HEn : Hid (∀ X, Below u.heap.size u X → PostsIn X x.p x.posts) := fun X hX => (he.below hbu).below hX
  have HE : Hid (∀ X, Below u.heap.size u X → Below w.heap.size w X) := fun X hX => hbu.trans ⟨hX.os, hX.tape, hX.output, hX.size, fun j hj => hX.block j (by omega)⟩
  have hcs : (x.cellsC c).toArray = #[.int .i64 x.err, .int .i64 x.at_, .slice x.p n c] := by rw [hn]; rfl
  have hci : i.cells.toArray = #[.int .i64 i.session, .int .i64 i.seq] := rfl
  have HN : Hid (n = x.posts.length) := hn
  by_cases hm : n ≤ 64
  · have HQ : Hid (∀ Y, Y = cat (some [65]) (Cm.enc (i.pss.flatten ++ x.pss.flatten)) → Ending.returned (.tuple #[.string (endS Y), .int .i64 (putE Y)]) = putO ⟨#[65]⟩ (Cm.enc (i.pss.flatten ++ x.pss.flatten))) := fun Y h => put_end 65 h
    have hm1 : ¬ 64 < n := by omega
    have HM := hidden hm
    rw [hcs, hci] at hu ⊢
    obtain ⟨W0, hW0⟩ : ∃ W0, W0 = (u.alloc (.cells #[.int .u8 65] 5)).alloc (.cells #[.slice (some ⟨w.heap.size + 1 + 1, 0, none⟩) 1 1, .bool false] 65) := ⟨_, rfl⟩
    rw [← hW0] at hR
    rw [hu] at hW0
    clear hu
    subst hW0
    generalize putO ⟨#[65]⟩ (Cm.enc (i.pss.flatten ++ x.pss.flatten)) = q at *
    clear hus hbu hbox hcell hcs he hn hm hl9 hboxi hcelli hci
    go_enter Try.func18, Try.ntmps18
    go_wp2_with (first
      | (go_at_call 31; refine (hR.num _ (by decide)).mono ?_; rintro e X ⟨rfl, h9⟩; clear hR; have hR := h9; clear h9; (try clear d0 d1 c0 c1 c2); obtain ⟨d0, d1, c0, c1, c2⟩ := HF.out _ hR.below)
      | (go_at_call 32; refine (hR.truth _ (by decide)).mono ?_; rintro e X ⟨rfl, h9⟩; clear hR; have hR := h9; clear h9; (try clear d0 d1 c0 c1 c2); obtain ⟨d0, d1, c0, c1, c2⟩ := HF.out _ hR.below))
    have HR0 := hidden hR
    clear hR d0 d1 c0 c1 c2
    go_loopw [7] (fun v wr => ∃ k : Nat, v = .int .i64 (k : Int) ∧ k ≤ n ∧ Hid (Rw _ (w.heap.size + 1 + 1 + 1) (6 + 4 * k) 0 (catF (catF (some [65]) [nf i.session, nf i.seq, nf x.err, nf x.at_, (Cm.K.n 64, Cm.V.n (n : Int))]) (rowF (fun e => [tf e.1, tf e.2]) x.posts k)) wr))
      (fun v _ => n - (intOf v).toNat)
    case atStart =>
      refine ⟨0, rfl, Nat.zero_le _, HR0.out.re (by omega) (by omega) ?_⟩
      rw [enc_up (m := 64) (by unfold Cm.mI; omega) HM.out]
      rfl
    case round =>
      obtain ⟨k, rfl, hkn, HR⟩ := hrel
      obtain ⟨d0, d1, c0, c1, c2⟩ := HF.out _ HR.out.below
      by_cases hlt : k < n
      · obtain ⟨e, hek⟩ : ∃ e, x.posts[k]? = some e := ⟨x.posts[k]'(by rw [← HN.out]; exact hlt), List.getElem?_eq_getElem _⟩
        obtain ⟨g, o, hp, hg, hge⟩ : ∃ g o, x.p = some ⟨g, o, none⟩ ∧ g < wr.heap.size ∧ ∀ (i : Nat) (e : ByteArray × ByteArray), x.posts[i]? = some e → wr.cell? ⟨g, o + i * 2, none⟩ = some (.string e.1) ∧ wr.cell? ⟨g, o + i * 2 + 1, none⟩ = some (.string e.2) := by
          rcases HEn.out _ HR.out.below with h0 | h0
          · rw [h0] at hek; simp at hek
          · exact h0
        have HK := hidden hek
        obtain ⟨e0, e1⟩ := hge k e hek
        have HC : Hid (∀ X, Below u.heap.size u X → X.cell? ⟨g, o + k * 2, none⟩ = some (.string e.1) ∧ X.cell? ⟨g, o + k * 2 + 1, none⟩ = some (.string e.2)) := by
          intro X hX
          rcases HEn.out _ hX with h0 | ⟨g2, o2, hp2, hg2, hge2⟩
          · rw [h0] at hek; simp at hek
          · rw [hp] at hp2
            injection hp2 with hp2
            injection hp2 with h1 h2
            subst h1 h2
            exact hge2 k e hek
        have hR := HR.out
        generalize hy : catF (catF (some [65]) [nf i.session, nf i.seq, nf x.err, nf x.at_, (Cm.K.n 64, Cm.V.n (n : Int))]) (rowF (fun e => [tf e.1, tf e.2]) x.posts k) = y at hR
        have HY := hidden hy
        rw [hp] at c2
        have HP := hidden hp
        clear hek hg hge hp hy
        go_wp2_with (first
          | (go_at_call 34; refine (hR.text _ (by decide)).mono ?_; rintro e X ⟨rfl, h9⟩; clear hR; have hR := h9; clear h9; (try clear d0 d1 c0 c1 c2 e0 e1); obtain ⟨d0, d1, c0, c1, c2⟩ := HF.out _ hR.below; obtain ⟨e0, e1⟩ := HC.out _ hR.below; rw [HP.out] at c2))
        go_roundw
        case rel =>
          refine ⟨k + 1, by go_num, hlt, hR.re (by omega) (by have := HM.out; omega) ?_⟩
          rw [catF_take (fun e => [tf e.1, tf e.2]) _ _ k e HK.out, HY.out]
          rfl
        case measure => simp [intOf]; omega
      · obtain rfl : k = n := by omega
        have hR := HR.out
        clear HR
        go_wp2_with (first
          | (go_at_call 35; refine hR.ends.mono ?_; rintro e X ⟨rfl, h9⟩; subst h9)
          | (go_at_call 35; refine hR.ends.mono ?_; rintro e X ⟨rfl, h9⟩; subst h9))
        go_ret2
        refine ⟨HQ.out _ ?_, HE.out _ hR.below⟩
        rw [← catF_some]
        have hk := HN.out
        subst hk
        rw [rowF_all]
        have e : i.pss.flatten ++ x.pss.flatten = [nf i.session, nf i.seq, nf x.err, nf x.at_, (Cm.K.n 64, Cm.V.n (x.posts.length : Int))] ++ (x.posts.map fun e => [tf e.1, tf e.2]).flatten := by
          simp only [IdD.pss, RepD.pss, pPosts, List.flatten_cons, List.flatten_nil, List.append_nil, List.cons_append, List.nil_append]
        rw [e, catF_app]
  · have hE : Cm.enc (i.pss.flatten ++ x.pss.flatten) = none := enc_mem_none (p := (Cm.K.n 64, Cm.V.n (n : Int))) (by rw [hn]; simp [IdD.pss, RepD.pss, pPosts]) (by simp only [Cm.enc1]; rw [if_neg (by omega)])
    rw [hE]
    have hm1 : 64 < n := by omega
    rw [hcs, hci] at hu ⊢
    subst hu
    clear hus hbu hbox hcell hcs he hn hm hl9 hR HF HEn HE hE HN hboxi hcelli hci
    go_enter Try.func18, Try.ntmps18
    go_wp2
    go_ret2
    exact ⟨rfl, (alloc_below w _).alloc (by simp) _⟩

end Go.Proofs.Ytgkcchbignakcaa
