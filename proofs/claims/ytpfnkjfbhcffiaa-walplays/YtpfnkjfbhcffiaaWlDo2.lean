/-
  What records do: doCut, doBase.
-/
import Derived.Test.YtpfnkjfbhcffiaaWlDel
import Derived.StillTailTactics
namespace Go.Proofs.Ytpfnkjfbhcffiaa
open Go.RowKit

/-- A region that reads, then goes on in the order of the text. -/
theorem wp_tail5 {P : Program} {id : Nat} {Q : Exit → Act → World → Prop} {a : Act} {w : World} {l : List Oper} (n : Nat) (hm : P.follows .mixedOrders = true) (hB : Region.lexTailB .any l.toArray n = true)
    (h : wpStill P l.toArray w.drew (fun a' => wpList P l.toArray Q (l.drop n) a' w.drew) (l.take n) a) : (Code.region id l.toArray true).wp P Q a w := wp_region_still_tail n hm hB h

/-- The list is another one. -/
theorem Did.list {w w1 : World} {B o : Nat} {s : W.Sv} {v v' : Value} (h : SvC w B o s v) (hv : rowBlk v ≠ some B) (l : List (Int × ByteArray)) (h1 : w.grownBy w1 (rowBlk v))
    (hent : EntV w1 v' l) (hloc : ∀ k, rowBlk v' = some k → rowBlk v = some k ∨ w.heap.size ≤ k) : Did w (w1.setCell ⟨B, o + 5, none⟩ v') B o v { s with ents := l } v' := by
  have hB : w1.heap[B]? = w.heap[B]? := h1.block B h.lt (fun e => hv e.symm)
  have hw := h.carry hB
  refine Did.mk' h hv h1 (grown_set w1 B (o + 5) v') hent hloc (fun p hp => ?_) (fun p => ?_) ?_ ?_ ?_ ?_ ?_ ?_
  · rw [cell_set _ hw.c5, if_neg (by omega)]
  · rw [World.frozen?_setCell]
  · rw [cell_set _ hw.c5, if_neg (by omega)]; exact hw.c0
  · rw [cell_set _ hw.c5, if_neg (by omega)]; exact hw.c1
  · rw [cell_set _ hw.c5, if_neg (by omega)]; exact hw.c2
  · rw [cell_set _ hw.c5, if_neg (by omega)]; exact hw.c3
  · rw [cell_set _ hw.c5, if_neg (by omega)]; exact hw.c4
  · rw [cell_set _ hw.c5, if_pos rfl]

theorem cutGo {w u w1 : World} {B o g n c k : Nat} {s : W.Sv} {v : Value} {cur : Array Value} (h : SvC w B o s v) (hv : rowBlk v ≠ some B) (hvf : v = .slice (some ⟨g, 0, none⟩) n c) (hn : n = s.ents.length) (hc : n ≤ c) (hk : k < n)
    (ht : cur.toList.take (n * 2) = entCells s.ents)
    (hG : ∀ row, w.grownBy u row) (ho : RowV w1 75 2 (.slice (some ⟨g, 0, none⟩) k c) k (cur.toList.take (k * 2))) (hg : u.grownBy w1 (some g)) :
    Hid (Did w (w1.setCell ⟨B, o + 5, none⟩ (.slice (some ⟨g, 0, none⟩) k c)) B o v { s with ents := s.ents.take k } (.slice (some ⟨g, 0, none⟩) k c)) ∧ w1.cell? ⟨B, o + 5, none⟩ = some (.slice (some ⟨g, 0, none⟩) n c) ∧ w1.frozen? ⟨B, o + 5, none⟩ = false := by
  subst hvf
  obtain ⟨cp, rfl⟩ : ∃ cp, c = cp + 1 := ⟨c - 1, by omega⟩
  have hgw : w.grownBy w1 (some g) := grown_trans (hG (some g)) hg
  have hB := hgw.block B h.lt (fun e => hv e.symm)
  have e : cur.toList.take (k * 2) = entCells (s.ents.take k) := by
    rw [entCells_take, ← ht, List.take_take, Nat.min_eq_left (by omega)]
  have hl : (s.ents.take k).length = k := by rw [List.length_take]; omega
  refine ⟨Did.list h hv (s.ents.take k) hgw ?_ (fun q hq => .inl hq), (h.carry hB).c5, (h.carry hB).fz 5 (by omega)⟩
  unfold EntV
  rw [hl, ← e]
  exact ho

set_option maxHeartbeats 6000000 in
set_option maxRecDepth 20000 in
theorem doCut_c {w : World} {B o : Nat} {s : W.Sv} {v : Value} (h : SvC w B o s v) (he : EntV w v s.ents) (hv : rowBlk v ≠ some B) (hok : W.Ok s) (r : W.Rec) (hf : W.fitsCut s r = true) :
    Calls Try.prog 55 #[.pointer (some ⟨B, o, none⟩), recV r] w fun e w' => e = .returned (.tuple #[]) ∧ ∃ v', Did w w' B o v (W.doCut s r) v' := by
  unfold W.fitsCut at hf
  rw [Bool.and_eq_true, decide_eq_true_eq, decide_eq_true_eq] at hf
  unfold W.last at hf
  have hb := hok.base
  have hl := hok.last
  unfold W.last at hl
  unfold W.doCut
  obtain ⟨rg, rk, i, t, vv, d⟩ := r
  dsimp only at hf ⊢
  obtain ⟨k, hk⟩ : ∃ k : Nat, i = s.base + 1 + (k : Int) := ⟨(i - s.base - 1).toNat, by omega⟩
  subst hk
  have hkn : k < s.ents.length := by omega
  rw [show (s.base + 1 + (k : Int) - s.base - 1).toNat = k by omega]
  unfold recV
  dsimp only
  have hlt := h.lt
  have h5 := h.c5
  have h2 := h.c2
  obtain ⟨hx, ⟨h0, _⟩ | ⟨g, cp, cur, hvf, hg, hnc, hcm, hcs, htk⟩⟩ := he
  · omega
  have HS : Hid (SvC w B o s v) := h
  have HV : Hid (rowBlk v ≠ some B) := hv
  rw [hvf] at h5
  obtain ⟨n, hn⟩ : ∃ n, n = s.ents.length := ⟨_, rfl⟩
  rw [← hn] at hvf h5 hnc htk hkn hl
  have HVF : Hid (v = .slice (some ⟨g, 0, none⟩) n (cp + 1)) := hvf
  have HN : Hid (n = s.ents.length) := hn
  have HT : Hid (cur.toList.take (n * 2) = entCells s.ents) := htk
  have HNC : Hid (n ≤ cp + 1) := hnc
  have HKN : Hid (k < n) := hkn
  obtain ⟨s', hs'⟩ : ∃ s' : W.Sv, s' = { s with ents := s.ents.take k } := ⟨_, rfl⟩
  rw [← hs']
  have HS' : Hid (s' = { s with ents := s.ents.take k }) := hs'
  clear hs'
  obtain ⟨x, hxb⟩ : ∃ x, x = s.base := ⟨_, rfl⟩
  rw [← hxb] at h2 hb hl ⊢
  have hglt : g < w.heap.size := (Array.getElem?_eq_some_iff.1 hg).1
  have HD : Hid (∀ o, Calls Try.prog 79 #[.slice (some ⟨g, 0, none⟩) n (cp + 1), .int .i64 (k : Int), .int .i64 (n : Int)] (w.alloc o).drew fun e w' =>
      e = .returned (.slice (some ⟨g, 0, none⟩) k (cp + 1)) ∧ RowV w' 75 2 (.slice (some ⟨g, 0, none⟩) k (cp + 1)) k (cur.toList.take (k * 2)) ∧ (w.alloc o).drew.grownBy w' (some g)) := by
    intro o
    refine Delete_c ?_ hnc hcm hcs k hkn
    show (w.alloc o).heap[g]? = _
    rw [Below.heap_alloc w o g hglt]
    exact hg
  have hw : IntKind.i64.wrap (x + 1 + (k : Int) - x) = 1 + (k : Int) := by rw [IntKind.wrap_i64]; omega
  have hw2 : IntKind.i64.wrap (1 + (k : Int) - 1) = (k : Int) := by rw [IntKind.wrap_i64]; omega
  obtain ⟨u, hu⟩ : ∃ u, u = w.alloc (.cells #[.int .i64 rg, .int .i64 rk, .int .i64 (x + 1 + (k : Int)), .int .i64 t, .int .i64 vv, .string d] 37) := ⟨_, rfl⟩
  have HG : Hid (∀ row, w.grownBy u.drew row) := by intro row; rw [hu]; exact grown_drew' (grown_alloc w _ row)
  have HD' := HD.out (.cells #[.int .i64 rg, .int .i64 rk, .int .i64 (x + 1 + (k : Int)), .int .i64 t, .int .i64 vv, .string d] 37)
  rw [← hu] at HD'
  have HDu : Hid _ := HD'
  obtain ⟨bx, hbx⟩ : ∃ bx, bx = w.heap.size := ⟨_, rfl⟩
  have u2 : u.cell? ⟨bx, 2, none⟩ = some (.int .i64 (x + 1 + (k : Int))) := by rw [hu, hbx]; exact World.cell?_alloc_mark w _ _ _ 2
  have uB2 : u.cell? ⟨B, o + 2, none⟩ = some (.int .i64 x) := by rw [hu, World.cell?_alloc_lt _ _ _ hlt]; exact h2
  have uB5 : u.cell? ⟨B, o + 5, none⟩ = some (.slice (some ⟨g, 0, none⟩) n (cp + 1)) := by rw [hu, World.cell?_alloc_lt _ _ _ hlt]; exact h5
  clear HD HD' h2 h5 hlt hglt
  clear h hx hv hok hf hn hvf hg hnc hcm hcs htk hkn hxb hb hl
  go_enter Try.func55, Try.ntmps55
  go_wp2
  rw [← hu, ← hbx]
  clear hu hbx
  go_region_with (go_at_call 79; refine Calls.mono HDu.out ?_; rintro e w1 ⟨rfl, ho, hg⟩; obtain ⟨H1, c1, f1⟩ := cutGo HS.out HV.out HVF.out HN.out HNC.out HKN.out HT.out HG.out ho hg; clear ho hg)
  all_goals (first | exact bodyPost_end (v := .tuple #[]) (by simp [results, Try.results55]) rfl ⟨rfl, _, by rw [HS'.out]; exact H1.out⟩ | (go_wp2; exact bodyPost_end (v := .tuple #[]) (by simp [results, Try.results55]) rfl ⟨rfl, _, by rw [HS'.out]; exact H1.out⟩))

end Go.Proofs.Ytpfnkjfbhcffiaa
