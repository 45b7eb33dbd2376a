/-
  walkList, where a list goes into bytes.
-/
import Derived.Test.YtnfjfhjhofaodaaCmWalkW
namespace Go.Proofs.Ytnfjfhjhofaodaa
open Go.RowKit

set_option maxHeartbeats 4000000 in
set_option maxRecDepth 100000 in
theorem list_w_ents {w0 : World} {b o : Nat} {p : Option Addr} {n c : Nat} {sb so : Nat} (hc : w0.cell? ⟨b, o, none⟩ = some (.slice p n c)) (hp : n ≠ 0 → p = some ⟨sb, so, none⟩) (hn : n < 9223372036854775808) {pss : List (List (Cm.K × Cm.V))} (hlen : pss.length = n) (hH : n ≤ 16 → ∀ k q, pss[k]? = some q → WalkC w0 [.sub .ent sb (so + k * 2)] q) (hs : Cm.small pss.flatten) :
    ListC w0 53 16 b o ((.n 16, .n (n : Int)) :: pss.flatten) := by
  intro w B g l hb hw hB hg hl
  have hbl : b < w0.heap.size := World.block_lt_of_cell? _ _ hc
  have hblw : b < w.heap.size := Nat.lt_of_lt_of_le hbl hb.size
  have hcw : w.cell? ⟨b, o, none⟩ = some (.slice p n c) := by rw [hb.cell (p := ⟨b, o, none⟩) hbl]; exact hc
  have hs2 : Cm.small ([(Cm.K.n 16, Cm.V.n (n : Int))] :: pss).flatten := by
    intro q hq m e
    simp only [List.flatten_cons, List.cons_append, List.nil_append, List.mem_cons] at hq
    rcases hq with rfl | hq
    · injection e with e; omega
    · exact hs q hq m e
  have hl2 : l.length + ([(Cm.K.n 16, Cm.V.n (n : Int))] :: pss).flatten.length * 300000 ≤ 140737486000000 := hl
  have hO := Wy.start hb hw hB hg hs2 hl2
  have hll : l.length ≤ 140737487000000 := by omega
  have hfl : (Cm.K.n 16, Cm.V.n (n : Int)) :: pss.flatten = ([(Cm.K.n 16, Cm.V.n (n : Int))] :: pss).flatten := rfl
  rw [hfl]
  have hbu := alloc_below w (.cells #[.int .i64 (n : Int)] 3)
  have cN : (w.alloc (.cells #[.int .i64 (n : Int)] 3)).cell? ⟨w.heap.size, 0, none⟩ = some (.int .i64 (n : Int)) := by simp [go_sem]
  have hnum := wr_number (hw.below hbu) ⟨w.heap.size, 0, none⟩ (n : Int) (by omega) 16 cN (by omega)
  have m1 := m_wnum
  by_cases hle : n ≤ 16
  · have hx : Cm.enc1 (.n 16) (.n (n : Int)) = some (M.putVar n) := by rw [Cm.enc1, if_pos (by omega), Int.toNat_natCast]
    rw [hx] at hnum
    have HN := hidden hnum
    have HH := hidden (hH hle)
    have HO := hidden hO
    have HF : Hid (∀ (g' : Option Nat) (w1 : World), KeptO (WrO B g) (w.alloc (.cells #[.int .i64 (n : Int)] 3)) w1 → w1.cell? ⟨b, o, none⟩ = some (.slice p n c) ∧ w1.cell? ⟨w.heap.size, 0, none⟩ = some (.int .i64 (n : Int))) := by
      intro _ w1 hk
      have hn1 : ¬ WrO B g b := by
        rintro (x | x)
        · omega
        · have := hg _ x; omega
      have hn2 : ¬ WrO B g w.heap.size := by
        rintro (x | x)
        · have := hw.lt; omega
        · have := hw.row_lt _ x; omega
      refine ⟨?_, ?_⟩
      · rw [hk.cell (p := ⟨b, o, none⟩) (by simp; omega) hn1, hbu.cell (p := ⟨b, o, none⟩) hblw]; exact hcw
      · rw [hk.cell (p := ⟨w.heap.size, 0, none⟩) (by simp) hn2]; exact cN
    have HW : Hid (Cm.enc (([(Cm.K.n 16, Cm.V.n (n : Int))] :: pss).take 0).flatten = some [] ∧ Cm.enc [(Cm.K.n 16, Cm.V.n (n : Int))] = some (M.putVar n)) := ⟨rfl, by rw [Cm.enc_one]; exact hx⟩
    have HBU := hidden hbu
    have HL := hidden hlen
    have HBW := hidden hblw
    have hcl := hc
    have HCW := hidden hcw
    have HC0 := hidden hc
    have HPP := hidden hp
    clear hnum hH hO hc hp hlen hs hs2 hl hl2 hll hfl hbu cN hx hb hw hB hg hcl
    unfold wrV
    go_enter Try.func53, Try.ntmps53
    go_wp2_with (go_at_call 90; refine (HN.out).mono ?_; rintro e w1 ⟨rfl, g1, hw1, hk1, hg1⟩; obtain ⟨c1, c2⟩ := HF.out g1 w1 hk1; have HW1 := hidden hw1; have HK1 := hidden hk1; have HG1 := hidden hg1; clear hw1 hk1 hg1)
    go_region
    all_goals
      have HS : Hid (Wy w0 w w1.drew B g l ([(Cm.K.n 16, Cm.V.n (n : Int))] :: pss) 1) := by
        obtain ⟨-, g2, hw2, hk2, hg2⟩ := WOut.from HBU.out (show WOut _ B g l (some (M.putVar n)) (.returned (.tuple #[])) w1 from ⟨rfl, g1, HW1.out, HK1.out, HG1.out⟩)
        exact HO.out.step (k := 0) rfl HW.out.1 (fun j h => .inl h) HW.out.2 (by rw [List.append_nil]; exact hw2) hk2.drew hg2
    all_goals go_wp2
    all_goals
      go_loopw [29] (fun i wr => ∃ k : Nat, i = .int .i64 (k : Int) ∧ k ≤ n ∧ Hid (Wy w0 w wr B g l ([(Cm.K.n 16, Cm.V.n (n : Int))] :: pss) (k + 1)))
        (fun i _ => n - (intOf i).toNat)
      case atStart => exact ⟨0, rfl, Nat.zero_le _, HS⟩
      case round =>
        obtain ⟨k, rfl, hkn, Hy⟩ := hrel
        by_cases hlt : k < n
        · obtain ⟨q, hq0⟩ : ∃ q, pss[k]? = some q := ⟨pss[k]'(by rw [HL.out]; exact hlt), List.getElem?_eq_getElem _⟩
          have hpe : p = some ⟨sb, so, none⟩ := HPP.out (by omega)
          subst hpe
          obtain ⟨bs, g', he, hw3, hg3⟩ := Hy.out.out
          have HP : Hid (([(Cm.K.n 16, Cm.V.n (n : Int))] :: pss)[k + 1]? = some q) := by unfold Hid; rw [List.getElem?_cons_succ]; exact hq0
          have hcr : wr.cell? ⟨b, o, none⟩ = some (.slice (some ⟨sb, so, none⟩) n c) := by rw [Hy.out.below.cell (p := ⟨b, o, none⟩) (World.block_lt_of_cell? _ _ HC0.out)]; exact HC0.out
          have hbe : Below w0.heap.size w0 (wr.alloc (.cells #[(Fd.sub .ent sb (so + k * 2)).val] 20)) := Hy.out.below.alloc Hy.out.below.size _
          have hw4 : Wr (wr.alloc (.cells #[(Fd.sub .ent sb (so + k * 2)).val] 20)) B g' (l ++ bs) := hw3.below (alloc_below wr _)
          have hEl : Elems (wr.alloc (.cells #[(Fd.sub .ent sb (so + k * 2)).val] 20)) wr.heap.size [.sub .ent sb (so + k * 2)] := heap_alloc_new _ _
          have hL : (l ++ bs).length + q.length * 300000 ≤ 140737486000000 := by
            have a1 := Cm.flat_len _ (k + 1) HP.out
            have a2 := Cm.enc_len _ _ (fun x hx => Hy.out.small x (by
              rw [← List.take_append_drop (k + 1) ([(Cm.K.n 16, Cm.V.n (n : Int))] :: pss), List.flatten_append]
              exact List.mem_append_left _ hx)) he
            have a3 := Hy.out.len
            rw [List.length_append]
            omega
          have hg0 : ∀ j, g' = some j → w0.heap.size ≤ j := fun j hj => by
            rcases hg3 j hj with x | x
            · exact Hy.out.g0 j x
            · exact Nat.le_trans Hy.out.size x
          have hn0 := HH.out k q hq0 _ B g' (l ++ bs) wr.heap.size hbe hw4 Hy.out.b0 hg0 hEl (by have := hw3.lt; omega) (fun e => by have := hw3.row_lt _ e; omega) hL
          unfold wrV Fd.val at hn0
          simp only [List.length_cons, List.length_nil, Nat.zero_add] at hn0
          have HA : Hid (Below wr.heap.size wr (wr.alloc (.cells #[.iface St.ent.ty (.pointer (some ⟨sb, so + k * 2, none⟩))] 20))) := alloc_below wr _
          unfold St.ty at hn0 HA
          simp only at hn0 HA
          have HEn := hidden he
          have HG := hidden hg3
          clear hq0 he hw3 hg3 hbe hw4 hEl hL hg0
          cases hq : Cm.enc q with
          | none =>
            rw [hq] at hn0
            have HN2 := hidden hn0
            have HQ := hidden hq
            clear hn0 hq
            go_wp2_with (go_at_call 43; refine (HN2.out).mono ?_; rintro e w2 ⟨⟨t, u, rfl⟩, hk2⟩)
            exact ⟨rfl, Hy.out.panic HP.out HEn.out HG.out HQ.out ((KeptO.of_below HA.out).trans hk2 (fun _ _ x => x))⟩
          | some b1 =>
            rw [hq] at hn0
            have HN2 := hidden hn0
            have HQ := hidden hq
            clear hn0 hq
            go_wp2_with (go_at_call 43; refine (HN2.out).mono ?_; rintro e w2 ⟨rfl, g2, hw2, hk2, hg2⟩)
            obtain ⟨-, g3, hw3, hk3, hg3⟩ := WOut.from HA.out (show WOut _ B g' (l ++ bs) (some b1) (.returned (.tuple #[])) w2 from ⟨rfl, g2, hw2, hk2, hg2⟩)
            go_roundw
            case rel => exact ⟨k + 1, by go_num, hlt, hidden (Hy.out.step HP.out HEn.out HG.out HQ.out hw3 hk3 hg3)⟩
            case measure => simp [intOf]; omega
        · obtain rfl : k = n := by omega
          go_wp2
          go_end0
          have he : Wy w0 w wr B g l ([(Cm.K.n 16, Cm.V.n (k : Int))] :: pss) ([(Cm.K.n 16, Cm.V.n (k : Int))] :: pss).length := by rw [List.length_cons, HL.out]; exact Hy.out
          exact he.end_
  · have hx : Cm.enc1 (.n 16) (.n (n : Int)) = none := by rw [Cm.enc1, if_neg (by omega)]
    have hy : Cm.enc ([(Cm.K.n 16, Cm.V.n (n : Int))] :: pss).flatten = none := by
      show Cm.enc ((Cm.K.n 16, Cm.V.n (n : Int)) :: pss.flatten) = none
      simp only [Cm.enc, hx]
    rw [hx] at hnum
    rw [hy]
    have HN := hidden hnum
    have HBU := hidden hbu
    clear hnum hH hO hlen hs hs2 hl hl2 hll hfl hbu cN hx hb hw hB hg hn hy hle
    unfold wrV
    go_enter Try.func53, Try.ntmps53
    go_wp2_with (go_at_call 90; refine (HN.out).mono ?_; rintro e w1 ⟨⟨t, u, rfl⟩, hk1⟩)
    exact ⟨rfl, ⟨_, _, rfl⟩, (KeptO.of_below HBU.out).trans hk1 (fun _ _ x => x)⟩

set_option maxHeartbeats 4000000 in
set_option maxRecDepth 100000 in
theorem list_w_posts {w0 : World} {b o : Nat} {p : Option Addr} {n c : Nat} {sb so : Nat} (hc : w0.cell? ⟨b, o, none⟩ = some (.slice p n c)) (hp : n ≠ 0 → p = some ⟨sb, so, none⟩) (hn : n < 9223372036854775808) {pss : List (List (Cm.K × Cm.V))} (hlen : pss.length = n) (hH : n ≤ 64 → ∀ k q, pss[k]? = some q → WalkC w0 [.sub .post sb (so + k * 2)] q) (hs : Cm.small pss.flatten) :
    ListC w0 54 64 b o ((.n 64, .n (n : Int)) :: pss.flatten) := by
  intro w B g l hb hw hB hg hl
  have hbl : b < w0.heap.size := World.block_lt_of_cell? _ _ hc
  have hblw : b < w.heap.size := Nat.lt_of_lt_of_le hbl hb.size
  have hcw : w.cell? ⟨b, o, none⟩ = some (.slice p n c) := by rw [hb.cell (p := ⟨b, o, none⟩) hbl]; exact hc
  have hs2 : Cm.small ([(Cm.K.n 64, Cm.V.n (n : Int))] :: pss).flatten := by
    intro q hq m e
    simp only [List.flatten_cons, List.cons_append, List.nil_append, List.mem_cons] at hq
    rcases hq with rfl | hq
    · injection e with e; omega
    · exact hs q hq m e
  have hl2 : l.length + ([(Cm.K.n 64, Cm.V.n (n : Int))] :: pss).flatten.length * 300000 ≤ 140737486000000 := hl
  have hO := Wy.start hb hw hB hg hs2 hl2
  have hll : l.length ≤ 140737487000000 := by omega
  have hfl : (Cm.K.n 64, Cm.V.n (n : Int)) :: pss.flatten = ([(Cm.K.n 64, Cm.V.n (n : Int))] :: pss).flatten := rfl
  rw [hfl]
  have hbu := alloc_below w (.cells #[.int .i64 (n : Int)] 3)
  have cN : (w.alloc (.cells #[.int .i64 (n : Int)] 3)).cell? ⟨w.heap.size, 0, none⟩ = some (.int .i64 (n : Int)) := by simp [go_sem]
  have hnum := wr_number (hw.below hbu) ⟨w.heap.size, 0, none⟩ (n : Int) (by omega) 64 cN (by omega)
  have m1 := m_wnum
  by_cases hle : n ≤ 64
  · have hx : Cm.enc1 (.n 64) (.n (n : Int)) = some (M.putVar n) := by rw [Cm.enc1, if_pos (by omega), Int.toNat_natCast]
    rw [hx] at hnum
    have HN := hidden hnum
    have HH := hidden (hH hle)
    have HO := hidden hO
    have HF : Hid (∀ (g' : Option Nat) (w1 : World), KeptO (WrO B g) (w.alloc (.cells #[.int .i64 (n : Int)] 3)) w1 → w1.cell? ⟨b, o, none⟩ = some (.slice p n c) ∧ w1.cell? ⟨w.heap.size, 0, none⟩ = some (.int .i64 (n : Int))) := by
      intro _ w1 hk
      have hn1 : ¬ WrO B g b := by
        rintro (x | x)
        · omega
        · have := hg _ x; omega
      have hn2 : ¬ WrO B g w.heap.size := by
        rintro (x | x)
        · have := hw.lt; omega
        · have := hw.row_lt _ x; omega
      refine ⟨?_, ?_⟩
      · rw [hk.cell (p := ⟨b, o, none⟩) (by simp; omega) hn1, hbu.cell (p := ⟨b, o, none⟩) hblw]; exact hcw
      · rw [hk.cell (p := ⟨w.heap.size, 0, none⟩) (by simp) hn2]; exact cN
    have HW : Hid (Cm.enc (([(Cm.K.n 64, Cm.V.n (n : Int))] :: pss).take 0).flatten = some [] ∧ Cm.enc [(Cm.K.n 64, Cm.V.n (n : Int))] = some (M.putVar n)) := ⟨rfl, by rw [Cm.enc_one]; exact hx⟩
    have HBU := hidden hbu
    have HL := hidden hlen
    have HBW := hidden hblw
    have hcl := hc
    have HCW := hidden hcw
    have HC0 := hidden hc
    have HPP := hidden hp
    clear hnum hH hO hc hp hlen hs hs2 hl hl2 hll hfl hbu cN hx hb hw hB hg hcl
    unfold wrV
    go_enter Try.func54, Try.ntmps54
    go_wp2_with (go_at_call 90; refine (HN.out).mono ?_; rintro e w1 ⟨rfl, g1, hw1, hk1, hg1⟩; obtain ⟨c1, c2⟩ := HF.out g1 w1 hk1; have HW1 := hidden hw1; have HK1 := hidden hk1; have HG1 := hidden hg1; clear hw1 hk1 hg1)
    go_region
    all_goals
      have HS : Hid (Wy w0 w w1.drew B g l ([(Cm.K.n 64, Cm.V.n (n : Int))] :: pss) 1) := by
        obtain ⟨-, g2, hw2, hk2, hg2⟩ := WOut.from HBU.out (show WOut _ B g l (some (M.putVar n)) (.returned (.tuple #[])) w1 from ⟨rfl, g1, HW1.out, HK1.out, HG1.out⟩)
        exact HO.out.step (k := 0) rfl HW.out.1 (fun j h => .inl h) HW.out.2 (by rw [List.append_nil]; exact hw2) hk2.drew hg2
    all_goals go_wp2
    all_goals
      go_loopw [29] (fun i wr => ∃ k : Nat, i = .int .i64 (k : Int) ∧ k ≤ n ∧ Hid (Wy w0 w wr B g l ([(Cm.K.n 64, Cm.V.n (n : Int))] :: pss) (k + 1)))
        (fun i _ => n - (intOf i).toNat)
      case atStart => exact ⟨0, rfl, Nat.zero_le _, HS⟩
      case round =>
        obtain ⟨k, rfl, hkn, Hy⟩ := hrel
        by_cases hlt : k < n
        · obtain ⟨q, hq0⟩ : ∃ q, pss[k]? = some q := ⟨pss[k]'(by rw [HL.out]; exact hlt), List.getElem?_eq_getElem _⟩
          have hpe : p = some ⟨sb, so, none⟩ := HPP.out (by omega)
          subst hpe
          obtain ⟨bs, g', he, hw3, hg3⟩ := Hy.out.out
          have HP : Hid (([(Cm.K.n 64, Cm.V.n (n : Int))] :: pss)[k + 1]? = some q) := by unfold Hid; rw [List.getElem?_cons_succ]; exact hq0
          have hcr : wr.cell? ⟨b, o, none⟩ = some (.slice (some ⟨sb, so, none⟩) n c) := by rw [Hy.out.below.cell (p := ⟨b, o, none⟩) (World.block_lt_of_cell? _ _ HC0.out)]; exact HC0.out
          have hbe : Below w0.heap.size w0 (wr.alloc (.cells #[(Fd.sub .post sb (so + k * 2)).val] 20)) := Hy.out.below.alloc Hy.out.below.size _
          have hw4 : Wr (wr.alloc (.cells #[(Fd.sub .post sb (so + k * 2)).val] 20)) B g' (l ++ bs) := hw3.below (alloc_below wr _)
          have hEl : Elems (wr.alloc (.cells #[(Fd.sub .post sb (so + k * 2)).val] 20)) wr.heap.size [.sub .post sb (so + k * 2)] := heap_alloc_new _ _
          have hL : (l ++ bs).length + q.length * 300000 ≤ 140737486000000 := by
            have a1 := Cm.flat_len _ (k + 1) HP.out
            have a2 := Cm.enc_len _ _ (fun x hx => Hy.out.small x (by
              rw [← List.take_append_drop (k + 1) ([(Cm.K.n 64, Cm.V.n (n : Int))] :: pss), List.flatten_append]
              exact List.mem_append_left _ hx)) he
            have a3 := Hy.out.len
            rw [List.length_append]
            omega
          have hg0 : ∀ j, g' = some j → w0.heap.size ≤ j := fun j hj => by
            rcases hg3 j hj with x | x
            · exact Hy.out.g0 j x
            · exact Nat.le_trans Hy.out.size x
          have hn0 := HH.out k q hq0 _ B g' (l ++ bs) wr.heap.size hbe hw4 Hy.out.b0 hg0 hEl (by have := hw3.lt; omega) (fun e => by have := hw3.row_lt _ e; omega) hL
          unfold wrV Fd.val at hn0
          simp only [List.length_cons, List.length_nil, Nat.zero_add] at hn0
          have HA : Hid (Below wr.heap.size wr (wr.alloc (.cells #[.iface St.post.ty (.pointer (some ⟨sb, so + k * 2, none⟩))] 20))) := alloc_below wr _
          unfold St.ty at hn0 HA
          simp only at hn0 HA
          have HEn := hidden he
          have HG := hidden hg3
          clear hq0 he hw3 hg3 hbe hw4 hEl hL hg0
          cases hq : Cm.enc q with
          | none =>
            rw [hq] at hn0
            have HN2 := hidden hn0
            have HQ := hidden hq
            clear hn0 hq
            go_wp2_with (go_at_call 43; refine (HN2.out).mono ?_; rintro e w2 ⟨⟨t, u, rfl⟩, hk2⟩)
            exact ⟨rfl, Hy.out.panic HP.out HEn.out HG.out HQ.out ((KeptO.of_below HA.out).trans hk2 (fun _ _ x => x))⟩
          | some b1 =>
            rw [hq] at hn0
            have HN2 := hidden hn0
            have HQ := hidden hq
            clear hn0 hq
            go_wp2_with (go_at_call 43; refine (HN2.out).mono ?_; rintro e w2 ⟨rfl, g2, hw2, hk2, hg2⟩)
            obtain ⟨-, g3, hw3, hk3, hg3⟩ := WOut.from HA.out (show WOut _ B g' (l ++ bs) (some b1) (.returned (.tuple #[])) w2 from ⟨rfl, g2, hw2, hk2, hg2⟩)
            go_roundw
            case rel => exact ⟨k + 1, by go_num, hlt, hidden (Hy.out.step HP.out HEn.out HG.out HQ.out hw3 hk3 hg3)⟩
            case measure => simp [intOf]; omega
        · obtain rfl : k = n := by omega
          go_wp2
          go_end0
          have he : Wy w0 w wr B g l ([(Cm.K.n 64, Cm.V.n (k : Int))] :: pss) ([(Cm.K.n 64, Cm.V.n (k : Int))] :: pss).length := by rw [List.length_cons, HL.out]; exact Hy.out
          exact he.end_
  · have hx : Cm.enc1 (.n 64) (.n (n : Int)) = none := by rw [Cm.enc1, if_neg (by omega)]
    have hy : Cm.enc ([(Cm.K.n 64, Cm.V.n (n : Int))] :: pss).flatten = none := by
      show Cm.enc ((Cm.K.n 64, Cm.V.n (n : Int)) :: pss.flatten) = none
      simp only [Cm.enc, hx]
    rw [hx] at hnum
    rw [hy]
    have HN := hidden hnum
    have HBU := hidden hbu
    clear hnum hH hO hlen hs hs2 hl hl2 hll hfl hbu cN hx hb hw hB hg hn hy hle
    unfold wrV
    go_enter Try.func54, Try.ntmps54
    go_wp2_with (go_at_call 90; refine (HN.out).mono ?_; rintro e w1 ⟨⟨t, u, rfl⟩, hk1⟩)
    exact ⟨rfl, ⟨_, _, rfl⟩, (KeptO.of_below HBU.out).trans hk1 (fun _ _ x => x)⟩

end Go.Proofs.Ytnfjfhjhofaodaa
