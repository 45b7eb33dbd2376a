/-
  What Add answers: s stands behind the file's bytes, loose; or it is refused, and nothing has turned.
-/
import Derived.Test.YtpfnkjfbhcffiaaDkSmall
namespace Go.Proofs.Ytpfnkjfbhcffiaa
open Go.RowKit

theorem Add_no (w : World) (d : Value) (k : Int) (s : ByteArray) (h : NotMade w d) : Calls Try.prog 66 #[d, .int .i64 k, .string s] w fun e w' => e = .returned (.int .i64 1) ∧ w' = w := by
  have hm := has_no w d k h
  clear h
  go_enter Try.func66, Try.ntmps66
  go_wp2_with fail
  refine hm.mono ?_
  rintro e w' ⟨rfl, rfl⟩
  go_wp2
  go_ret
  exact ⟨rfl, rfl⟩

theorem Add_out {w : World} {b room : Nat} {A : Nat → List UInt8} {S : Nat → Nat} {own : Nat → Prop} (h : Dk w b room A S own) (k : Int) (s : ByteArray) (hk : isFile k = false) : Calls Try.prog 66 #[.pointer (some ⟨b, 0, none⟩), .int .i64 k, .string s] w fun e w' => e = .returned (.int .i64 1) ∧ w' = w := by
  have hm := has_yes h k
  rw [hk] at hm
  clear h hk
  go_enter Try.func66, Try.ntmps66
  go_wp2_with fail
  refine hm.mono ?_
  rintro e w' ⟨rfl, rfl⟩
  go_wp2
  go_ret
  exact ⟨rfl, rfl⟩

theorem Add_full {w : World} {b room : Nat} {A : Nat → List UInt8} {S : Nat → Nat} {own : Nat → Prop} (h : Dk w b room A S own) (i : Nat) (hi : i < 256) (s : ByteArray) (hfull : room < tot A + s.size) : Calls Try.prog 66 #[.pointer (some ⟨b, 0, none⟩), .int .i64 (i : Int), .string s] w fun e w' => e = .returned (.int .i64 30) ∧ w' = w.drew := by

  have hm := has_yes h i
  rw [isFile_nat hi] at hm
  obtain ⟨V, h⟩ := h
  have hb := h.big
  have hft := h.fits
  have h0 := h.roomC
  have h1 := h.used
  obtain ⟨u, hu⟩ : ∃ u, u = tot A := ⟨_, rfl⟩
  rw [← hu] at h1 hft hfull
  have ht : decide ((room : Int) - (u : Int) < (s.size : Int)) = true := by simp; omega
  clear h hu hfull
  go_enter Try.func66, Try.ntmps66
  go_wp2_with fail
  refine hm.mono ?_
  rintro e w' ⟨rfl, rfl⟩
  go_wp2
  go_region
  go_wp2
  go_ret
  exact ⟨rfl, rfl⟩

set_option maxHeartbeats 400000 in
theorem Add_yes {w : World} {b room : Nat} {A : Nat → List UInt8} {S : Nat → Nat} {own : Nat → Prop} (h : Dk w b room A S own) (i : Nat) (hi : i < 256) (s : ByteArray) (hfit : tot A + s.size ≤ room) :
    Calls Try.prog 66 #[.pointer (some ⟨b, 0, none⟩), .int .i64 (i : Int), .string s] w fun e w' => e = .returned (.int .i64 0) ∧ Dk w' b room (upd A i (A i ++ s.data.toList)) S (since own w) ∧ Kept b own w w' := by
  have hm := has_yes h i
  rw [isFile_nat hi] at hm
  obtain ⟨V, h⟩ := h
  have hb := h.big
  have h0 := h.roomC
  have h1 := h.used
  have h2 := h.bytes i hi
  have hblt := h.lt
  obtain ⟨u, hu⟩ : ∃ u, u = tot A := ⟨_, rfl⟩
  have htu := tot_upd A hi (A i ++ s.data.toList)
  have hsl : s.data.toList.length = s.size := by simp
  rw [List.length_append, hsl] at htu
  have HT : Hid (tot (upd A i (A i ++ s.data.toList)) = u + s.size) := by show _ = _; omega
  rw [← hu] at h1 hfit
  have ht : decide ((room : Int) - (u : Int) < (s.size : Int)) = false := by simp; omega
  have hn := h.len hi
  obtain ⟨ao, cap, hv⟩ := (h.row i hi).form
  have hrow := h.row i hi
  rw [hv] at h2 hrow
  have HD : Hid (DkV w b room A S own V) := h
  obtain ⟨n, hnn⟩ : ∃ n, n = (A i).length := ⟨_, rfl⟩
  have HN : Hid (n = (A i).length) := hnn
  rw [← hnn] at h2 hn hrow
  have Hr : Hid (OwnB w (b + 1) 5 (.slice ao n cap) (A i)) := hrow
  have Hv : Hid (V i = .slice ao n cap) := by rw [hnn]; exact hv
  clear h hv hu htu hrow hnn
  have Hsl : Hid _ := hsl
  clear hsl
  go_enter Try.func66, Try.ntmps66
  go_wp2_with fail
  refine hm.mono ?_
  rintro e w' ⟨rfl, rfl⟩
  go_wp2
  go_region
  go_wp2_with (at_builtin; refine wpList_append_bytes rfl (.tmp 33) (.tmp 34) 60 9 5 rfl Try.underlying60 (by kernel_rfl) (b + 1) (.slice ao n cap) (A i) rfl (OwnB.carry Hr.out (fun _ _ => rfl)) (.string s) s.data.toList rfl ?qsrc ?qlen ?qbase ?qnext)
  case qsrc => exact Src.ofString _ Try.underlying9 s
  case qlen => rw [← HN.out, Hsl.out]; omega
  case qbase => show b + 1 ≤ w'.heap.size; omega
  case qnext =>
    intro v' w1 ho hg hown
    obtain ⟨hvb, hgd⟩ : (∀ k, (Value.slice ao n cap).ownBlock = some k → b < k) ∧ ∀ o, w1.cell? ⟨b, o, none⟩ = w'.cell? ⟨b, o, none⟩ ∧ w1.frozen? ⟨b, o, none⟩ = w'.frozen? ⟨b, o, none⟩ := by
      have hvb : ∀ k, (Value.slice ao n cap).ownBlock = some k → b < k := fun k hk => by have := (OwnB.block Hr.out hk).1; omega
      have hq : w1.heap[b]? = w'.heap[b]? := hg.block b hblt (fun e => by have := hvb b e.symm; omega)
      exact ⟨hvb, fun o => ⟨World.cell?_of_block (a := ⟨b, o, none⟩) hq, World.frozen?_of_block (a := ⟨b, o, none⟩) hq⟩⟩
    have Hvb : Hid _ := hvb
    have HG : Hid (World.grownBy w'.drew w1 (Value.slice ao n cap).ownBlock) := hg
    have HO : Hid (OwnB w1 (b + 1) 5 v' (A i ++ s.data.toList)) := ho
    obtain ⟨ao', cap', hv'⟩ := OwnB.form HO.out
    obtain ⟨n', hn'⟩ : ∃ n', n' = (A i ++ s.data.toList).length := ⟨_, rfl⟩
    rw [← hn'] at hv'
    subst hv'
    have HW : Hid (∀ k, (Value.slice ao' n' cap').ownBlock = some k → (Value.slice ao n cap).ownBlock = some k ∨ w'.heap.size ≤ k) := hown
    have c1 := (hgd (2 + i * 2)).1
    have c2 := (hgd 1).1
    have f1 := (hgd (2 + i * 2)).2
    have f2 := (hgd 1).2
    have Hgd : Hid _ := hgd
    rw [h2] at c1
    rw [h1] at c2
    rw [HD.out.froz _ (by omega)] at f1
    rw [HD.out.froz _ (by omega)] at f2
    clear hgd hvb hown ho hg hn'
    go_wp2
    go_ret
    have hD := HD.out
    have hg1 : World.grownBy w' w1 (V i).ownBlock := by rw [Hv.out]; exact grown_drew HG.out
    have hg2 := grown_trans (grown_set w1 b (2 + i * 2) (.slice ao' n' cap')) (grown_set (w1.setCell ⟨b, 2 + i * 2, none⟩ (.slice ao' n' cap')) b 1 (.int .i64 ((u : Int) + (s.size : Int))))
    refine ⟨rfl, ⟨upd V i (.slice ao' n' cap'), ?_⟩, hD.keeps hi hg1 hg2⟩
    have hput := hD.put hi (v' := .slice ao' n' cap') (l' := A i ++ s.data.toList) (s' := S i) hg1 HO.out (by rw [Hv.out]; exact HW.out) hg2 (by have := hD.leSure i hi; rw [List.length_append]; omega) (by rw [HT.out]; exact hfit) ?_ ?_
    · rw [upd_self] at hput
      exact hput
    · intro o ho
      have hx : (w1.setCell ⟨b, 2 + i * 2, none⟩ (.slice ao' n' cap')).cell? ⟨b, 1, none⟩ = some (.int .i64 (u : Int)) := by rw [cell_set _ c1, if_neg (by omega), c2]
      rw [cell_set _ hx, cell_set _ c1, HT.out, (Hgd.out o).1]
      by_cases e1 : o = 1
      · rw [if_pos e1, if_pos e1]
        simp
      · rw [if_neg e1, if_neg e1]
        by_cases e2 : o = 2 + i * 2
        · rw [if_pos e2, if_pos e2]
        · rw [if_neg e2, if_neg e2]
          by_cases e3 : o = 2 + i * 2 + 1
          · rw [if_pos e3, e3]; exact hD.sure i hi
          · rw [if_neg e3]
    · intro o ho
      rw [World.frozen?_setCell, World.frozen?_setCell, (Hgd.out o).2]
      exact hD.froz o ho
end Go.Proofs.Ytpfnkjfbhcffiaa
