import Derived.Test.YtkioeahlajjmiaaMoMay
import Derived.Test.YtkioeahlajjmiaaSlRefV

/-
  Whether a text is a label, as the document has it; the slot of a channel, as the document has it.
-/
namespace Go.Proofs.Ytkioeahlajjmiaa
open Go.RowKit

theorem label_long {s : ByteArray} (h : ¬ (1 ≤ s.size ∧ s.size ≤ 16)) : Mo.label s = false := by
  unfold Mo.label
  by_cases h1 : 1 ≤ s.size
  · have : ¬ s.size ≤ 16 := fun e => h ⟨h1, e⟩
    simp [this]
  · simp [h1]

set_option maxHeartbeats 1600000 in
set_option maxRecDepth 20000 in
theorem rLabel_c (s : ByteArray) (hs : s.size ≤ 9223372036854775807) (w : World) : Calls Try.prog 61 #[.string s] w fun e w' => e = .returned (.bool (Mo.label s)) ∧ w' = w := by
  go_enter Try.func61, Try.ntmps61
  go_wp2
  go_loop [3] (fun i => ∃ k : Nat, k ≤ s.size ∧ i = .int .i64 (k : Int) ∧ Hid (Mo.allOk (s.data.toList.take k) = true)) (fun i => s.size - (intOf i).toNat)
  case atStart => exact ⟨0, Nat.zero_le _, rfl, rfl⟩
  case round =>
    obtain ⟨k, hk, rfl, HA⟩ := hrel
    by_cases hlt : k < s.size
    · have hb8 : s[k].toNat < 256 := s[k].toNat_lt
      cases hq : Mo.byteOk s[k].toNat with
      | true =>
        have HN : Hid (Mo.allOk (s.data.toList.take (k + 1)) = true) := by show _ = _; rw [allOk_take s k hlt, HA.out, hq]; rfl
        obtain ⟨b, hb⟩ : ∃ b, b = s[k].toNat := ⟨_, rfl⟩
        rw [← hb] at hq hb8
        have hb0 : s[k].toNat = b := hb.symm
        have hcs : (97 ≤ b ∧ b ≤ 122) ∨ (48 ≤ b ∧ b ≤ 57) ∨ b = 45 := by unfold Mo.byteOk at hq; simp at hq; omega
        clear hb hq
        rcases hcs with h1 | h1 | h1
        · have t1 : ¬ (b : Int) < 97 := by omega
          have t2 : ¬ (b : Int) > 122 := by omega
          go_wp2
          go_round
          case rel => exact ⟨k + 1, by omega, by go_num, HN⟩
          case measure => simp [intOf]; omega
        · have t1 : (b : Int) < 97 := by omega
          have t3 : ¬ (b : Int) < 48 := by omega
          have t4 : ¬ (b : Int) > 57 := by omega
          go_wp2
          go_round
          case rel => exact ⟨k + 1, by omega, by go_num, HN⟩
          case measure => simp [intOf]; omega
        · subst h1
          go_wp2
          go_round
          case rel => exact ⟨k + 1, by omega, by go_num, HN⟩
          case measure => simp [intOf]; omega
      | false =>
        have HN : Hid (Mo.label s = false) := by
          have := allOk_stop s k hlt hq
          show _ = _
          unfold Mo.label
          rw [this]
          simp
        obtain ⟨b, hb⟩ : ∃ b, b = s[k].toNat := ⟨_, rfl⟩
        rw [← hb] at hq hb8
        have hb0 : s[k].toNat = b := hb.symm
        have hcs : (b < 97 ∨ 122 < b) ∧ (b < 48 ∨ 57 < b) ∧ b ≠ 45 := by unfold Mo.byteOk at hq; simp at hq; omega
        have t5 : ((b : Int) != 45) = true := by simp; omega
        have t6 : ((b : Int) == 45) = false := by simp; omega
        clear hb hq
        obtain ⟨h1, h2, h3⟩ := hcs
        rcases h1 with h1 | h1
        · have t1 : (b : Int) < 97 := by omega
          rcases h2 with h2 | h2
          · have t3 : (b : Int) < 48 := by omega
            go_wp2
            go_ret
            exact ⟨ret_bool HN.out.symm, rfl⟩
          · have t3 : ¬ (b : Int) < 48 := by omega
            have t4 : (b : Int) > 57 := by omega
            go_wp2
            go_ret
            exact ⟨ret_bool HN.out.symm, rfl⟩
        · have t1 : ¬ (b : Int) < 97 := by omega
          have t2 : (b : Int) > 122 := by omega
          have t3 : ¬ (b : Int) < 48 := by omega
          have t4 : (b : Int) > 57 := by omega
          go_wp2
          go_ret
          exact ⟨ret_bool HN.out.symm, rfl⟩
    · obtain rfl : k = s.size := by omega
      have HL : Hid (Mo.label s = (decide (1 ≤ s.size) && decide (s.size ≤ 16))) := by
        have := HA.out
        rw [List.take_of_length_le (by simp)] at this
        show _ = _
        unfold Mo.label
        rw [this, Bool.and_true]
      by_cases h1 : 1 ≤ s.size
      · by_cases h2 : s.size ≤ 16
        · have t1 : (s.size : Int) ≥ 1 := by omega
          have t2 : (s.size : Int) ≤ 16 := by omega
          go_wp2
          go_ret
          exact ⟨ret_bool (by rw [HL.out]; simp [h1, h2]), rfl⟩
        · have t1 : (s.size : Int) ≥ 1 := by omega
          have t2 : ¬ (s.size : Int) ≤ 16 := by omega
          go_wp2
          go_ret
          exact ⟨ret_bool (by rw [HL.out]; simp [h1, h2]), rfl⟩
      · have t1 : ¬ (s.size : Int) ≥ 1 := by omega
        go_wp2
        go_ret
        exact ⟨ret_bool (by rw [HL.out]; simp [h1]), rfl⟩

end Go.Proofs.Ytkioeahlajjmiaa

/-
  An op without the fields that its kind has: the document's bare.
-/
namespace Go.Proofs.Ytkioeahlajjmiaa
open Go.RowKit

set_option maxRecDepth 20000 in
theorem bare_0 (kind : Int) (h1 : (kind == 1) = false) (h2 : (kind == 2) = false) (h3 : (kind == 3) = false) (h4 : (kind == 4) = false) (h5 : (kind == 5) = false) (h6 : (kind == 6) = false) (h7 : (kind == 7) = false) (space channel user text toSpace to : ByteArray) (frm most : Int) (w : World) : Calls Try.prog 60 #[.agg #[.int .i64 kind, .string space, .string channel, .string user, .string text, .string toSpace, .string to, .int .i64 frm, .int .i64 most]] w fun e w' => e = .returned (.agg #[.int .i64 0, .string space, .string channel, .string user, .string text, .string toSpace, .string to, .int .i64 frm, .int .i64 most]) ∧ Below w.heap.size w w' := by
  have HB : Hid (∀ o o', Below w.heap.size w ((w.alloc o).alloc o')) := fun o o' => (below_alloc w o).trans ((below_alloc _ o').mono (by simp))
  go_enter Try.func60, Try.ntmps60
  go_wp2
  exact bodyPost_ret (v := .agg #[.int .i64 0, .string space, .string channel, .string user, .string text, .string toSpace, .string to, .int .i64 frm, .int .i64 most]) (by simp [results, Try.results60, go_sem]) rfl ⟨rfl, HB.out _ _⟩

set_option maxRecDepth 20000 in
theorem bare_1 (space channel user text toSpace to : ByteArray) (frm most : Int) (w : World) : Calls Try.prog 60 #[.agg #[.int .i64 1, .string space, .string channel, .string user, .string text, .string toSpace, .string to, .int .i64 frm, .int .i64 most]] w fun e w' => e = .returned (.agg #[.int .i64 0, .string ⟨#[]⟩, .string ⟨#[]⟩, .string user, .string text, .string toSpace, .string to, .int .i64 frm, .int .i64 most]) ∧ Below w.heap.size w w' := by
  have HB : Hid (∀ o o', Below w.heap.size w ((w.alloc o).alloc o')) := fun o o' => (below_alloc w o).trans ((below_alloc _ o').mono (by simp))
  go_enter Try.func60, Try.ntmps60
  go_wp2
  exact bodyPost_ret (v := .agg #[.int .i64 0, .string ⟨#[]⟩, .string ⟨#[]⟩, .string user, .string text, .string toSpace, .string to, .int .i64 frm, .int .i64 most]) (by simp [results, Try.results60, go_sem]) rfl ⟨rfl, HB.out _ _⟩

set_option maxRecDepth 20000 in
theorem bare_2 (space channel user text toSpace to : ByteArray) (frm most : Int) (w : World) : Calls Try.prog 60 #[.agg #[.int .i64 2, .string space, .string channel, .string user, .string text, .string toSpace, .string to, .int .i64 frm, .int .i64 most]] w fun e w' => e = .returned (.agg #[.int .i64 0, .string ⟨#[]⟩, .string ⟨#[]⟩, .string ⟨#[]⟩, .string text, .string toSpace, .string to, .int .i64 frm, .int .i64 most]) ∧ Below w.heap.size w w' := by
  have HB : Hid (∀ o o', Below w.heap.size w ((w.alloc o).alloc o')) := fun o o' => (below_alloc w o).trans ((below_alloc _ o').mono (by simp))
  go_enter Try.func60, Try.ntmps60
  go_wp2
  exact bodyPost_ret (v := .agg #[.int .i64 0, .string ⟨#[]⟩, .string ⟨#[]⟩, .string ⟨#[]⟩, .string text, .string toSpace, .string to, .int .i64 frm, .int .i64 most]) (by simp [results, Try.results60, go_sem]) rfl ⟨rfl, HB.out _ _⟩

set_option maxRecDepth 20000 in
theorem bare_3 (space channel user text toSpace to : ByteArray) (frm most : Int) (w : World) : Calls Try.prog 60 #[.agg #[.int .i64 3, .string space, .string channel, .string user, .string text, .string toSpace, .string to, .int .i64 frm, .int .i64 most]] w fun e w' => e = .returned (.agg #[.int .i64 0, .string ⟨#[]⟩, .string ⟨#[]⟩, .string ⟨#[]⟩, .string ⟨#[]⟩, .string toSpace, .string to, .int .i64 frm, .int .i64 most]) ∧ Below w.heap.size w w' := by
  have HB : Hid (∀ o o', Below w.heap.size w ((w.alloc o).alloc o')) := fun o o' => (below_alloc w o).trans ((below_alloc _ o').mono (by simp))
  go_enter Try.func60, Try.ntmps60
  go_wp2
  exact bodyPost_ret (v := .agg #[.int .i64 0, .string ⟨#[]⟩, .string ⟨#[]⟩, .string ⟨#[]⟩, .string ⟨#[]⟩, .string toSpace, .string to, .int .i64 frm, .int .i64 most]) (by simp [results, Try.results60, go_sem]) rfl ⟨rfl, HB.out _ _⟩

set_option maxRecDepth 20000 in
theorem bare_4 (space channel user text toSpace to : ByteArray) (frm most : Int) (w : World) : Calls Try.prog 60 #[.agg #[.int .i64 4, .string space, .string channel, .string user, .string text, .string toSpace, .string to, .int .i64 frm, .int .i64 most]] w fun e w' => e = .returned (.agg #[.int .i64 0, .string ⟨#[]⟩, .string ⟨#[]⟩, .string user, .string text, .string toSpace, .string to, .int .i64 0, .int .i64 0]) ∧ Below w.heap.size w w' := by
  have HB : Hid (∀ o o', Below w.heap.size w ((w.alloc o).alloc o')) := fun o o' => (below_alloc w o).trans ((below_alloc _ o').mono (by simp))
  go_enter Try.func60, Try.ntmps60
  go_wp2
  exact bodyPost_ret (v := .agg #[.int .i64 0, .string ⟨#[]⟩, .string ⟨#[]⟩, .string user, .string text, .string toSpace, .string to, .int .i64 0, .int .i64 0]) (by simp [results, Try.results60, go_sem]) rfl ⟨rfl, HB.out _ _⟩

set_option maxRecDepth 20000 in
theorem bare_5 (space channel user text toSpace to : ByteArray) (frm most : Int) (w : World) : Calls Try.prog 60 #[.agg #[.int .i64 5, .string space, .string channel, .string user, .string text, .string toSpace, .string to, .int .i64 frm, .int .i64 most]] w fun e w' => e = .returned (.agg #[.int .i64 0, .string ⟨#[]⟩, .string ⟨#[]⟩, .string user, .string text, .string ⟨#[]⟩, .string ⟨#[]⟩, .int .i64 frm, .int .i64 most]) ∧ Below w.heap.size w w' := by
  have HB : Hid (∀ o o', Below w.heap.size w ((w.alloc o).alloc o')) := fun o o' => (below_alloc w o).trans ((below_alloc _ o').mono (by simp))
  go_enter Try.func60, Try.ntmps60
  go_wp2
  exact bodyPost_ret (v := .agg #[.int .i64 0, .string ⟨#[]⟩, .string ⟨#[]⟩, .string user, .string text, .string ⟨#[]⟩, .string ⟨#[]⟩, .int .i64 frm, .int .i64 most]) (by simp [results, Try.results60, go_sem]) rfl ⟨rfl, HB.out _ _⟩

set_option maxRecDepth 20000 in
theorem bare_6 (space channel user text toSpace to : ByteArray) (frm most : Int) (w : World) : Calls Try.prog 60 #[.agg #[.int .i64 6, .string space, .string channel, .string user, .string text, .string toSpace, .string to, .int .i64 frm, .int .i64 most]] w fun e w' => e = .returned (.agg #[.int .i64 0, .string ⟨#[]⟩, .string channel, .string user, .string text, .string toSpace, .string to, .int .i64 frm, .int .i64 most]) ∧ Below w.heap.size w w' := by
  have HB : Hid (∀ o o', Below w.heap.size w ((w.alloc o).alloc o')) := fun o o' => (below_alloc w o).trans ((below_alloc _ o').mono (by simp))
  go_enter Try.func60, Try.ntmps60
  go_wp2
  exact bodyPost_ret (v := .agg #[.int .i64 0, .string ⟨#[]⟩, .string channel, .string user, .string text, .string toSpace, .string to, .int .i64 frm, .int .i64 most]) (by simp [results, Try.results60, go_sem]) rfl ⟨rfl, HB.out _ _⟩

set_option maxRecDepth 20000 in
theorem bare_7 (space channel user text toSpace to : ByteArray) (frm most : Int) (w : World) : Calls Try.prog 60 #[.agg #[.int .i64 7, .string space, .string channel, .string user, .string text, .string toSpace, .string to, .int .i64 frm, .int .i64 most]] w fun e w' => e = .returned (.agg #[.int .i64 0, .string space, .string channel, .string ⟨#[]⟩, .string text, .string toSpace, .string to, .int .i64 frm, .int .i64 most]) ∧ Below w.heap.size w w' := by
  have HB : Hid (∀ o o', Below w.heap.size w ((w.alloc o).alloc o')) := fun o o' => (below_alloc w o).trans ((below_alloc _ o').mono (by simp))
  go_enter Try.func60, Try.ntmps60
  go_wp2
  exact bodyPost_ret (v := .agg #[.int .i64 0, .string space, .string channel, .string ⟨#[]⟩, .string text, .string toSpace, .string to, .int .i64 frm, .int .i64 most]) (by simp [results, Try.results60, go_sem]) rfl ⟨rfl, HB.out _ _⟩

end Go.Proofs.Ytkioeahlajjmiaa

/-
  Whether an op may be, as the document has it.
-/
namespace Go.Proofs.Ytkioeahlajjmiaa
open Go.RowKit

theorem run_opNe (o q : Mo.Op) (w : World) : (binOp .neq 32 (opV o) (opV q)).run Try.prog w = .ok (.bool (!Mo.opEq o q)) w := by
  obtain ⟨k, a, b, c, d, f, g, h, i⟩ := o
  obtain ⟨k', a', b', c', d', f', g', h', i'⟩ := q
  unfold opV Mo.opEq
  dsimp only
  go_simp
  simp only [tlB]
  by_cases q0 : k = k'
  · by_cases q1 : a = a'
    · by_cases q2 : b = b'
      · by_cases q3 : c = c'
        · by_cases q4 : d = d'
          · by_cases q5 : f = f'
            · by_cases q6 : g = g'
              · by_cases q7 : h = h'
                · by_cases q8 : i = i'
                  · simp [q0, q1, q2, q3, q4, q5, q6, q7, q8]
                  · simp [q0, q1, q2, q3, q4, q5, q6, q7, q8]
                · simp [q0, q1, q2, q3, q4, q5, q6, q7]
              · simp [q0, q1, q2, q3, q4, q5, q6]
            · simp [q0, q1, q2, q3, q4, q5]
          · simp [q0, q1, q2, q3, q4]
        · simp [q0, q1, q2, q3]
      · simp [q0, q1, q2]
    · simp [q0, q1]
  · simp [q0]

set_option maxHeartbeats 1600000 in
set_option maxRecDepth 20000 in
theorem rMay_1 (space channel user text toSpace to : ByteArray) (frm most : Int) (hsz : space.size ≤ 9223372036854775807 ∧ channel.size ≤ 9223372036854775807 ∧ user.size ≤ 9223372036854775807 ∧ text.size ≤ 9223372036854775807 ∧ toSpace.size ≤ 9223372036854775807 ∧ to.size ≤ 9223372036854775807) (w : World) : Calls Try.prog 37 #[.agg #[.int .i64 1, .string space, .string channel, .string user, .string text, .string toSpace, .string to, .int .i64 frm, .int .i64 most]] w fun e w' => e = .returned (.bool (Mo.may ⟨1, space, channel, user, text, toSpace, to, frm, most⟩)) ∧ Below w.heap.size w w' := by
  obtain ⟨s1, s2, s3, s4, s5, s6⟩ := hsz
  obtain ⟨u, hu⟩ : ∃ u, u = w.alloc (.cells #[.int .i64 1, .string space, .string channel, .string user, .string text, .string toSpace, .string to, .int .i64 frm, .int .i64 most] 32) := ⟨_, rfl⟩
  obtain ⟨bx, hbx⟩ : ∃ bx, bx = w.heap.size := ⟨_, rfl⟩
  have hbu : Below w.heap.size w u := by rw [hu]; exact below_alloc w _
  have hlx : bx < u.heap.size := by rw [hu, hbx]; simp
  have hcu : ∀ j, u.cell? ⟨bx, j, none⟩ = (#[.int .i64 1, .string space, .string channel, .string user, .string text, .string toSpace, .string to, .int .i64 frm, .int .i64 most] : Array Value)[j]? := fun j => by rw [hu, hbx]; exact World.cell?_alloc_mark w _ _ _ j
  have HBr : Hid (Calls Try.prog 60 #[.agg #[.int .i64 1, .string space, .string channel, .string user, .string text, .string toSpace, .string to, .int .i64 frm, .int .i64 most]] u fun e X => e = .returned (.agg #[.int .i64 0, .string ⟨#[]⟩, .string ⟨#[]⟩, .string user, .string text, .string toSpace, .string to, .int .i64 frm, .int .i64 most]) ∧ Below w.heap.size w X ∧ ∀ j, X.cell? ⟨bx, j, none⟩ = (#[.int .i64 1, .string space, .string channel, .string user, .string text, .string toSpace, .string to, .int .i64 frm, .int .i64 most] : Array Value)[j]?) := by
    refine (bare_1 space channel user text toSpace to frm most u).mono ?_
    rintro e X ⟨rfl, hX⟩
    exact ⟨rfl, hbu.trans (hX.mono hbu.size), fun j => (hX.cell (p := ⟨bx, j, none⟩) hlx).trans (hcu j)⟩
  obtain ⟨z, hz⟩ : ∃ z, z = Mo.opEq ⟨0, Mo.e0, Mo.e0, user, text, toSpace, to, frm, most⟩ ⟨0, Mo.e0, Mo.e0, Mo.e0, Mo.e0, Mo.e0, Mo.e0, 0, 0⟩ := ⟨_, rfl⟩
  have hne : ∀ X : World, (binOp .neq 32 (.agg #[.int .i64 0, .string ⟨#[]⟩, .string ⟨#[]⟩, .string user, .string text, .string toSpace, .string to, .int .i64 frm, .int .i64 most]) (.agg #[.int .i64 0, .string ⟨#[]⟩, .string ⟨#[]⟩, .string ⟨#[]⟩, .string ⟨#[]⟩, .string ⟨#[]⟩, .string ⟨#[]⟩, .int .i64 0, .int .i64 0])).run Try.prog X = .ok (.bool (!z)) X := fun X => by rw [hz]; exact run_opNe ⟨0, Mo.e0, Mo.e0, user, text, toSpace, to, frm, most⟩ ⟨0, Mo.e0, Mo.e0, Mo.e0, Mo.e0, Mo.e0, Mo.e0, 0, 0⟩ X
  have hzz : Mo.opEq ⟨1, space, channel, user, text, toSpace, to, frm, most⟩ ⟨1, space, channel, Mo.e0, Mo.e0, Mo.e0, Mo.e0, 0, 0⟩ = z := by rw [hz]; simp [Mo.opEq]
  have HMz : Hid (Mo.may ⟨1, space, channel, user, text, toSpace, to, frm, most⟩ = (Mo.labels [space, channel] && z)) := by
    show _ = _
    unfold Mo.may
    dsimp only
    rw [if_pos rfl, hzz]
  have HLb : Hid (∀ (s : ByteArray) (X : World), s.size ≤ 9223372036854775807 → Calls Try.prog 61 #[.string s] X fun e w' => e = .returned (.bool (Mo.label s)) ∧ w' = X) := fun s X hs => rLabel_c s hs X
  have u0 := hcu 0
  have u1 := hcu 1
  have u2 := hcu 2
  have u3 := hcu 3
  have u4 := hcu 4
  have u5 := hcu 5
  have u6 := hcu 6
  have u7 := hcu 7
  have u8 := hcu 8
  clear hz hzz hcu hlx hbu
  cases z with
  | false =>
    clear HLb s1 s2 s3 s4 s5 s6
    go_enter Try.func37, Try.ntmps37
    go_wp2_with fail
    rw [← hu]
    try rw [← hbx]
    clear hu hbx
    refine Calls.mono HBr.out ?_
    rintro e X ⟨rfl, hX, -⟩
    have HX : Hid _ := hX
    clear hX
    go_wp2
    go_ret
    exact ⟨ret_bool (by rw [HMz.out, Bool.and_false]), HX.out⟩
  | true =>
    rw [Bool.and_true] at HMz
    have H_space : Hid (∀ X, Calls Try.prog 61 #[.string space] X fun e w' => e = .returned (.bool (Mo.label space)) ∧ w' = X) := fun X => HLb.out space X s1
    cases l_space : Mo.label space with
    | false =>
      rw [l_space] at H_space
      have HL_space : Hid (Mo.label space = false) := l_space
      clear l_space
      clear s1 s2 s3 s4 s5 s6 HLb
      go_enter Try.func37, Try.ntmps37
      go_wp2_with fail
      rw [← hu]
      try rw [← hbx]
      clear hu hbx
      refine Calls.mono HBr.out ?_
      rintro e X ⟨rfl, hX, hc⟩
      have HX : Hid _ := hX
      have x0 := hc 0
      have x1 := hc 1
      have x2 := hc 2
      have x3 := hc 3
      have x4 := hc 4
      have x5 := hc 5
      have x6 := hc 6
      have x7 := hc 7
      have x8 := hc 8
      clear hX hc u0 u1 u2 u3 u4 u5 u6 u7 u8
      go_wp2_with fail
      refine (H_space.out X).mono ?_
      rintro e X2 ⟨rfl, h2⟩
      have h2 := h2.symm
      subst h2
      go_wp2
      go_ret
      exact ⟨ret_bool (by rw [HMz.out]; simp [Mo.labels, HL_space.out]), HX.out⟩

    | true =>
      rw [l_space] at H_space
      have HL_space : Hid (Mo.label space = true) := l_space
      clear l_space
      have H_channel : Hid (∀ X, Calls Try.prog 61 #[.string channel] X fun e w' => e = .returned (.bool (Mo.label channel)) ∧ w' = X) := fun X => HLb.out channel X s2
      cases l_channel : Mo.label channel with
      | false =>
        rw [l_channel] at H_channel
        have HL_channel : Hid (Mo.label channel = false) := l_channel
        clear l_channel
        clear s1 s2 s3 s4 s5 s6 HLb
        go_enter Try.func37, Try.ntmps37
        go_wp2_with fail
        rw [← hu]
        try rw [← hbx]
        clear hu hbx
        refine Calls.mono HBr.out ?_
        rintro e X ⟨rfl, hX, hc⟩
        have HX : Hid _ := hX
        have x0 := hc 0
        have x1 := hc 1
        have x2 := hc 2
        have x3 := hc 3
        have x4 := hc 4
        have x5 := hc 5
        have x6 := hc 6
        have x7 := hc 7
        have x8 := hc 8
        clear hX hc u0 u1 u2 u3 u4 u5 u6 u7 u8
        go_wp2_with fail
        refine (H_space.out X).mono ?_
        rintro e X2 ⟨rfl, h2⟩
        have h2 := h2.symm
        subst h2
        go_wp2_with fail
        refine (H_channel.out X).mono ?_
        rintro e X2 ⟨rfl, h2⟩
        have h2 := h2.symm
        subst h2
        go_wp2
        go_ret
        exact ⟨ret_bool (by rw [HMz.out]; simp [Mo.labels, HL_channel.out]), HX.out⟩

      | true =>
        rw [l_channel] at H_channel
        have HL_channel : Hid (Mo.label channel = true) := l_channel
        clear l_channel
        clear s1 s2 s3 s4 s5 s6 HLb
        go_enter Try.func37, Try.ntmps37
        go_wp2_with fail
        rw [← hu]
        try rw [← hbx]
        clear hu hbx
        refine Calls.mono HBr.out ?_
        rintro e X ⟨rfl, hX, hc⟩
        have HX : Hid _ := hX
        have x0 := hc 0
        have x1 := hc 1
        have x2 := hc 2
        have x3 := hc 3
        have x4 := hc 4
        have x5 := hc 5
        have x6 := hc 6
        have x7 := hc 7
        have x8 := hc 8
        clear hX hc u0 u1 u2 u3 u4 u5 u6 u7 u8
        go_wp2_with fail
        refine (H_space.out X).mono ?_
        rintro e X2 ⟨rfl, h2⟩
        have h2 := h2.symm
        subst h2
        go_wp2_with fail
        refine (H_channel.out X).mono ?_
        rintro e X2 ⟨rfl, h2⟩
        have h2 := h2.symm
        subst h2
        go_wp2
        go_ret
        exact ⟨ret_bool (by rw [HMz.out]; simp [Mo.labels, HL_space.out, HL_channel.out]), HX.out⟩

set_option maxHeartbeats 1600000 in
set_option maxRecDepth 20000 in
theorem rMay_2 (space channel user text toSpace to : ByteArray) (frm most : Int) (hsz : space.size ≤ 9223372036854775807 ∧ channel.size ≤ 9223372036854775807 ∧ user.size ≤ 9223372036854775807 ∧ text.size ≤ 9223372036854775807 ∧ toSpace.size ≤ 9223372036854775807 ∧ to.size ≤ 9223372036854775807) (w : World) : Calls Try.prog 37 #[.agg #[.int .i64 2, .string space, .string channel, .string user, .string text, .string toSpace, .string to, .int .i64 frm, .int .i64 most]] w fun e w' => e = .returned (.bool (Mo.may ⟨2, space, channel, user, text, toSpace, to, frm, most⟩)) ∧ Below w.heap.size w w' := by
  obtain ⟨s1, s2, s3, s4, s5, s6⟩ := hsz
  obtain ⟨u, hu⟩ : ∃ u, u = w.alloc (.cells #[.int .i64 2, .string space, .string channel, .string user, .string text, .string toSpace, .string to, .int .i64 frm, .int .i64 most] 32) := ⟨_, rfl⟩
  obtain ⟨bx, hbx⟩ : ∃ bx, bx = w.heap.size := ⟨_, rfl⟩
  have hbu : Below w.heap.size w u := by rw [hu]; exact below_alloc w _
  have hlx : bx < u.heap.size := by rw [hu, hbx]; simp
  have hcu : ∀ j, u.cell? ⟨bx, j, none⟩ = (#[.int .i64 2, .string space, .string channel, .string user, .string text, .string toSpace, .string to, .int .i64 frm, .int .i64 most] : Array Value)[j]? := fun j => by rw [hu, hbx]; exact World.cell?_alloc_mark w _ _ _ j
  have HBr : Hid (Calls Try.prog 60 #[.agg #[.int .i64 2, .string space, .string channel, .string user, .string text, .string toSpace, .string to, .int .i64 frm, .int .i64 most]] u fun e X => e = .returned (.agg #[.int .i64 0, .string ⟨#[]⟩, .string ⟨#[]⟩, .string ⟨#[]⟩, .string text, .string toSpace, .string to, .int .i64 frm, .int .i64 most]) ∧ Below w.heap.size w X ∧ ∀ j, X.cell? ⟨bx, j, none⟩ = (#[.int .i64 2, .string space, .string channel, .string user, .string text, .string toSpace, .string to, .int .i64 frm, .int .i64 most] : Array Value)[j]?) := by
    refine (bare_2 space channel user text toSpace to frm most u).mono ?_
    rintro e X ⟨rfl, hX⟩
    exact ⟨rfl, hbu.trans (hX.mono hbu.size), fun j => (hX.cell (p := ⟨bx, j, none⟩) hlx).trans (hcu j)⟩
  obtain ⟨z, hz⟩ : ∃ z, z = Mo.opEq ⟨0, Mo.e0, Mo.e0, Mo.e0, text, toSpace, to, frm, most⟩ ⟨0, Mo.e0, Mo.e0, Mo.e0, Mo.e0, Mo.e0, Mo.e0, 0, 0⟩ := ⟨_, rfl⟩
  have hne : ∀ X : World, (binOp .neq 32 (.agg #[.int .i64 0, .string ⟨#[]⟩, .string ⟨#[]⟩, .string ⟨#[]⟩, .string text, .string toSpace, .string to, .int .i64 frm, .int .i64 most]) (.agg #[.int .i64 0, .string ⟨#[]⟩, .string ⟨#[]⟩, .string ⟨#[]⟩, .string ⟨#[]⟩, .string ⟨#[]⟩, .string ⟨#[]⟩, .int .i64 0, .int .i64 0])).run Try.prog X = .ok (.bool (!z)) X := fun X => by rw [hz]; exact run_opNe ⟨0, Mo.e0, Mo.e0, Mo.e0, text, toSpace, to, frm, most⟩ ⟨0, Mo.e0, Mo.e0, Mo.e0, Mo.e0, Mo.e0, Mo.e0, 0, 0⟩ X
  have hzz : Mo.opEq ⟨2, space, channel, user, text, toSpace, to, frm, most⟩ ⟨2, space, channel, user, Mo.e0, Mo.e0, Mo.e0, 0, 0⟩ = z := by rw [hz]; simp [Mo.opEq]
  have HMz : Hid (Mo.may ⟨2, space, channel, user, text, toSpace, to, frm, most⟩ = (Mo.labels [space, channel, user] && z)) := by
    show _ = _
    unfold Mo.may
    dsimp only
    rw [if_neg (by decide), if_pos rfl, hzz]
  have HLb : Hid (∀ (s : ByteArray) (X : World), s.size ≤ 9223372036854775807 → Calls Try.prog 61 #[.string s] X fun e w' => e = .returned (.bool (Mo.label s)) ∧ w' = X) := fun s X hs => rLabel_c s hs X
  have u0 := hcu 0
  have u1 := hcu 1
  have u2 := hcu 2
  have u3 := hcu 3
  have u4 := hcu 4
  have u5 := hcu 5
  have u6 := hcu 6
  have u7 := hcu 7
  have u8 := hcu 8
  clear hz hzz hcu hlx hbu
  cases z with
  | false =>
    clear HLb s1 s2 s3 s4 s5 s6
    go_enter Try.func37, Try.ntmps37
    go_wp2_with fail
    rw [← hu]
    try rw [← hbx]
    clear hu hbx
    refine Calls.mono HBr.out ?_
    rintro e X ⟨rfl, hX, -⟩
    have HX : Hid _ := hX
    clear hX
    go_wp2
    go_ret
    exact ⟨ret_bool (by rw [HMz.out, Bool.and_false]), HX.out⟩
  | true =>
    rw [Bool.and_true] at HMz
    have H_space : Hid (∀ X, Calls Try.prog 61 #[.string space] X fun e w' => e = .returned (.bool (Mo.label space)) ∧ w' = X) := fun X => HLb.out space X s1
    cases l_space : Mo.label space with
    | false =>
      rw [l_space] at H_space
      have HL_space : Hid (Mo.label space = false) := l_space
      clear l_space
      clear s1 s2 s3 s4 s5 s6 HLb
      go_enter Try.func37, Try.ntmps37
      go_wp2_with fail
      rw [← hu]
      try rw [← hbx]
      clear hu hbx
      refine Calls.mono HBr.out ?_
      rintro e X ⟨rfl, hX, hc⟩
      have HX : Hid _ := hX
      have x0 := hc 0
      have x1 := hc 1
      have x2 := hc 2
      have x3 := hc 3
      have x4 := hc 4
      have x5 := hc 5
      have x6 := hc 6
      have x7 := hc 7
      have x8 := hc 8
      clear hX hc u0 u1 u2 u3 u4 u5 u6 u7 u8
      go_wp2_with fail
      refine (H_space.out X).mono ?_
      rintro e X2 ⟨rfl, h2⟩
      have h2 := h2.symm
      subst h2
      go_wp2
      go_ret
      exact ⟨ret_bool (by rw [HMz.out]; simp [Mo.labels, HL_space.out]), HX.out⟩

    | true =>
      rw [l_space] at H_space
      have HL_space : Hid (Mo.label space = true) := l_space
      clear l_space
      have H_channel : Hid (∀ X, Calls Try.prog 61 #[.string channel] X fun e w' => e = .returned (.bool (Mo.label channel)) ∧ w' = X) := fun X => HLb.out channel X s2
      cases l_channel : Mo.label channel with
      | false =>
        rw [l_channel] at H_channel
        have HL_channel : Hid (Mo.label channel = false) := l_channel
        clear l_channel
        clear s1 s2 s3 s4 s5 s6 HLb
        go_enter Try.func37, Try.ntmps37
        go_wp2_with fail
        rw [← hu]
        try rw [← hbx]
        clear hu hbx
        refine Calls.mono HBr.out ?_
        rintro e X ⟨rfl, hX, hc⟩
        have HX : Hid _ := hX
        have x0 := hc 0
        have x1 := hc 1
        have x2 := hc 2
        have x3 := hc 3
        have x4 := hc 4
        have x5 := hc 5
        have x6 := hc 6
        have x7 := hc 7
        have x8 := hc 8
        clear hX hc u0 u1 u2 u3 u4 u5 u6 u7 u8
        go_wp2_with fail
        refine (H_space.out X).mono ?_
        rintro e X2 ⟨rfl, h2⟩
        have h2 := h2.symm
        subst h2
        go_wp2_with fail
        refine (H_channel.out X).mono ?_
        rintro e X2 ⟨rfl, h2⟩
        have h2 := h2.symm
        subst h2
        go_wp2
        go_ret
        exact ⟨ret_bool (by rw [HMz.out]; simp [Mo.labels, HL_channel.out]), HX.out⟩

      | true =>
        rw [l_channel] at H_channel
        have HL_channel : Hid (Mo.label channel = true) := l_channel
        clear l_channel
        have H_user : Hid (∀ X, Calls Try.prog 61 #[.string user] X fun e w' => e = .returned (.bool (Mo.label user)) ∧ w' = X) := fun X => HLb.out user X s3
        cases l_user : Mo.label user with
        | false =>
          rw [l_user] at H_user
          have HL_user : Hid (Mo.label user = false) := l_user
          clear l_user
          clear s1 s2 s3 s4 s5 s6 HLb
          go_enter Try.func37, Try.ntmps37
          go_wp2_with fail
          rw [← hu]
          try rw [← hbx]
          clear hu hbx
          refine Calls.mono HBr.out ?_
          rintro e X ⟨rfl, hX, hc⟩
          have HX : Hid _ := hX
          have x0 := hc 0
          have x1 := hc 1
          have x2 := hc 2
          have x3 := hc 3
          have x4 := hc 4
          have x5 := hc 5
          have x6 := hc 6
          have x7 := hc 7
          have x8 := hc 8
          clear hX hc u0 u1 u2 u3 u4 u5 u6 u7 u8
          go_wp2_with fail
          refine (H_space.out X).mono ?_
          rintro e X2 ⟨rfl, h2⟩
          have h2 := h2.symm
          subst h2
          go_wp2_with fail
          refine (H_channel.out X).mono ?_
          rintro e X2 ⟨rfl, h2⟩
          have h2 := h2.symm
          subst h2
          go_wp2_with fail
          refine (H_user.out X).mono ?_
          rintro e X2 ⟨rfl, h2⟩
          have h2 := h2.symm
          subst h2
          go_wp2
          go_ret
          exact ⟨ret_bool (by rw [HMz.out]; simp [Mo.labels, HL_user.out]), HX.out⟩

        | true =>
          rw [l_user] at H_user
          have HL_user : Hid (Mo.label user = true) := l_user
          clear l_user
          clear s1 s2 s3 s4 s5 s6 HLb
          go_enter Try.func37, Try.ntmps37
          go_wp2_with fail
          rw [← hu]
          try rw [← hbx]
          clear hu hbx
          refine Calls.mono HBr.out ?_
          rintro e X ⟨rfl, hX, hc⟩
          have HX : Hid _ := hX
          have x0 := hc 0
          have x1 := hc 1
          have x2 := hc 2
          have x3 := hc 3
          have x4 := hc 4
          have x5 := hc 5
          have x6 := hc 6
          have x7 := hc 7
          have x8 := hc 8
          clear hX hc u0 u1 u2 u3 u4 u5 u6 u7 u8
          go_wp2_with fail
          refine (H_space.out X).mono ?_
          rintro e X2 ⟨rfl, h2⟩
          have h2 := h2.symm
          subst h2
          go_wp2_with fail
          refine (H_channel.out X).mono ?_
          rintro e X2 ⟨rfl, h2⟩
          have h2 := h2.symm
          subst h2
          go_wp2_with fail
          refine (H_user.out X).mono ?_
          rintro e X2 ⟨rfl, h2⟩
          have h2 := h2.symm
          subst h2
          go_wp2
          go_ret
          exact ⟨ret_bool (by rw [HMz.out]; simp [Mo.labels, HL_space.out, HL_channel.out, HL_user.out]), HX.out⟩

set_option maxHeartbeats 1600000 in
set_option maxRecDepth 20000 in
theorem rMay_3 (space channel user text toSpace to : ByteArray) (frm most : Int) (hsz : space.size ≤ 9223372036854775807 ∧ channel.size ≤ 9223372036854775807 ∧ user.size ≤ 9223372036854775807 ∧ text.size ≤ 9223372036854775807 ∧ toSpace.size ≤ 9223372036854775807 ∧ to.size ≤ 9223372036854775807) (w : World) : Calls Try.prog 37 #[.agg #[.int .i64 3, .string space, .string channel, .string user, .string text, .string toSpace, .string to, .int .i64 frm, .int .i64 most]] w fun e w' => e = .returned (.bool (Mo.may ⟨3, space, channel, user, text, toSpace, to, frm, most⟩)) ∧ Below w.heap.size w w' := by
  obtain ⟨s1, s2, s3, s4, s5, s6⟩ := hsz
  obtain ⟨u, hu⟩ : ∃ u, u = w.alloc (.cells #[.int .i64 3, .string space, .string channel, .string user, .string text, .string toSpace, .string to, .int .i64 frm, .int .i64 most] 32) := ⟨_, rfl⟩
  obtain ⟨bx, hbx⟩ : ∃ bx, bx = w.heap.size := ⟨_, rfl⟩
  have hbu : Below w.heap.size w u := by rw [hu]; exact below_alloc w _
  have hlx : bx < u.heap.size := by rw [hu, hbx]; simp
  have hcu : ∀ j, u.cell? ⟨bx, j, none⟩ = (#[.int .i64 3, .string space, .string channel, .string user, .string text, .string toSpace, .string to, .int .i64 frm, .int .i64 most] : Array Value)[j]? := fun j => by rw [hu, hbx]; exact World.cell?_alloc_mark w _ _ _ j
  have HBr : Hid (Calls Try.prog 60 #[.agg #[.int .i64 3, .string space, .string channel, .string user, .string text, .string toSpace, .string to, .int .i64 frm, .int .i64 most]] u fun e X => e = .returned (.agg #[.int .i64 0, .string ⟨#[]⟩, .string ⟨#[]⟩, .string ⟨#[]⟩, .string ⟨#[]⟩, .string toSpace, .string to, .int .i64 frm, .int .i64 most]) ∧ Below w.heap.size w X ∧ ∀ j, X.cell? ⟨bx, j, none⟩ = (#[.int .i64 3, .string space, .string channel, .string user, .string text, .string toSpace, .string to, .int .i64 frm, .int .i64 most] : Array Value)[j]?) := by
    refine (bare_3 space channel user text toSpace to frm most u).mono ?_
    rintro e X ⟨rfl, hX⟩
    exact ⟨rfl, hbu.trans (hX.mono hbu.size), fun j => (hX.cell (p := ⟨bx, j, none⟩) hlx).trans (hcu j)⟩
  obtain ⟨z, hz⟩ : ∃ z, z = Mo.opEq ⟨0, Mo.e0, Mo.e0, Mo.e0, Mo.e0, toSpace, to, frm, most⟩ ⟨0, Mo.e0, Mo.e0, Mo.e0, Mo.e0, Mo.e0, Mo.e0, 0, 0⟩ := ⟨_, rfl⟩
  have hne : ∀ X : World, (binOp .neq 32 (.agg #[.int .i64 0, .string ⟨#[]⟩, .string ⟨#[]⟩, .string ⟨#[]⟩, .string ⟨#[]⟩, .string toSpace, .string to, .int .i64 frm, .int .i64 most]) (.agg #[.int .i64 0, .string ⟨#[]⟩, .string ⟨#[]⟩, .string ⟨#[]⟩, .string ⟨#[]⟩, .string ⟨#[]⟩, .string ⟨#[]⟩, .int .i64 0, .int .i64 0])).run Try.prog X = .ok (.bool (!z)) X := fun X => by rw [hz]; exact run_opNe ⟨0, Mo.e0, Mo.e0, Mo.e0, Mo.e0, toSpace, to, frm, most⟩ ⟨0, Mo.e0, Mo.e0, Mo.e0, Mo.e0, Mo.e0, Mo.e0, 0, 0⟩ X
  have hzz : Mo.opEq ⟨3, space, channel, user, text, toSpace, to, frm, most⟩ ⟨3, space, channel, user, text, Mo.e0, Mo.e0, 0, 0⟩ = z := by rw [hz]; simp [Mo.opEq]
  have HMz : Hid (Mo.may ⟨3, space, channel, user, text, toSpace, to, frm, most⟩ = ((Mo.labels [space, channel, user] && Mo.postable text) && z)) := by
    show _ = _
    unfold Mo.may
    dsimp only
    rw [if_neg (by decide), if_neg (by decide), if_pos rfl, hzz]
  have HLb : Hid (∀ (s : ByteArray) (X : World), s.size ≤ 9223372036854775807 → Calls Try.prog 61 #[.string s] X fun e w' => e = .returned (.bool (Mo.label s)) ∧ w' = X) := fun s X hs => rLabel_c s hs X
  have u0 := hcu 0
  have u1 := hcu 1
  have u2 := hcu 2
  have u3 := hcu 3
  have u4 := hcu 4
  have u5 := hcu 5
  have u6 := hcu 6
  have u7 := hcu 7
  have u8 := hcu 8
  clear hz hzz hcu hlx hbu
  cases z with
  | false =>
    clear HLb s1 s2 s3 s4 s5 s6
    go_enter Try.func37, Try.ntmps37
    go_wp2_with fail
    rw [← hu]
    try rw [← hbx]
    clear hu hbx
    refine Calls.mono HBr.out ?_
    rintro e X ⟨rfl, hX, -⟩
    have HX : Hid _ := hX
    clear hX
    go_wp2
    go_ret
    exact ⟨ret_bool (by rw [HMz.out, Bool.and_false]), HX.out⟩
  | true =>
    rw [Bool.and_true] at HMz
    have H_space : Hid (∀ X, Calls Try.prog 61 #[.string space] X fun e w' => e = .returned (.bool (Mo.label space)) ∧ w' = X) := fun X => HLb.out space X s1
    cases l_space : Mo.label space with
    | false =>
      rw [l_space] at H_space
      have HL_space : Hid (Mo.label space = false) := l_space
      clear l_space
      clear s1 s2 s3 s4 s5 s6 HLb
      go_enter Try.func37, Try.ntmps37
      go_wp2_with fail
      rw [← hu]
      try rw [← hbx]
      clear hu hbx
      refine Calls.mono HBr.out ?_
      rintro e X ⟨rfl, hX, hc⟩
      have HX : Hid _ := hX
      have x0 := hc 0
      have x1 := hc 1
      have x2 := hc 2
      have x3 := hc 3
      have x4 := hc 4
      have x5 := hc 5
      have x6 := hc 6
      have x7 := hc 7
      have x8 := hc 8
      clear hX hc u0 u1 u2 u3 u4 u5 u6 u7 u8
      go_wp2_with fail
      refine (H_space.out X).mono ?_
      rintro e X2 ⟨rfl, h2⟩
      have h2 := h2.symm
      subst h2
      go_wp2
      go_ret
      exact ⟨ret_bool (by rw [HMz.out]; simp [Mo.labels, HL_space.out]), HX.out⟩

    | true =>
      rw [l_space] at H_space
      have HL_space : Hid (Mo.label space = true) := l_space
      clear l_space
      have H_channel : Hid (∀ X, Calls Try.prog 61 #[.string channel] X fun e w' => e = .returned (.bool (Mo.label channel)) ∧ w' = X) := fun X => HLb.out channel X s2
      cases l_channel : Mo.label channel with
      | false =>
        rw [l_channel] at H_channel
        have HL_channel : Hid (Mo.label channel = false) := l_channel
        clear l_channel
        clear s1 s2 s3 s4 s5 s6 HLb
        go_enter Try.func37, Try.ntmps37
        go_wp2_with fail
        rw [← hu]
        try rw [← hbx]
        clear hu hbx
        refine Calls.mono HBr.out ?_
        rintro e X ⟨rfl, hX, hc⟩
        have HX : Hid _ := hX
        have x0 := hc 0
        have x1 := hc 1
        have x2 := hc 2
        have x3 := hc 3
        have x4 := hc 4
        have x5 := hc 5
        have x6 := hc 6
        have x7 := hc 7
        have x8 := hc 8
        clear hX hc u0 u1 u2 u3 u4 u5 u6 u7 u8
        go_wp2_with fail
        refine (H_space.out X).mono ?_
        rintro e X2 ⟨rfl, h2⟩
        have h2 := h2.symm
        subst h2
        go_wp2_with fail
        refine (H_channel.out X).mono ?_
        rintro e X2 ⟨rfl, h2⟩
        have h2 := h2.symm
        subst h2
        go_wp2
        go_ret
        exact ⟨ret_bool (by rw [HMz.out]; simp [Mo.labels, HL_channel.out]), HX.out⟩

      | true =>
        rw [l_channel] at H_channel
        have HL_channel : Hid (Mo.label channel = true) := l_channel
        clear l_channel
        have H_user : Hid (∀ X, Calls Try.prog 61 #[.string user] X fun e w' => e = .returned (.bool (Mo.label user)) ∧ w' = X) := fun X => HLb.out user X s3
        cases l_user : Mo.label user with
        | false =>
          rw [l_user] at H_user
          have HL_user : Hid (Mo.label user = false) := l_user
          clear l_user
          clear s1 s2 s3 s4 s5 s6 HLb
          go_enter Try.func37, Try.ntmps37
          go_wp2_with fail
          rw [← hu]
          try rw [← hbx]
          clear hu hbx
          refine Calls.mono HBr.out ?_
          rintro e X ⟨rfl, hX, hc⟩
          have HX : Hid _ := hX
          have x0 := hc 0
          have x1 := hc 1
          have x2 := hc 2
          have x3 := hc 3
          have x4 := hc 4
          have x5 := hc 5
          have x6 := hc 6
          have x7 := hc 7
          have x8 := hc 8
          clear hX hc u0 u1 u2 u3 u4 u5 u6 u7 u8
          go_wp2_with fail
          refine (H_space.out X).mono ?_
          rintro e X2 ⟨rfl, h2⟩
          have h2 := h2.symm
          subst h2
          go_wp2_with fail
          refine (H_channel.out X).mono ?_
          rintro e X2 ⟨rfl, h2⟩
          have h2 := h2.symm
          subst h2
          go_wp2_with fail
          refine (H_user.out X).mono ?_
          rintro e X2 ⟨rfl, h2⟩
          have h2 := h2.symm
          subst h2
          go_wp2
          go_ret
          exact ⟨ret_bool (by rw [HMz.out]; simp [Mo.labels, HL_user.out]), HX.out⟩

        | true =>
          rw [l_user] at H_user
          have HL_user : Hid (Mo.label user = true) := l_user
          clear l_user
          rcases (Decidable.em (text.size ≤ 1024)).symm with t_len | t_len
          · have i_len : ¬ ((text.size : Int) ≤ 1024) := by omega
            have HT_len : Hid (¬ (text.size ≤ 1024)) := t_len
            clear t_len
            clear s1 s2 s3 s4 s5 s6 HLb
            go_enter Try.func37, Try.ntmps37
            go_wp2_with fail
            rw [← hu]
            try rw [← hbx]
            clear hu hbx
            refine Calls.mono HBr.out ?_
            rintro e X ⟨rfl, hX, hc⟩
            have HX : Hid _ := hX
            have x0 := hc 0
            have x1 := hc 1
            have x2 := hc 2
            have x3 := hc 3
            have x4 := hc 4
            have x5 := hc 5
            have x6 := hc 6
            have x7 := hc 7
            have x8 := hc 8
            clear hX hc u0 u1 u2 u3 u4 u5 u6 u7 u8
            go_wp2_with fail
            refine (H_space.out X).mono ?_
            rintro e X2 ⟨rfl, h2⟩
            have h2 := h2.symm
            subst h2
            go_wp2_with fail
            refine (H_channel.out X).mono ?_
            rintro e X2 ⟨rfl, h2⟩
            have h2 := h2.symm
            subst h2
            go_wp2_with fail
            refine (H_user.out X).mono ?_
            rintro e X2 ⟨rfl, h2⟩
            have h2 := h2.symm
            subst h2
            go_wp2
            go_ret
            exact ⟨ret_bool (by rw [HMz.out]; unfold Mo.postable; rw [decide_eq_false (show ¬ (text.size ≤ 1024) by have := HT_len.out; omega)]; simp), HX.out⟩

          · have i_len : (text.size : Int) ≤ 1024 := by omega
            have HT_len : Hid (text.size ≤ 1024) := t_len
            clear t_len
            have HVa : Hid (∀ X, Calls Try.prog 62 #[.string text] X fun e w' => e = .returned (.bool (valid text)) ∧ Below X.heap.size X w') := fun X => ref_Valid text X (by have := HT_len.out; omega)
            have HVv : Hid (valid text = M.mValid ⟨0, 0, 0⟩ text.data.toList) := rfl
            obtain ⟨vt, hvt⟩ : ∃ vt, vt = valid text := ⟨_, rfl⟩
            rw [← hvt] at HVa HVv
            clear hvt
            cases vt with
            | false =>
              clear s1 s2 s3 s4 s5 s6 HLb
              go_enter Try.func37, Try.ntmps37
              go_wp2_with fail
              rw [← hu]
              try rw [← hbx]
              clear hu hbx
              refine Calls.mono HBr.out ?_
              rintro e X ⟨rfl, hX, hc⟩
              have HX : Hid _ := hX
              have x0 := hc 0
              have x1 := hc 1
              have x2 := hc 2
              have x3 := hc 3
              have x4 := hc 4
              have x5 := hc 5
              have x6 := hc 6
              have x7 := hc 7
              have x8 := hc 8
              clear hX hc u0 u1 u2 u3 u4 u5 u6 u7 u8
              go_wp2_with fail
              refine (H_space.out X).mono ?_
              rintro e X2 ⟨rfl, h2⟩
              have h2 := h2.symm
              subst h2
              go_wp2_with fail
              refine (H_channel.out X).mono ?_
              rintro e X2 ⟨rfl, h2⟩
              have h2 := h2.symm
              subst h2
              go_wp2_with fail
              refine (H_user.out X).mono ?_
              rintro e X2 ⟨rfl, h2⟩
              have h2 := h2.symm
              subst h2
              go_wp2_with fail
              refine (HVa.out X).mono ?_
              rintro e X2 ⟨rfl, hX2⟩
              have HX2 : Hid (Below w.heap.size w X2) := HX.out.trans (hX2.mono HX.out.size)
              clear hX2
              go_wp2
              go_ret
              exact ⟨ret_bool (by rw [HMz.out]; simp [Mo.postable, ← HVv.out]), HX2.out⟩

            | true =>
              clear s1 s2 s3 s4 s5 s6 HLb
              go_enter Try.func37, Try.ntmps37
              go_wp2_with fail
              rw [← hu]
              try rw [← hbx]
              clear hu hbx
              refine Calls.mono HBr.out ?_
              rintro e X ⟨rfl, hX, hc⟩
              have HX : Hid _ := hX
              have x0 := hc 0
              have x1 := hc 1
              have x2 := hc 2
              have x3 := hc 3
              have x4 := hc 4
              have x5 := hc 5
              have x6 := hc 6
              have x7 := hc 7
              have x8 := hc 8
              clear hX hc u0 u1 u2 u3 u4 u5 u6 u7 u8
              go_wp2_with fail
              refine (H_space.out X).mono ?_
              rintro e X2 ⟨rfl, h2⟩
              have h2 := h2.symm
              subst h2
              go_wp2_with fail
              refine (H_channel.out X).mono ?_
              rintro e X2 ⟨rfl, h2⟩
              have h2 := h2.symm
              subst h2
              go_wp2_with fail
              refine (H_user.out X).mono ?_
              rintro e X2 ⟨rfl, h2⟩
              have h2 := h2.symm
              subst h2
              go_wp2_with fail
              refine (HVa.out X).mono ?_
              rintro e X2 ⟨rfl, hX2⟩
              have HX2 : Hid (Below w.heap.size w X2) := HX.out.trans (hX2.mono HX.out.size)
              clear hX2
              go_wp2
              go_ret
              exact ⟨ret_bool (by rw [HMz.out]; simp [Mo.labels, Mo.postable, HL_space.out, HL_channel.out, HL_user.out, HT_len.out, ← HVv.out]), HX2.out⟩

set_option maxHeartbeats 1600000 in
set_option maxRecDepth 20000 in
theorem rMay_4 (space channel user text toSpace to : ByteArray) (frm most : Int) (hsz : space.size ≤ 9223372036854775807 ∧ channel.size ≤ 9223372036854775807 ∧ user.size ≤ 9223372036854775807 ∧ text.size ≤ 9223372036854775807 ∧ toSpace.size ≤ 9223372036854775807 ∧ to.size ≤ 9223372036854775807) (w : World) : Calls Try.prog 37 #[.agg #[.int .i64 4, .string space, .string channel, .string user, .string text, .string toSpace, .string to, .int .i64 frm, .int .i64 most]] w fun e w' => e = .returned (.bool (Mo.may ⟨4, space, channel, user, text, toSpace, to, frm, most⟩)) ∧ Below w.heap.size w w' := by
  obtain ⟨s1, s2, s3, s4, s5, s6⟩ := hsz
  obtain ⟨u, hu⟩ : ∃ u, u = w.alloc (.cells #[.int .i64 4, .string space, .string channel, .string user, .string text, .string toSpace, .string to, .int .i64 frm, .int .i64 most] 32) := ⟨_, rfl⟩
  obtain ⟨bx, hbx⟩ : ∃ bx, bx = w.heap.size := ⟨_, rfl⟩
  have hbu : Below w.heap.size w u := by rw [hu]; exact below_alloc w _
  have hlx : bx < u.heap.size := by rw [hu, hbx]; simp
  have hcu : ∀ j, u.cell? ⟨bx, j, none⟩ = (#[.int .i64 4, .string space, .string channel, .string user, .string text, .string toSpace, .string to, .int .i64 frm, .int .i64 most] : Array Value)[j]? := fun j => by rw [hu, hbx]; exact World.cell?_alloc_mark w _ _ _ j
  have HBr : Hid (Calls Try.prog 60 #[.agg #[.int .i64 4, .string space, .string channel, .string user, .string text, .string toSpace, .string to, .int .i64 frm, .int .i64 most]] u fun e X => e = .returned (.agg #[.int .i64 0, .string ⟨#[]⟩, .string ⟨#[]⟩, .string user, .string text, .string toSpace, .string to, .int .i64 0, .int .i64 0]) ∧ Below w.heap.size w X ∧ ∀ j, X.cell? ⟨bx, j, none⟩ = (#[.int .i64 4, .string space, .string channel, .string user, .string text, .string toSpace, .string to, .int .i64 frm, .int .i64 most] : Array Value)[j]?) := by
    refine (bare_4 space channel user text toSpace to frm most u).mono ?_
    rintro e X ⟨rfl, hX⟩
    exact ⟨rfl, hbu.trans (hX.mono hbu.size), fun j => (hX.cell (p := ⟨bx, j, none⟩) hlx).trans (hcu j)⟩
  obtain ⟨z, hz⟩ : ∃ z, z = Mo.opEq ⟨0, Mo.e0, Mo.e0, user, text, toSpace, to, 0, 0⟩ ⟨0, Mo.e0, Mo.e0, Mo.e0, Mo.e0, Mo.e0, Mo.e0, 0, 0⟩ := ⟨_, rfl⟩
  have hne : ∀ X : World, (binOp .neq 32 (.agg #[.int .i64 0, .string ⟨#[]⟩, .string ⟨#[]⟩, .string user, .string text, .string toSpace, .string to, .int .i64 0, .int .i64 0]) (.agg #[.int .i64 0, .string ⟨#[]⟩, .string ⟨#[]⟩, .string ⟨#[]⟩, .string ⟨#[]⟩, .string ⟨#[]⟩, .string ⟨#[]⟩, .int .i64 0, .int .i64 0])).run Try.prog X = .ok (.bool (!z)) X := fun X => by rw [hz]; exact run_opNe ⟨0, Mo.e0, Mo.e0, user, text, toSpace, to, 0, 0⟩ ⟨0, Mo.e0, Mo.e0, Mo.e0, Mo.e0, Mo.e0, Mo.e0, 0, 0⟩ X
  have hzz : Mo.opEq ⟨4, space, channel, user, text, toSpace, to, frm, most⟩ ⟨4, space, channel, Mo.e0, Mo.e0, Mo.e0, Mo.e0, frm, most⟩ = z := by rw [hz]; simp [Mo.opEq]
  have HMz : Hid (Mo.may ⟨4, space, channel, user, text, toSpace, to, frm, most⟩ = (((Mo.labels [space, channel] && Mo.within frm 2147483647) && Mo.within most 64) && z)) := by
    show _ = _
    unfold Mo.may
    dsimp only
    rw [if_neg (by decide), if_neg (by decide), if_neg (by decide), if_pos rfl, hzz]
  have HLb : Hid (∀ (s : ByteArray) (X : World), s.size ≤ 9223372036854775807 → Calls Try.prog 61 #[.string s] X fun e w' => e = .returned (.bool (Mo.label s)) ∧ w' = X) := fun s X hs => rLabel_c s hs X
  have u0 := hcu 0
  have u1 := hcu 1
  have u2 := hcu 2
  have u3 := hcu 3
  have u4 := hcu 4
  have u5 := hcu 5
  have u6 := hcu 6
  have u7 := hcu 7
  have u8 := hcu 8
  clear hz hzz hcu hlx hbu
  cases z with
  | false =>
    clear HLb s1 s2 s3 s4 s5 s6
    go_enter Try.func37, Try.ntmps37
    go_wp2_with fail
    rw [← hu]
    try rw [← hbx]
    clear hu hbx
    refine Calls.mono HBr.out ?_
    rintro e X ⟨rfl, hX, -⟩
    have HX : Hid _ := hX
    clear hX
    go_wp2
    go_ret
    exact ⟨ret_bool (by rw [HMz.out, Bool.and_false]), HX.out⟩
  | true =>
    rw [Bool.and_true] at HMz
    have H_space : Hid (∀ X, Calls Try.prog 61 #[.string space] X fun e w' => e = .returned (.bool (Mo.label space)) ∧ w' = X) := fun X => HLb.out space X s1
    cases l_space : Mo.label space with
    | false =>
      rw [l_space] at H_space
      have HL_space : Hid (Mo.label space = false) := l_space
      clear l_space
      clear s1 s2 s3 s4 s5 s6 HLb
      go_enter Try.func37, Try.ntmps37
      go_wp2_with fail
      rw [← hu]
      try rw [← hbx]
      clear hu hbx
      refine Calls.mono HBr.out ?_
      rintro e X ⟨rfl, hX, hc⟩
      have HX : Hid _ := hX
      have x0 := hc 0
      have x1 := hc 1
      have x2 := hc 2
      have x3 := hc 3
      have x4 := hc 4
      have x5 := hc 5
      have x6 := hc 6
      have x7 := hc 7
      have x8 := hc 8
      clear hX hc u0 u1 u2 u3 u4 u5 u6 u7 u8
      go_wp2_with fail
      refine (H_space.out X).mono ?_
      rintro e X2 ⟨rfl, h2⟩
      have h2 := h2.symm
      subst h2
      go_wp2
      go_ret
      exact ⟨ret_bool (by rw [HMz.out]; simp [Mo.labels, HL_space.out]), HX.out⟩

    | true =>
      rw [l_space] at H_space
      have HL_space : Hid (Mo.label space = true) := l_space
      clear l_space
      have H_channel : Hid (∀ X, Calls Try.prog 61 #[.string channel] X fun e w' => e = .returned (.bool (Mo.label channel)) ∧ w' = X) := fun X => HLb.out channel X s2
      cases l_channel : Mo.label channel with
      | false =>
        rw [l_channel] at H_channel
        have HL_channel : Hid (Mo.label channel = false) := l_channel
        clear l_channel
        clear s1 s2 s3 s4 s5 s6 HLb
        go_enter Try.func37, Try.ntmps37
        go_wp2_with fail
        rw [← hu]
        try rw [← hbx]
        clear hu hbx
        refine Calls.mono HBr.out ?_
        rintro e X ⟨rfl, hX, hc⟩
        have HX : Hid _ := hX
        have x0 := hc 0
        have x1 := hc 1
        have x2 := hc 2
        have x3 := hc 3
        have x4 := hc 4
        have x5 := hc 5
        have x6 := hc 6
        have x7 := hc 7
        have x8 := hc 8
        clear hX hc u0 u1 u2 u3 u4 u5 u6 u7 u8
        go_wp2_with fail
        refine (H_space.out X).mono ?_
        rintro e X2 ⟨rfl, h2⟩
        have h2 := h2.symm
        subst h2
        go_wp2_with fail
        refine (H_channel.out X).mono ?_
        rintro e X2 ⟨rfl, h2⟩
        have h2 := h2.symm
        subst h2
        go_wp2
        go_ret
        exact ⟨ret_bool (by rw [HMz.out]; simp [Mo.labels, HL_channel.out]), HX.out⟩

      | true =>
        rw [l_channel] at H_channel
        have HL_channel : Hid (Mo.label channel = true) := l_channel
        clear l_channel
        rcases (Decidable.em (0 ≤ frm)).symm with t_f0 | t_f0
        · have i_f0 : ¬ (frm ≥ 0) := by omega
          have HT_f0 : Hid (¬ (0 ≤ frm)) := t_f0
          clear t_f0
          clear s1 s2 s3 s4 s5 s6 HLb
          go_enter Try.func37, Try.ntmps37
          go_wp2_with fail
          rw [← hu]
          try rw [← hbx]
          clear hu hbx
          refine Calls.mono HBr.out ?_
          rintro e X ⟨rfl, hX, hc⟩
          have HX : Hid _ := hX
          have x0 := hc 0
          have x1 := hc 1
          have x2 := hc 2
          have x3 := hc 3
          have x4 := hc 4
          have x5 := hc 5
          have x6 := hc 6
          have x7 := hc 7
          have x8 := hc 8
          clear hX hc u0 u1 u2 u3 u4 u5 u6 u7 u8
          go_wp2_with fail
          refine (H_space.out X).mono ?_
          rintro e X2 ⟨rfl, h2⟩
          have h2 := h2.symm
          subst h2
          go_wp2_with fail
          refine (H_channel.out X).mono ?_
          rintro e X2 ⟨rfl, h2⟩
          have h2 := h2.symm
          subst h2
          go_wp2
          go_ret
          exact ⟨ret_bool (by rw [HMz.out]; unfold Mo.within; rw [decide_eq_false (show ¬ (0 ≤ frm) by have := HT_f0.out; omega)]; simp), HX.out⟩

        · have i_f0 : frm ≥ 0 := by omega
          have HT_f0 : Hid (0 ≤ frm) := t_f0
          clear t_f0
          rcases (Decidable.em (frm ≤ 2147483647)).symm with t_f1 | t_f1
          · have i_f1 : ¬ (frm ≤ 2147483647) := by omega
            have HT_f1 : Hid (¬ (frm ≤ 2147483647)) := t_f1
            clear t_f1
            clear s1 s2 s3 s4 s5 s6 HLb
            go_enter Try.func37, Try.ntmps37
            go_wp2_with fail
            rw [← hu]
            try rw [← hbx]
            clear hu hbx
            refine Calls.mono HBr.out ?_
            rintro e X ⟨rfl, hX, hc⟩
            have HX : Hid _ := hX
            have x0 := hc 0
            have x1 := hc 1
            have x2 := hc 2
            have x3 := hc 3
            have x4 := hc 4
            have x5 := hc 5
            have x6 := hc 6
            have x7 := hc 7
            have x8 := hc 8
            clear hX hc u0 u1 u2 u3 u4 u5 u6 u7 u8
            go_wp2_with fail
            refine (H_space.out X).mono ?_
            rintro e X2 ⟨rfl, h2⟩
            have h2 := h2.symm
            subst h2
            go_wp2_with fail
            refine (H_channel.out X).mono ?_
            rintro e X2 ⟨rfl, h2⟩
            have h2 := h2.symm
            subst h2
            go_wp2
            go_ret
            exact ⟨ret_bool (by rw [HMz.out]; unfold Mo.within; rw [decide_eq_false (show ¬ (frm ≤ 2147483647) by have := HT_f1.out; omega)]; simp), HX.out⟩

          · have i_f1 : frm ≤ 2147483647 := by omega
            have HT_f1 : Hid (frm ≤ 2147483647) := t_f1
            clear t_f1
            rcases (Decidable.em (0 ≤ most)).symm with t_m0 | t_m0
            · have i_m0 : ¬ (most ≥ 0) := by omega
              have HT_m0 : Hid (¬ (0 ≤ most)) := t_m0
              clear t_m0
              clear s1 s2 s3 s4 s5 s6 HLb
              go_enter Try.func37, Try.ntmps37
              go_wp2_with fail
              rw [← hu]
              try rw [← hbx]
              clear hu hbx
              refine Calls.mono HBr.out ?_
              rintro e X ⟨rfl, hX, hc⟩
              have HX : Hid _ := hX
              have x0 := hc 0
              have x1 := hc 1
              have x2 := hc 2
              have x3 := hc 3
              have x4 := hc 4
              have x5 := hc 5
              have x6 := hc 6
              have x7 := hc 7
              have x8 := hc 8
              clear hX hc u0 u1 u2 u3 u4 u5 u6 u7 u8
              go_wp2_with fail
              refine (H_space.out X).mono ?_
              rintro e X2 ⟨rfl, h2⟩
              have h2 := h2.symm
              subst h2
              go_wp2_with fail
              refine (H_channel.out X).mono ?_
              rintro e X2 ⟨rfl, h2⟩
              have h2 := h2.symm
              subst h2
              go_wp2
              go_ret
              exact ⟨ret_bool (by rw [HMz.out]; unfold Mo.within; rw [decide_eq_false (show ¬ (0 ≤ most) by have := HT_m0.out; omega)]; simp), HX.out⟩

            · have i_m0 : most ≥ 0 := by omega
              have HT_m0 : Hid (0 ≤ most) := t_m0
              clear t_m0
              rcases (Decidable.em (most ≤ 64)).symm with t_m1 | t_m1
              · have i_m1 : ¬ (most ≤ 64) := by omega
                have HT_m1 : Hid (¬ (most ≤ 64)) := t_m1
                clear t_m1
                clear s1 s2 s3 s4 s5 s6 HLb
                go_enter Try.func37, Try.ntmps37
                go_wp2_with fail
                rw [← hu]
                try rw [← hbx]
                clear hu hbx
                refine Calls.mono HBr.out ?_
                rintro e X ⟨rfl, hX, hc⟩
                have HX : Hid _ := hX
                have x0 := hc 0
                have x1 := hc 1
                have x2 := hc 2
                have x3 := hc 3
                have x4 := hc 4
                have x5 := hc 5
                have x6 := hc 6
                have x7 := hc 7
                have x8 := hc 8
                clear hX hc u0 u1 u2 u3 u4 u5 u6 u7 u8
                go_wp2_with fail
                refine (H_space.out X).mono ?_
                rintro e X2 ⟨rfl, h2⟩
                have h2 := h2.symm
                subst h2
                go_wp2_with fail
                refine (H_channel.out X).mono ?_
                rintro e X2 ⟨rfl, h2⟩
                have h2 := h2.symm
                subst h2
                go_wp2
                go_ret
                exact ⟨ret_bool (by rw [HMz.out]; unfold Mo.within; rw [decide_eq_false (show ¬ (most ≤ 64) by have := HT_m1.out; omega)]; simp), HX.out⟩

              · have i_m1 : most ≤ 64 := by omega
                have HT_m1 : Hid (most ≤ 64) := t_m1
                clear t_m1
                clear s1 s2 s3 s4 s5 s6 HLb
                go_enter Try.func37, Try.ntmps37
                go_wp2_with fail
                rw [← hu]
                try rw [← hbx]
                clear hu hbx
                refine Calls.mono HBr.out ?_
                rintro e X ⟨rfl, hX, hc⟩
                have HX : Hid _ := hX
                have x0 := hc 0
                have x1 := hc 1
                have x2 := hc 2
                have x3 := hc 3
                have x4 := hc 4
                have x5 := hc 5
                have x6 := hc 6
                have x7 := hc 7
                have x8 := hc 8
                clear hX hc u0 u1 u2 u3 u4 u5 u6 u7 u8
                go_wp2_with fail
                refine (H_space.out X).mono ?_
                rintro e X2 ⟨rfl, h2⟩
                have h2 := h2.symm
                subst h2
                go_wp2_with fail
                refine (H_channel.out X).mono ?_
                rintro e X2 ⟨rfl, h2⟩
                have h2 := h2.symm
                subst h2
                go_wp2
                go_ret
                exact ⟨ret_bool (by rw [HMz.out]; simp [Mo.labels, Mo.within, HL_space.out, HL_channel.out, HT_f0.out, HT_f1.out, HT_m0.out, HT_m1.out]), HX.out⟩

set_option maxHeartbeats 1600000 in
set_option maxRecDepth 20000 in
theorem rMay_5 (space channel user text toSpace to : ByteArray) (frm most : Int) (hsz : space.size ≤ 9223372036854775807 ∧ channel.size ≤ 9223372036854775807 ∧ user.size ≤ 9223372036854775807 ∧ text.size ≤ 9223372036854775807 ∧ toSpace.size ≤ 9223372036854775807 ∧ to.size ≤ 9223372036854775807) (w : World) : Calls Try.prog 37 #[.agg #[.int .i64 5, .string space, .string channel, .string user, .string text, .string toSpace, .string to, .int .i64 frm, .int .i64 most]] w fun e w' => e = .returned (.bool (Mo.may ⟨5, space, channel, user, text, toSpace, to, frm, most⟩)) ∧ Below w.heap.size w w' := by
  obtain ⟨s1, s2, s3, s4, s5, s6⟩ := hsz
  obtain ⟨u, hu⟩ : ∃ u, u = w.alloc (.cells #[.int .i64 5, .string space, .string channel, .string user, .string text, .string toSpace, .string to, .int .i64 frm, .int .i64 most] 32) := ⟨_, rfl⟩
  obtain ⟨bx, hbx⟩ : ∃ bx, bx = w.heap.size := ⟨_, rfl⟩
  have hbu : Below w.heap.size w u := by rw [hu]; exact below_alloc w _
  have hlx : bx < u.heap.size := by rw [hu, hbx]; simp
  have hcu : ∀ j, u.cell? ⟨bx, j, none⟩ = (#[.int .i64 5, .string space, .string channel, .string user, .string text, .string toSpace, .string to, .int .i64 frm, .int .i64 most] : Array Value)[j]? := fun j => by rw [hu, hbx]; exact World.cell?_alloc_mark w _ _ _ j
  have HBr : Hid (Calls Try.prog 60 #[.agg #[.int .i64 5, .string space, .string channel, .string user, .string text, .string toSpace, .string to, .int .i64 frm, .int .i64 most]] u fun e X => e = .returned (.agg #[.int .i64 0, .string ⟨#[]⟩, .string ⟨#[]⟩, .string user, .string text, .string ⟨#[]⟩, .string ⟨#[]⟩, .int .i64 frm, .int .i64 most]) ∧ Below w.heap.size w X ∧ ∀ j, X.cell? ⟨bx, j, none⟩ = (#[.int .i64 5, .string space, .string channel, .string user, .string text, .string toSpace, .string to, .int .i64 frm, .int .i64 most] : Array Value)[j]?) := by
    refine (bare_5 space channel user text toSpace to frm most u).mono ?_
    rintro e X ⟨rfl, hX⟩
    exact ⟨rfl, hbu.trans (hX.mono hbu.size), fun j => (hX.cell (p := ⟨bx, j, none⟩) hlx).trans (hcu j)⟩
  obtain ⟨z, hz⟩ : ∃ z, z = Mo.opEq ⟨0, Mo.e0, Mo.e0, user, text, Mo.e0, Mo.e0, frm, most⟩ ⟨0, Mo.e0, Mo.e0, Mo.e0, Mo.e0, Mo.e0, Mo.e0, 0, 0⟩ := ⟨_, rfl⟩
  have hne : ∀ X : World, (binOp .neq 32 (.agg #[.int .i64 0, .string ⟨#[]⟩, .string ⟨#[]⟩, .string user, .string text, .string ⟨#[]⟩, .string ⟨#[]⟩, .int .i64 frm, .int .i64 most]) (.agg #[.int .i64 0, .string ⟨#[]⟩, .string ⟨#[]⟩, .string ⟨#[]⟩, .string ⟨#[]⟩, .string ⟨#[]⟩, .string ⟨#[]⟩, .int .i64 0, .int .i64 0])).run Try.prog X = .ok (.bool (!z)) X := fun X => by rw [hz]; exact run_opNe ⟨0, Mo.e0, Mo.e0, user, text, Mo.e0, Mo.e0, frm, most⟩ ⟨0, Mo.e0, Mo.e0, Mo.e0, Mo.e0, Mo.e0, Mo.e0, 0, 0⟩ X
  have hzz : Mo.opEq ⟨5, space, channel, user, text, toSpace, to, frm, most⟩ ⟨5, space, channel, Mo.e0, Mo.e0, toSpace, to, 0, 0⟩ = z := by rw [hz]; simp [Mo.opEq]
  have HMz : Hid (Mo.may ⟨5, space, channel, user, text, toSpace, to, frm, most⟩ = (Mo.labels [space, channel, toSpace, to] && z)) := by
    show _ = _
    unfold Mo.may
    dsimp only
    rw [if_neg (by decide), if_neg (by decide), if_neg (by decide), if_neg (by decide), if_pos rfl, hzz]
  have HLb : Hid (∀ (s : ByteArray) (X : World), s.size ≤ 9223372036854775807 → Calls Try.prog 61 #[.string s] X fun e w' => e = .returned (.bool (Mo.label s)) ∧ w' = X) := fun s X hs => rLabel_c s hs X
  have u0 := hcu 0
  have u1 := hcu 1
  have u2 := hcu 2
  have u3 := hcu 3
  have u4 := hcu 4
  have u5 := hcu 5
  have u6 := hcu 6
  have u7 := hcu 7
  have u8 := hcu 8
  clear hz hzz hcu hlx hbu
  cases z with
  | false =>
    clear HLb s1 s2 s3 s4 s5 s6
    go_enter Try.func37, Try.ntmps37
    go_wp2_with fail
    rw [← hu]
    try rw [← hbx]
    clear hu hbx
    refine Calls.mono HBr.out ?_
    rintro e X ⟨rfl, hX, -⟩
    have HX : Hid _ := hX
    clear hX
    go_wp2
    go_ret
    exact ⟨ret_bool (by rw [HMz.out, Bool.and_false]), HX.out⟩
  | true =>
    rw [Bool.and_true] at HMz
    have H_space : Hid (∀ X, Calls Try.prog 61 #[.string space] X fun e w' => e = .returned (.bool (Mo.label space)) ∧ w' = X) := fun X => HLb.out space X s1
    cases l_space : Mo.label space with
    | false =>
      rw [l_space] at H_space
      have HL_space : Hid (Mo.label space = false) := l_space
      clear l_space
      clear s1 s2 s3 s4 s5 s6 HLb
      go_enter Try.func37, Try.ntmps37
      go_wp2_with fail
      rw [← hu]
      try rw [← hbx]
      clear hu hbx
      refine Calls.mono HBr.out ?_
      rintro e X ⟨rfl, hX, hc⟩
      have HX : Hid _ := hX
      have x0 := hc 0
      have x1 := hc 1
      have x2 := hc 2
      have x3 := hc 3
      have x4 := hc 4
      have x5 := hc 5
      have x6 := hc 6
      have x7 := hc 7
      have x8 := hc 8
      clear hX hc u0 u1 u2 u3 u4 u5 u6 u7 u8
      go_wp2_with fail
      refine (H_space.out X).mono ?_
      rintro e X2 ⟨rfl, h2⟩
      have h2 := h2.symm
      subst h2
      go_wp2
      go_ret
      exact ⟨ret_bool (by rw [HMz.out]; simp [Mo.labels, HL_space.out]), HX.out⟩

    | true =>
      rw [l_space] at H_space
      have HL_space : Hid (Mo.label space = true) := l_space
      clear l_space
      have H_channel : Hid (∀ X, Calls Try.prog 61 #[.string channel] X fun e w' => e = .returned (.bool (Mo.label channel)) ∧ w' = X) := fun X => HLb.out channel X s2
      cases l_channel : Mo.label channel with
      | false =>
        rw [l_channel] at H_channel
        have HL_channel : Hid (Mo.label channel = false) := l_channel
        clear l_channel
        clear s1 s2 s3 s4 s5 s6 HLb
        go_enter Try.func37, Try.ntmps37
        go_wp2_with fail
        rw [← hu]
        try rw [← hbx]
        clear hu hbx
        refine Calls.mono HBr.out ?_
        rintro e X ⟨rfl, hX, hc⟩
        have HX : Hid _ := hX
        have x0 := hc 0
        have x1 := hc 1
        have x2 := hc 2
        have x3 := hc 3
        have x4 := hc 4
        have x5 := hc 5
        have x6 := hc 6
        have x7 := hc 7
        have x8 := hc 8
        clear hX hc u0 u1 u2 u3 u4 u5 u6 u7 u8
        go_wp2_with fail
        refine (H_space.out X).mono ?_
        rintro e X2 ⟨rfl, h2⟩
        have h2 := h2.symm
        subst h2
        go_wp2_with fail
        refine (H_channel.out X).mono ?_
        rintro e X2 ⟨rfl, h2⟩
        have h2 := h2.symm
        subst h2
        go_wp2
        go_ret
        exact ⟨ret_bool (by rw [HMz.out]; simp [Mo.labels, HL_channel.out]), HX.out⟩

      | true =>
        rw [l_channel] at H_channel
        have HL_channel : Hid (Mo.label channel = true) := l_channel
        clear l_channel
        have H_toSpace : Hid (∀ X, Calls Try.prog 61 #[.string toSpace] X fun e w' => e = .returned (.bool (Mo.label toSpace)) ∧ w' = X) := fun X => HLb.out toSpace X s5
        cases l_toSpace : Mo.label toSpace with
        | false =>
          rw [l_toSpace] at H_toSpace
          have HL_toSpace : Hid (Mo.label toSpace = false) := l_toSpace
          clear l_toSpace
          clear s1 s2 s3 s4 s5 s6 HLb
          go_enter Try.func37, Try.ntmps37
          go_wp2_with fail
          rw [← hu]
          try rw [← hbx]
          clear hu hbx
          refine Calls.mono HBr.out ?_
          rintro e X ⟨rfl, hX, hc⟩
          have HX : Hid _ := hX
          have x0 := hc 0
          have x1 := hc 1
          have x2 := hc 2
          have x3 := hc 3
          have x4 := hc 4
          have x5 := hc 5
          have x6 := hc 6
          have x7 := hc 7
          have x8 := hc 8
          clear hX hc u0 u1 u2 u3 u4 u5 u6 u7 u8
          go_wp2_with fail
          refine (H_space.out X).mono ?_
          rintro e X2 ⟨rfl, h2⟩
          have h2 := h2.symm
          subst h2
          go_wp2_with fail
          refine (H_channel.out X).mono ?_
          rintro e X2 ⟨rfl, h2⟩
          have h2 := h2.symm
          subst h2
          go_wp2_with fail
          refine (H_toSpace.out X).mono ?_
          rintro e X2 ⟨rfl, h2⟩
          have h2 := h2.symm
          subst h2
          go_wp2
          go_ret
          exact ⟨ret_bool (by rw [HMz.out]; simp [Mo.labels, HL_toSpace.out]), HX.out⟩

        | true =>
          rw [l_toSpace] at H_toSpace
          have HL_toSpace : Hid (Mo.label toSpace = true) := l_toSpace
          clear l_toSpace
          have H_to : Hid (∀ X, Calls Try.prog 61 #[.string to] X fun e w' => e = .returned (.bool (Mo.label to)) ∧ w' = X) := fun X => HLb.out to X s6
          cases l_to : Mo.label to with
          | false =>
            rw [l_to] at H_to
            have HL_to : Hid (Mo.label to = false) := l_to
            clear l_to
            clear s1 s2 s3 s4 s5 s6 HLb
            go_enter Try.func37, Try.ntmps37
            go_wp2_with fail
            rw [← hu]
            try rw [← hbx]
            clear hu hbx
            refine Calls.mono HBr.out ?_
            rintro e X ⟨rfl, hX, hc⟩
            have HX : Hid _ := hX
            have x0 := hc 0
            have x1 := hc 1
            have x2 := hc 2
            have x3 := hc 3
            have x4 := hc 4
            have x5 := hc 5
            have x6 := hc 6
            have x7 := hc 7
            have x8 := hc 8
            clear hX hc u0 u1 u2 u3 u4 u5 u6 u7 u8
            go_wp2_with fail
            refine (H_space.out X).mono ?_
            rintro e X2 ⟨rfl, h2⟩
            have h2 := h2.symm
            subst h2
            go_wp2_with fail
            refine (H_channel.out X).mono ?_
            rintro e X2 ⟨rfl, h2⟩
            have h2 := h2.symm
            subst h2
            go_wp2_with fail
            refine (H_toSpace.out X).mono ?_
            rintro e X2 ⟨rfl, h2⟩
            have h2 := h2.symm
            subst h2
            go_wp2_with fail
            refine (H_to.out X).mono ?_
            rintro e X2 ⟨rfl, h2⟩
            have h2 := h2.symm
            subst h2
            go_wp2
            go_ret
            exact ⟨ret_bool (by rw [HMz.out]; simp [Mo.labels, HL_to.out]), HX.out⟩

          | true =>
            rw [l_to] at H_to
            have HL_to : Hid (Mo.label to = true) := l_to
            clear l_to
            clear s1 s2 s3 s4 s5 s6 HLb
            go_enter Try.func37, Try.ntmps37
            go_wp2_with fail
            rw [← hu]
            try rw [← hbx]
            clear hu hbx
            refine Calls.mono HBr.out ?_
            rintro e X ⟨rfl, hX, hc⟩
            have HX : Hid _ := hX
            have x0 := hc 0
            have x1 := hc 1
            have x2 := hc 2
            have x3 := hc 3
            have x4 := hc 4
            have x5 := hc 5
            have x6 := hc 6
            have x7 := hc 7
            have x8 := hc 8
            clear hX hc u0 u1 u2 u3 u4 u5 u6 u7 u8
            go_wp2_with fail
            refine (H_space.out X).mono ?_
            rintro e X2 ⟨rfl, h2⟩
            have h2 := h2.symm
            subst h2
            go_wp2_with fail
            refine (H_channel.out X).mono ?_
            rintro e X2 ⟨rfl, h2⟩
            have h2 := h2.symm
            subst h2
            go_wp2_with fail
            refine (H_toSpace.out X).mono ?_
            rintro e X2 ⟨rfl, h2⟩
            have h2 := h2.symm
            subst h2
            go_wp2_with fail
            refine (H_to.out X).mono ?_
            rintro e X2 ⟨rfl, h2⟩
            have h2 := h2.symm
            subst h2
            go_wp2
            go_ret
            exact ⟨ret_bool (by rw [HMz.out]; simp [Mo.labels, HL_space.out, HL_channel.out, HL_toSpace.out, HL_to.out]), HX.out⟩

set_option maxHeartbeats 1600000 in
set_option maxRecDepth 20000 in
theorem rMay_6 (space channel user text toSpace to : ByteArray) (frm most : Int) (hsz : space.size ≤ 9223372036854775807 ∧ channel.size ≤ 9223372036854775807 ∧ user.size ≤ 9223372036854775807 ∧ text.size ≤ 9223372036854775807 ∧ toSpace.size ≤ 9223372036854775807 ∧ to.size ≤ 9223372036854775807) (w : World) : Calls Try.prog 37 #[.agg #[.int .i64 6, .string space, .string channel, .string user, .string text, .string toSpace, .string to, .int .i64 frm, .int .i64 most]] w fun e w' => e = .returned (.bool (Mo.may ⟨6, space, channel, user, text, toSpace, to, frm, most⟩)) ∧ Below w.heap.size w w' := by
  obtain ⟨s1, s2, s3, s4, s5, s6⟩ := hsz
  obtain ⟨u, hu⟩ : ∃ u, u = w.alloc (.cells #[.int .i64 6, .string space, .string channel, .string user, .string text, .string toSpace, .string to, .int .i64 frm, .int .i64 most] 32) := ⟨_, rfl⟩
  obtain ⟨bx, hbx⟩ : ∃ bx, bx = w.heap.size := ⟨_, rfl⟩
  have hbu : Below w.heap.size w u := by rw [hu]; exact below_alloc w _
  have hlx : bx < u.heap.size := by rw [hu, hbx]; simp
  have hcu : ∀ j, u.cell? ⟨bx, j, none⟩ = (#[.int .i64 6, .string space, .string channel, .string user, .string text, .string toSpace, .string to, .int .i64 frm, .int .i64 most] : Array Value)[j]? := fun j => by rw [hu, hbx]; exact World.cell?_alloc_mark w _ _ _ j
  have HBr : Hid (Calls Try.prog 60 #[.agg #[.int .i64 6, .string space, .string channel, .string user, .string text, .string toSpace, .string to, .int .i64 frm, .int .i64 most]] u fun e X => e = .returned (.agg #[.int .i64 0, .string ⟨#[]⟩, .string channel, .string user, .string text, .string toSpace, .string to, .int .i64 frm, .int .i64 most]) ∧ Below w.heap.size w X ∧ ∀ j, X.cell? ⟨bx, j, none⟩ = (#[.int .i64 6, .string space, .string channel, .string user, .string text, .string toSpace, .string to, .int .i64 frm, .int .i64 most] : Array Value)[j]?) := by
    refine (bare_6 space channel user text toSpace to frm most u).mono ?_
    rintro e X ⟨rfl, hX⟩
    exact ⟨rfl, hbu.trans (hX.mono hbu.size), fun j => (hX.cell (p := ⟨bx, j, none⟩) hlx).trans (hcu j)⟩
  obtain ⟨z, hz⟩ : ∃ z, z = Mo.opEq ⟨0, Mo.e0, channel, user, text, toSpace, to, frm, most⟩ ⟨0, Mo.e0, Mo.e0, Mo.e0, Mo.e0, Mo.e0, Mo.e0, 0, 0⟩ := ⟨_, rfl⟩
  have hne : ∀ X : World, (binOp .neq 32 (.agg #[.int .i64 0, .string ⟨#[]⟩, .string channel, .string user, .string text, .string toSpace, .string to, .int .i64 frm, .int .i64 most]) (.agg #[.int .i64 0, .string ⟨#[]⟩, .string ⟨#[]⟩, .string ⟨#[]⟩, .string ⟨#[]⟩, .string ⟨#[]⟩, .string ⟨#[]⟩, .int .i64 0, .int .i64 0])).run Try.prog X = .ok (.bool (!z)) X := fun X => by rw [hz]; exact run_opNe ⟨0, Mo.e0, channel, user, text, toSpace, to, frm, most⟩ ⟨0, Mo.e0, Mo.e0, Mo.e0, Mo.e0, Mo.e0, Mo.e0, 0, 0⟩ X
  have hzz : Mo.opEq ⟨6, space, channel, user, text, toSpace, to, frm, most⟩ ⟨6, space, Mo.e0, Mo.e0, Mo.e0, Mo.e0, Mo.e0, 0, 0⟩ = z := by rw [hz]; simp [Mo.opEq]
  have HMz : Hid (Mo.may ⟨6, space, channel, user, text, toSpace, to, frm, most⟩ = (Mo.labels [space] && z)) := by
    show _ = _
    unfold Mo.may
    dsimp only
    rw [if_neg (by decide), if_neg (by decide), if_neg (by decide), if_neg (by decide), if_neg (by decide), if_pos rfl, hzz]
  have HLb : Hid (∀ (s : ByteArray) (X : World), s.size ≤ 9223372036854775807 → Calls Try.prog 61 #[.string s] X fun e w' => e = .returned (.bool (Mo.label s)) ∧ w' = X) := fun s X hs => rLabel_c s hs X
  have u0 := hcu 0
  have u1 := hcu 1
  have u2 := hcu 2
  have u3 := hcu 3
  have u4 := hcu 4
  have u5 := hcu 5
  have u6 := hcu 6
  have u7 := hcu 7
  have u8 := hcu 8
  clear hz hzz hcu hlx hbu
  cases z with
  | false =>
    clear HLb s1 s2 s3 s4 s5 s6
    go_enter Try.func37, Try.ntmps37
    go_wp2_with fail
    rw [← hu]
    try rw [← hbx]
    clear hu hbx
    refine Calls.mono HBr.out ?_
    rintro e X ⟨rfl, hX, -⟩
    have HX : Hid _ := hX
    clear hX
    go_wp2
    go_ret
    exact ⟨ret_bool (by rw [HMz.out, Bool.and_false]), HX.out⟩
  | true =>
    rw [Bool.and_true] at HMz
    have H_space : Hid (∀ X, Calls Try.prog 61 #[.string space] X fun e w' => e = .returned (.bool (Mo.label space)) ∧ w' = X) := fun X => HLb.out space X s1
    cases l_space : Mo.label space with
    | false =>
      rw [l_space] at H_space
      have HL_space : Hid (Mo.label space = false) := l_space
      clear l_space
      clear s1 s2 s3 s4 s5 s6 HLb
      go_enter Try.func37, Try.ntmps37
      go_wp2_with fail
      rw [← hu]
      try rw [← hbx]
      clear hu hbx
      refine Calls.mono HBr.out ?_
      rintro e X ⟨rfl, hX, hc⟩
      have HX : Hid _ := hX
      have x0 := hc 0
      have x1 := hc 1
      have x2 := hc 2
      have x3 := hc 3
      have x4 := hc 4
      have x5 := hc 5
      have x6 := hc 6
      have x7 := hc 7
      have x8 := hc 8
      clear hX hc u0 u1 u2 u3 u4 u5 u6 u7 u8
      go_wp2_with fail
      refine (H_space.out X).mono ?_
      rintro e X2 ⟨rfl, h2⟩
      have h2 := h2.symm
      subst h2
      go_wp2
      go_ret
      exact ⟨ret_bool (by rw [HMz.out]; simp [Mo.labels, HL_space.out]), HX.out⟩

    | true =>
      rw [l_space] at H_space
      have HL_space : Hid (Mo.label space = true) := l_space
      clear l_space
      clear s1 s2 s3 s4 s5 s6 HLb
      go_enter Try.func37, Try.ntmps37
      go_wp2_with fail
      rw [← hu]
      try rw [← hbx]
      clear hu hbx
      refine Calls.mono HBr.out ?_
      rintro e X ⟨rfl, hX, hc⟩
      have HX : Hid _ := hX
      have x0 := hc 0
      have x1 := hc 1
      have x2 := hc 2
      have x3 := hc 3
      have x4 := hc 4
      have x5 := hc 5
      have x6 := hc 6
      have x7 := hc 7
      have x8 := hc 8
      clear hX hc u0 u1 u2 u3 u4 u5 u6 u7 u8
      go_wp2_with fail
      refine (H_space.out X).mono ?_
      rintro e X2 ⟨rfl, h2⟩
      have h2 := h2.symm
      subst h2
      go_wp2
      go_ret
      exact ⟨ret_bool (by rw [HMz.out]; simp [Mo.labels, HL_space.out]), HX.out⟩

set_option maxHeartbeats 1600000 in
set_option maxRecDepth 20000 in
theorem rMay_7 (space channel user text toSpace to : ByteArray) (frm most : Int) (hsz : space.size ≤ 9223372036854775807 ∧ channel.size ≤ 9223372036854775807 ∧ user.size ≤ 9223372036854775807 ∧ text.size ≤ 9223372036854775807 ∧ toSpace.size ≤ 9223372036854775807 ∧ to.size ≤ 9223372036854775807) (w : World) : Calls Try.prog 37 #[.agg #[.int .i64 7, .string space, .string channel, .string user, .string text, .string toSpace, .string to, .int .i64 frm, .int .i64 most]] w fun e w' => e = .returned (.bool (Mo.may ⟨7, space, channel, user, text, toSpace, to, frm, most⟩)) ∧ Below w.heap.size w w' := by
  obtain ⟨s1, s2, s3, s4, s5, s6⟩ := hsz
  obtain ⟨u, hu⟩ : ∃ u, u = w.alloc (.cells #[.int .i64 7, .string space, .string channel, .string user, .string text, .string toSpace, .string to, .int .i64 frm, .int .i64 most] 32) := ⟨_, rfl⟩
  obtain ⟨bx, hbx⟩ : ∃ bx, bx = w.heap.size := ⟨_, rfl⟩
  have hbu : Below w.heap.size w u := by rw [hu]; exact below_alloc w _
  have hlx : bx < u.heap.size := by rw [hu, hbx]; simp
  have hcu : ∀ j, u.cell? ⟨bx, j, none⟩ = (#[.int .i64 7, .string space, .string channel, .string user, .string text, .string toSpace, .string to, .int .i64 frm, .int .i64 most] : Array Value)[j]? := fun j => by rw [hu, hbx]; exact World.cell?_alloc_mark w _ _ _ j
  have HBr : Hid (Calls Try.prog 60 #[.agg #[.int .i64 7, .string space, .string channel, .string user, .string text, .string toSpace, .string to, .int .i64 frm, .int .i64 most]] u fun e X => e = .returned (.agg #[.int .i64 0, .string space, .string channel, .string ⟨#[]⟩, .string text, .string toSpace, .string to, .int .i64 frm, .int .i64 most]) ∧ Below w.heap.size w X ∧ ∀ j, X.cell? ⟨bx, j, none⟩ = (#[.int .i64 7, .string space, .string channel, .string user, .string text, .string toSpace, .string to, .int .i64 frm, .int .i64 most] : Array Value)[j]?) := by
    refine (bare_7 space channel user text toSpace to frm most u).mono ?_
    rintro e X ⟨rfl, hX⟩
    exact ⟨rfl, hbu.trans (hX.mono hbu.size), fun j => (hX.cell (p := ⟨bx, j, none⟩) hlx).trans (hcu j)⟩
  obtain ⟨z, hz⟩ : ∃ z, z = Mo.opEq ⟨0, space, channel, Mo.e0, text, toSpace, to, frm, most⟩ ⟨0, Mo.e0, Mo.e0, Mo.e0, Mo.e0, Mo.e0, Mo.e0, 0, 0⟩ := ⟨_, rfl⟩
  have hne : ∀ X : World, (binOp .neq 32 (.agg #[.int .i64 0, .string space, .string channel, .string ⟨#[]⟩, .string text, .string toSpace, .string to, .int .i64 frm, .int .i64 most]) (.agg #[.int .i64 0, .string ⟨#[]⟩, .string ⟨#[]⟩, .string ⟨#[]⟩, .string ⟨#[]⟩, .string ⟨#[]⟩, .string ⟨#[]⟩, .int .i64 0, .int .i64 0])).run Try.prog X = .ok (.bool (!z)) X := fun X => by rw [hz]; exact run_opNe ⟨0, space, channel, Mo.e0, text, toSpace, to, frm, most⟩ ⟨0, Mo.e0, Mo.e0, Mo.e0, Mo.e0, Mo.e0, Mo.e0, 0, 0⟩ X
  have hzz : Mo.opEq ⟨7, space, channel, user, text, toSpace, to, frm, most⟩ ⟨7, Mo.e0, Mo.e0, user, Mo.e0, Mo.e0, Mo.e0, 0, 0⟩ = z := by rw [hz]; simp [Mo.opEq]
  have HMz : Hid (Mo.may ⟨7, space, channel, user, text, toSpace, to, frm, most⟩ = (Mo.labels [user] && z)) := by
    show _ = _
    unfold Mo.may
    dsimp only
    rw [if_neg (by decide), if_neg (by decide), if_neg (by decide), if_neg (by decide), if_neg (by decide), if_neg (by decide), if_pos rfl, hzz]
  have HLb : Hid (∀ (s : ByteArray) (X : World), s.size ≤ 9223372036854775807 → Calls Try.prog 61 #[.string s] X fun e w' => e = .returned (.bool (Mo.label s)) ∧ w' = X) := fun s X hs => rLabel_c s hs X
  have u0 := hcu 0
  have u1 := hcu 1
  have u2 := hcu 2
  have u3 := hcu 3
  have u4 := hcu 4
  have u5 := hcu 5
  have u6 := hcu 6
  have u7 := hcu 7
  have u8 := hcu 8
  clear hz hzz hcu hlx hbu
  cases z with
  | false =>
    clear HLb s1 s2 s3 s4 s5 s6
    go_enter Try.func37, Try.ntmps37
    go_wp2_with fail
    rw [← hu]
    try rw [← hbx]
    clear hu hbx
    refine Calls.mono HBr.out ?_
    rintro e X ⟨rfl, hX, -⟩
    have HX : Hid _ := hX
    clear hX
    go_wp2
    go_ret
    exact ⟨ret_bool (by rw [HMz.out, Bool.and_false]), HX.out⟩
  | true =>
    rw [Bool.and_true] at HMz
    have H_user : Hid (∀ X, Calls Try.prog 61 #[.string user] X fun e w' => e = .returned (.bool (Mo.label user)) ∧ w' = X) := fun X => HLb.out user X s3
    cases l_user : Mo.label user with
    | false =>
      rw [l_user] at H_user
      have HL_user : Hid (Mo.label user = false) := l_user
      clear l_user
      clear s1 s2 s3 s4 s5 s6 HLb
      go_enter Try.func37, Try.ntmps37
      go_wp2_with fail
      rw [← hu]
      try rw [← hbx]
      clear hu hbx
      refine Calls.mono HBr.out ?_
      rintro e X ⟨rfl, hX, hc⟩
      have HX : Hid _ := hX
      have x0 := hc 0
      have x1 := hc 1
      have x2 := hc 2
      have x3 := hc 3
      have x4 := hc 4
      have x5 := hc 5
      have x6 := hc 6
      have x7 := hc 7
      have x8 := hc 8
      clear hX hc u0 u1 u2 u3 u4 u5 u6 u7 u8
      go_wp2_with fail
      refine (H_user.out X).mono ?_
      rintro e X2 ⟨rfl, h2⟩
      have h2 := h2.symm
      subst h2
      go_wp2
      go_ret
      exact ⟨ret_bool (by rw [HMz.out]; simp [Mo.labels, HL_user.out]), HX.out⟩

    | true =>
      rw [l_user] at H_user
      have HL_user : Hid (Mo.label user = true) := l_user
      clear l_user
      clear s1 s2 s3 s4 s5 s6 HLb
      go_enter Try.func37, Try.ntmps37
      go_wp2_with fail
      rw [← hu]
      try rw [← hbx]
      clear hu hbx
      refine Calls.mono HBr.out ?_
      rintro e X ⟨rfl, hX, hc⟩
      have HX : Hid _ := hX
      have x0 := hc 0
      have x1 := hc 1
      have x2 := hc 2
      have x3 := hc 3
      have x4 := hc 4
      have x5 := hc 5
      have x6 := hc 6
      have x7 := hc 7
      have x8 := hc 8
      clear hX hc u0 u1 u2 u3 u4 u5 u6 u7 u8
      go_wp2_with fail
      refine (H_user.out X).mono ?_
      rintro e X2 ⟨rfl, h2⟩
      have h2 := h2.symm
      subst h2
      go_wp2
      go_ret
      exact ⟨ret_bool (by rw [HMz.out]; simp [Mo.labels, HL_user.out]), HX.out⟩

set_option maxRecDepth 20000 in
theorem rMay_0 (kind : Int) (h1 : kind ≠ 1) (h2 : kind ≠ 2) (h3 : kind ≠ 3) (h4 : kind ≠ 4) (h5 : kind ≠ 5) (h6 : kind ≠ 6) (h7 : kind ≠ 7) (space channel user text toSpace to : ByteArray) (frm most : Int) (w : World) : Calls Try.prog 37 #[.agg #[.int .i64 kind, .string space, .string channel, .string user, .string text, .string toSpace, .string to, .int .i64 frm, .int .i64 most]] w fun e w' => e = .returned (.bool (Mo.may ⟨kind, space, channel, user, text, toSpace, to, frm, most⟩)) ∧ Below w.heap.size w w' := by
  have hM : Mo.may ⟨kind, space, channel, user, text, toSpace, to, frm, most⟩ = false := by
    unfold Mo.may
    dsimp only
    rw [if_neg h1, if_neg h2, if_neg h3, if_neg h4, if_neg h5, if_neg h6, if_neg h7]
  rw [hM]
  have k1 : (kind == 1) = false := by simpa using h1
  have k2 : (kind == 2) = false := by simpa using h2
  have k3 : (kind == 3) = false := by simpa using h3
  have k4 : (kind == 4) = false := by simpa using h4
  have k5 : (kind == 5) = false := by simpa using h5
  have k6 : (kind == 6) = false := by simpa using h6
  have k7 : (kind == 7) = false := by simpa using h7
  obtain ⟨u, hu⟩ : ∃ u, u = w.alloc (.cells #[.int .i64 kind, .string space, .string channel, .string user, .string text, .string toSpace, .string to, .int .i64 frm, .int .i64 most] 32) := ⟨_, rfl⟩
  obtain ⟨bx, hbx⟩ : ∃ bx, bx = w.heap.size := ⟨_, rfl⟩
  have hbu : Below w.heap.size w u := by rw [hu]; exact below_alloc w _
  have hlx : bx < u.heap.size := by rw [hu, hbx]; simp
  have hcu : u.cell? ⟨bx, 0, none⟩ = some (.int .i64 kind) := by rw [hu, hbx]; exact World.cell?_alloc_mark w _ _ _ 0
  have HBr : Hid (Calls Try.prog 60 #[.agg #[.int .i64 kind, .string space, .string channel, .string user, .string text, .string toSpace, .string to, .int .i64 frm, .int .i64 most]] u fun e X => e = .returned (.agg #[.int .i64 0, .string space, .string channel, .string user, .string text, .string toSpace, .string to, .int .i64 frm, .int .i64 most]) ∧ Below w.heap.size w X ∧ X.cell? ⟨bx, 0, none⟩ = some (.int .i64 kind)) := by
    refine (bare_0 kind k1 k2 k3 k4 k5 k6 k7 space channel user text toSpace to frm most u).mono ?_
    rintro e X ⟨rfl, hX⟩
    exact ⟨rfl, hbu.trans (hX.mono hbu.size), (hX.cell (p := ⟨bx, 0, none⟩) hlx).trans hcu⟩
  obtain ⟨z, hz⟩ : ∃ z, z = Mo.opEq ⟨0, space, channel, user, text, toSpace, to, frm, most⟩ ⟨0, Mo.e0, Mo.e0, Mo.e0, Mo.e0, Mo.e0, Mo.e0, 0, 0⟩ := ⟨_, rfl⟩
  have hne : ∀ X : World, (binOp .neq 32 (.agg #[.int .i64 0, .string space, .string channel, .string user, .string text, .string toSpace, .string to, .int .i64 frm, .int .i64 most]) (.agg #[.int .i64 0, .string ⟨#[]⟩, .string ⟨#[]⟩, .string ⟨#[]⟩, .string ⟨#[]⟩, .string ⟨#[]⟩, .string ⟨#[]⟩, .int .i64 0, .int .i64 0])).run Try.prog X = .ok (.bool (!z)) X := fun X => by rw [hz]; exact run_opNe ⟨0, space, channel, user, text, toSpace, to, frm, most⟩ ⟨0, Mo.e0, Mo.e0, Mo.e0, Mo.e0, Mo.e0, Mo.e0, 0, 0⟩ X
  clear hz hM h1 h2 h3 h4 h5 h6 h7 hcu hlx hbu
  cases z
  all_goals
    go_enter Try.func37, Try.ntmps37
    go_wp2_with fail
    rw [← hu]
    try rw [← hbx]
    clear hu hbx
    refine Calls.mono HBr.out ?_
    rintro e X ⟨rfl, hX, x0⟩
    have HX : Hid _ := hX
    clear hX
    go_wp2
    go_ret
    exact ⟨rfl, HX.out⟩

end Go.Proofs.Ytkioeahlajjmiaa
