/-
  Whether an op may be.
-/
import Derived.Test.YtepbmfjimppgcaaMoRow
import Derived.Test.YtepbmfjimppgcaaMoMap
import Derived.Test.YtepbmfjimppgcaaValid
namespace Go.Proofs.Ytepbmfjimppgcaa
open Go.RowKit

theorem isOfLabel_c (b : Nat) (hb : b < 256) (w : World) : Calls Try.prog 79 #[.int .u8 (b : Int)] w fun e w' => e = .returned (.bool (Mo.byteOk b)) ∧ w' = w := by
  by_cases h1 : (97 : Int) ≤ (b : Int)
  · by_cases h2 : (b : Int) ≤ 122
    · go_enter Try.func79, Try.ntmps79
      go_wp2
      go_ret
      exact ⟨ret_bool (by rw [Bool.eq_iff_iff]; unfold Mo.byteOk; simp <;> omega), rfl⟩
    · have h3 : (48 : Int) ≤ (b : Int) := by omega
      have h4 : ¬ (b : Int) ≤ 57 := by omega
      go_enter Try.func79, Try.ntmps79
      go_wp2
      go_ret
      exact ⟨ret_bool (by rw [Bool.eq_iff_iff]; unfold Mo.byteOk; simp <;> omega), rfl⟩
  · by_cases h3 : (48 : Int) ≤ (b : Int)
    · by_cases h4 : (b : Int) ≤ 57
      · go_enter Try.func79, Try.ntmps79
        go_wp2
        go_ret
        exact ⟨ret_bool (by rw [Bool.eq_iff_iff]; unfold Mo.byteOk; simp <;> omega), rfl⟩
      · go_enter Try.func79, Try.ntmps79
        go_wp2
        go_ret
        exact ⟨ret_bool (by rw [Bool.eq_iff_iff]; unfold Mo.byteOk; simp <;> omega), rfl⟩
    · go_enter Try.func79, Try.ntmps79
      go_wp2
      go_ret
      exact ⟨ret_bool (by rw [Bool.eq_iff_iff]; unfold Mo.byteOk; simp <;> omega), rfl⟩

theorem isWithin_c (n most : Int) (w : World) : Calls Try.prog 68 #[.int .i64 n, .int .i64 most] w fun e w' => e = .returned (.bool (Mo.within n most)) ∧ w' = w := by
  by_cases h0 : 0 ≤ n
  · go_enter Try.func68, Try.ntmps68
    go_wp2
    go_ret
    exact ⟨ret_bool (by rw [Bool.eq_iff_iff]; unfold Mo.within; simp <;> omega), rfl⟩
  · go_enter Try.func68, Try.ntmps68
    go_wp2
    go_ret
    exact ⟨ret_bool (by rw [Bool.eq_iff_iff]; unfold Mo.within; simp <;> omega), rfl⟩

theorem allOk_take (s : ByteArray) (k : Nat) (h : k < s.size) : Mo.allOk (s.data.toList.take (k + 1)) = (Mo.allOk (s.data.toList.take k) && Mo.byteOk s[k].toNat) := by
  rw [List.take_succ_eq_append_getElem (by simpa using h)]
  unfold Mo.allOk
  rw [List.all_append]
  simp
  rfl
theorem allOk_stop (s : ByteArray) (k : Nat) (h : k < s.size) (hb : Mo.byteOk s[k].toNat = false) : Mo.allOk s.data.toList = false := by
  unfold Mo.allOk
  rw [List.all_eq_false]
  exact ⟨s[k], by rw [← Array.mem_def]; exact Array.getElem_mem _, by rw [hb]; simp⟩

set_option maxHeartbeats 800000 in
theorem isLabel_c (s : ByteArray) (hs : s.size ≤ maxLen) (w : World) : Calls Try.prog 74 #[.string s] w fun e w' => e = .returned (.bool (Mo.label s)) ∧ w' = w := by
  unfold maxLen at hs
  by_cases h1 : s.size < 1
  · have h1' : (s.size : Int) < 1 := by omega
    have HR : Hid (Mo.label s = false) := by show _ = _; unfold Mo.label; simp; omega
    clear h1
    go_enter Try.func74, Try.ntmps74
    go_wp2
    go_ret
    exact ⟨by rw [HR.out]; rfl, rfl⟩
  · have h1' : ¬ (s.size : Int) < 1 := by omega
    by_cases h2 : 16 < s.size
    · have h2' : (16 : Int) < (s.size : Int) := by omega
      have HR : Hid (Mo.label s = false) := by show _ = _; unfold Mo.label; simp; omega
      clear h1 h2
      go_enter Try.func74, Try.ntmps74
      go_wp2
      go_ret
      exact ⟨by rw [HR.out]; rfl, rfl⟩
    · have h2' : ¬ (16 : Int) < (s.size : Int) := by omega
      have HR : Hid (Mo.label s = Mo.allOk s.data.toList) := by
        show _ = _
        unfold Mo.label
        rw [show decide (1 ≤ s.size) = true by simp; omega, show decide (s.size ≤ 16) = true by simp; omega]
        simp
      have HB : Hid (∀ (b : Nat) (w : World), b < 256 → Calls Try.prog 79 #[.int .u8 (b : Int)] w fun e w' => e = .returned (.bool (Mo.byteOk b)) ∧ w' = w) := fun b w hb => isOfLabel_c b hb w
      clear h1 h2
      go_enter Try.func74, Try.ntmps74
      go_wp2
      go_loop [14] (fun i => ∃ k : Nat, k ≤ s.size ∧ i = .int .i64 (k : Int) ∧ Hid (Mo.allOk (s.data.toList.take k) = true)) (fun i => s.size - (intOf i).toNat)
      case atStart => exact ⟨0, Nat.zero_le _, rfl, rfl⟩
      case round =>
        obtain ⟨k, hk, rfl, hA⟩ := hrel
        by_cases hlt : k < s.size
        · have hbt : s[k].toNat < 256 := s[k].toNat_lt
          cases hq : Mo.byteOk s[k].toNat with
          | true =>
            have HN : Hid (Mo.allOk (s.data.toList.take (k + 1)) = true) := by show _ = _; rw [allOk_take s k hlt, hA.out, hq]; rfl
            have HC : Hid _ := HB.out s[k].toNat w hbt
            rw [hq] at HC
            clear hq
            go_wp2_with (go_at_call 79; refine Calls.mono HC.out ?_; rintro e w' ⟨rfl, rfl⟩)
            go_round
            case rel => exact ⟨k + 1, by omega, by go_num, HN⟩
            case measure => simp [intOf]; omega
          | false =>
            have HN : Hid (Mo.allOk s.data.toList = false) := allOk_stop s k hlt hq
            have HC : Hid _ := HB.out s[k].toNat w hbt
            rw [hq] at HC
            clear hq
            go_wp2_with (go_at_call 79; refine Calls.mono HC.out ?_; rintro e w' ⟨rfl, rfl⟩)
            go_ret
            exact ⟨by rw [HR.out, HN.out]; rfl, rfl⟩
        · have HN : Hid (Mo.allOk s.data.toList = true) := by
            have := hA.out
            rw [List.take_of_length_le (by simp; omega)] at this
            exact this
          go_wp2
          go_ret
          exact ⟨by rw [HR.out, HN.out]; rfl, rfl⟩

/-- The row of texts that a call is handed. -/
def TxRow (w : World) (v : Value) (l : List ByteArray) : Prop := ∃ g off c, v = .slice (some ⟨g, off, none⟩) l.length c ∧ l.length ≤ c ∧ c ≤ maxLen ∧ ∀ j x, l[j]? = some x → w.cell? ⟨g, off + j, none⟩ = some (.string x)

theorem labels_take (l : List ByteArray) (k : Nat) (x : ByteArray) (h : l[k]? = some x) : Mo.labels (l.take (k + 1)) = (Mo.labels (l.take k) && Mo.label x) := by
  unfold Mo.labels
  rw [List.take_add_one, List.all_append, h]
  simp
theorem labels_stop (l : List ByteArray) (k : Nat) (x : ByteArray) (h : l[k]? = some x) (hb : Mo.label x = false) : Mo.labels l = false := by
  unfold Mo.labels
  rw [List.all_eq_false]
  exact ⟨x, List.mem_of_getElem? h, by rw [hb]; simp⟩

set_option maxHeartbeats 800000 in
theorem areLabels_c {w : World} {v : Value} {l : List ByteArray} (h : TxRow w v l) (hs : ∀ x ∈ l, x.size ≤ maxLen) (hl : l.length ≤ 4) : Calls Try.prog 66 #[v] w fun e w' => e = .returned (.bool (Mo.labels l)) ∧ w' = w := by
  obtain ⟨g, off, c, rfl, hc1, hc2, hcs⟩ := h
  obtain ⟨n, hn⟩ : ∃ n, n = l.length := ⟨_, rfl⟩
  rw [← hn] at hc1 hl ⊢
  have HX : Hid (∀ k, k < n → ∃ x, l[k]? = some x ∧ x.size ≤ maxLen ∧ w.cell? ⟨g, off + k, none⟩ = some (.string x)) := fun k hk => ⟨l[k]'(by omega), List.getElem?_eq_getElem _, hs _ (List.getElem_mem _), hcs k _ (List.getElem?_eq_getElem _)⟩
  have HL : Hid (∀ (x : ByteArray) (w : World), x.size ≤ maxLen → Calls Try.prog 74 #[.string x] w fun e w' => e = .returned (.bool (Mo.label x)) ∧ w' = w) := fun x w hx => isLabel_c x hx w
  have HN : Hid (n = l.length) := hn
  clear hn hs hcs hc2
  go_enter Try.func66, Try.ntmps66
  go_wp2
  go_loop [7] (fun i => ∃ k : Nat, k ≤ n ∧ i = .int .i64 (k : Int) ∧ Hid (Mo.labels (l.take k) = true)) (fun i => n - (intOf i).toNat)
  case atStart => exact ⟨0, Nat.zero_le _, rfl, rfl⟩
  case round =>
    obtain ⟨k, hk, rfl, hA⟩ := hrel
    by_cases hlt : k < n
    · obtain ⟨x, hx, hxs, hcell⟩ := HX.out k hlt
      cases hq : Mo.label x with
      | true =>
        have HNx : Hid (Mo.labels (l.take (k + 1)) = true) := by show _ = _; rw [labels_take l k x hx, hA.out, hq]; rfl
        have HC : Hid _ := HL.out x w hxs
        rw [hq] at HC
        clear hq hx hxs
        go_wp2_with (go_at_call 74; refine Calls.mono HC.out ?_; rintro e w' ⟨rfl, rfl⟩)
        go_round
        case rel => exact ⟨k + 1, by omega, by go_num, HNx⟩
        case measure => simp [intOf]; omega
      | false =>
        have HNx : Hid (Mo.labels l = false) := labels_stop l k x hx hq
        have HC : Hid _ := HL.out x w hxs
        rw [hq] at HC
        clear hq hx hxs
        go_wp2_with (go_at_call 74; refine Calls.mono HC.out ?_; rintro e w' ⟨rfl, rfl⟩)
        go_ret
        exact ⟨by rw [HNx.out]; rfl, rfl⟩
    · have HNx : Hid (Mo.labels l = true) := by
        have := hA.out
        rw [List.take_of_length_le (by rw [← HN.out]; omega)] at this
        exact this
      go_wp2
      go_ret
      exact ⟨by rw [HNx.out]; rfl, rfl⟩

theorem isPostable_c (s : ByteArray) (hs : s.size ≤ maxLen) (w : World) : Calls Try.prog 67 #[.string s] w fun e w' => e = .returned (.bool (Mo.postable s)) ∧ Below w.heap.size w w' := by
  have HV : Hid _ := bits_Valid s w hs
  unfold maxLen at hs
  by_cases h : s.size ≤ 1024
  · have h' : (decide ((s.size : Int) ≤ 1024)) = true := by simp; omega
    have HR : Hid (Mo.postable s = valid s) := by show _ = _; unfold Mo.postable valid; simp [h]
    clear h
    go_enter Try.func67, Try.ntmps67
    go_wp2_with (go_at_call 75; refine Calls.mono HV.out ?_; rintro e w' ⟨rfl, hb⟩)
    go_ret
    exact ⟨by rw [HR.out]; rfl, hb⟩
  · have h' : (decide ((s.size : Int) ≤ 1024)) = false := by simp; omega
    have HR : Hid (Mo.postable s = false) := by show _ = _; unfold Mo.postable; simp [h]
    clear h
    go_enter Try.func67, Try.ntmps67
    go_wp2_with fail
    go_ret
    exact ⟨by rw [HR.out]; rfl, Below.refl _ _⟩

/-- An op as a value. -/
def opV (o : Mo.Op) : Value := .agg #[.int .i64 o.kind, .string o.space, .string o.channel, .string o.user, .string o.text, .string o.toSpace, .string o.to, .int .i64 o.frm, .int .i64 o.most]

theorem beqB (a b : ByteArray) : (a.toList == b.toList) = decide (a = b) := by
  rw [ByteArray.toList_eq, ByteArray.toList_eq, Bool.eq_iff_iff]
  obtain ⟨⟨x⟩⟩ := a
  obtain ⟨⟨y⟩⟩ := b
  simp
theorem tlB (a b : ByteArray) : (a.toList = b.toList) = (a = b) := by
  have h := beqB a b
  rw [Bool.eq_iff_iff] at h
  simp at h
  exact propext h
theorem run_opEq (o q : Mo.Op) (w : World) : (binOp .eql 37 (opV o) (opV q)).run Try.prog w = .ok (.bool (Mo.opEq o q)) w := by
  obtain ⟨k, a, b, c, d, f, g, h, i⟩ := o
  obtain ⟨k', a', b', c', d', f', g', h', i'⟩ := q
  unfold opV Mo.opEq
  dsimp only
  go_simp
  simp only [tlB]
  by_cases q0 : k = k'
  · by_cases q1 : a = a'
    · by_cases q2 : b = b'
      · by_cases q3 : c = c'
        · by_cases q4 : d = d'
          · by_cases q5 : f = f'
            · by_cases q6 : g = g'
              · by_cases q7 : h = h'
                · by_cases q8 : i = i'
                  · simp [q0, q1, q2, q3, q4, q5, q6, q7, q8]
                  · simp [q0, q1, q2, q3, q4, q5, q6, q7, q8]
                · simp [q0, q1, q2, q3, q4, q5, q6, q7]
              · simp [q0, q1, q2, q3, q4, q5, q6]
            · simp [q0, q1, q2, q3, q4, q5]
          · simp [q0, q1, q2, q3, q4]
        · simp [q0, q1, q2, q3]
      · simp [q0, q1, q2]
    · simp [q0, q1]
  · simp [q0]

/-- An op whose texts are texts. -/
def OpOk (o : Mo.Op) : Prop := Ok o.space ∧ Ok o.channel ∧ Ok o.user ∧ Ok o.text ∧ Ok o.toSpace ∧ Ok o.to

end Go.Proofs.Ytepbmfjimppgcaa
