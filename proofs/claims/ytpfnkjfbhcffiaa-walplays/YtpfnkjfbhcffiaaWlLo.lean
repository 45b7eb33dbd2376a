/-
  drop, with what is sure; replace: one segment in the place of all. Clean: in the place of all segments one of the fewest records, or none. A log of a law's own, through its calls: Append, Sync, Clean, a crash of its disk, Open anew.
-/
import Derived.Test.YtpfnkjfbhcffiaaWlLoad
import Derived.Test.YtpfnkjfbhcffiaaWlNeed
import Derived.Test.YtpfnkjfbhcffiaaWlFullA
namespace Go.Proofs.Ytpfnkjfbhcffiaa
open Go.RowKit

theorem Lg.trim2 {w : World} {p : Pl} {s : St} {own : Nat → Prop} (h : Lg w p s own) (i m : Nat) (hi : i < 256) (hm : m ≤ (s.A i).length) :
    Calls Try.prog 61 #[.pointer (some ⟨p.b, 0, none⟩), .int .i64 (i : Int), .int .i64 (m : Int)] w fun e w' => e = .returned (.int .i64 0) ∧ Aft own w w' p { s with A := upd s.A i ((s.A i).take m), S := upd s.S i (min (s.S i) m) } := by
  obtain ⟨dk, E, h⟩ := h
  refine (Trim_yes h.disk i m hi hm).mono ?_
  rintro e w' ⟨rfl, h1, h2⟩
  exact ⟨rfl, Lg.disked h h1 h2⟩

theorem Lg.swap {w : World} {p : Pl} {s : St} {own : Nat → Prop} (h : Lg w p s own) (i j : Nat) (hi : i < 256) (hj : j < 256) (hl : s.S i = (s.A i).length ∧ s.S j = (s.A j).length) (hne : i ≠ j) :
    Calls Try.prog 70 #[.pointer (some ⟨p.b, 0, none⟩), .int .i64 (i : Int), .int .i64 (j : Int)] w fun e w' => e = .returned (.int .i64 0) ∧ Aft own w w' p { s with A := swp s.A i j, S := swp s.S i j } := by
  obtain ⟨dk, E, h⟩ := h
  refine (Swap_yes h.disk i j hi hj hl hne).mono ?_
  rintro e w' ⟨rfl, h1, h2⟩
  exact ⟨rfl, Lg.disked h (h1.wider (fun _ _ q => .inl q)) h2⟩

theorem Lg.leSure {w : World} {p : Pl} {s : St} {own : Nat → Prop} (h : Lg w p s own) : ∀ i, i < 256 → s.S i ≤ (s.A i).length := by
  obtain ⟨dk, E, h⟩ := h
  obtain ⟨V, h⟩ := h.disk
  exact h.leSure

set_option maxHeartbeats 400000 in
set_option maxRecDepth 20000 in
theorem drop2_c {w : World} {p : Pl} {s : St} {own : Nat → Prop} (h : Lg w p s own) :
    Calls Try.prog 62 #[.pointer (some ⟨p.L, 0, none⟩)] w fun e w' => e = .returned (.tuple #[]) ∧ ∃ S', (∀ i, i < s.n → S' i = s.S i) ∧ Aft own w w' p { s with A := clearTo s.A s.n 256, S := S' } := by
  obtain ⟨c0, c1, cn, ct, fn, ft⟩ := h.cells
  have hn := h.nn
  have HA : Hid (Aft own w w p { s with A := clearTo s.A s.n s.n, S := s.S }) := by
    rw [clearTo_zero]
    exact Aft.same h (Below.refl _ _)
  have HT : Hid (∀ wr k S', s.n ≤ k → k < 256 → ((∀ i, i < s.n → S' i = s.S i) ∧ Aft own w wr p { s with A := clearTo s.A s.n k, S := S' }) → wr.cell? ⟨p.L, 0, none⟩ = some (.pointer (some ⟨p.b, 0, none⟩)) ∧ Calls Try.prog 61 #[.pointer (some ⟨p.b, 0, none⟩), .int .i64 (k : Int), .int .i64 0] wr fun e w' => e = .returned (.int .i64 0) ∧ ∃ S'', (∀ i, i < s.n → S'' i = s.S i) ∧ Aft own w w' p { s with A := clearTo s.A s.n (k + 1), S := S'' }) := by
    intro wr k S' h1 h2 ⟨hS, hA⟩
    refine ⟨hA.1.cells.1, (Lg.trim2 hA.1 k 0 h2 (Nat.zero_le _)).mono ?_⟩
    rintro e w' ⟨rfl, h3⟩
    refine ⟨rfl, upd S' k (min (S' k) 0), fun i hi => ?_, ?_⟩
    · rw [upd_other _ _ (by omega)]
      exact hS i hi
    · have := hA.trans h3
      rw [show (upd ({ s with A := clearTo s.A s.n k, S := S' } : St).A k ((({ s with A := clearTo s.A s.n k, S := S' } : St).A k).take 0)) = clearTo s.A s.n (k + 1) from clearTo_next s.A h1] at this
      exact this
  obtain ⟨n, hnn⟩ : ∃ n, n = s.n := ⟨_, rfl⟩
  rw [← hnn] at cn hn
  have HNN : Hid (n = s.n) := hnn
  obtain ⟨L, hL⟩ : ∃ L, L = p.L := ⟨_, rfl⟩
  obtain ⟨b, hb⟩ : ∃ b, b = p.b := ⟨_, rfl⟩
  rw [← hL, ← hb] at HT
  rw [← hL] at cn ⊢
  clear h c0 c1 ct fn ft hL hb hnn
  go_enter Try.func62, Try.ntmps62
  go_wp2
  go_loopw [2] (fun x wr => ∃ (k : Nat) (S' : Nat → Nat), x = .int .i64 (k : Int) ∧ n ≤ k ∧ k ≤ 256 ∧ Hid ((∀ i, i < s.n → S' i = s.S i) ∧ Aft own w wr p { s with A := clearTo s.A s.n k, S := S' })) (fun x _ => 256 - (intOf x).toNat)
  case atStart => exact ⟨n, s.S, rfl, Nat.le_refl _, by omega, fun _ _ => rfl, by rw [HNN.out]; exact HA.out⟩
  case round =>
    clear HA cn
    obtain ⟨k, S', rfl, h1, h2, HA⟩ := hrel
    by_cases e : k < 256
    · obtain ⟨c0, ht⟩ := HT.out wr k S' (by have := HNN.out; omega) e HA.out
      have HT' : Hid _ := ht
      clear ht
      go_wp2_with fail
      refine Calls.mono HT'.out ?_
      rintro e w2 ⟨rfl, S'', h3⟩
      have H3 : Hid _ := h3
      clear h3
      go_wp2
      go_roundw
      case rel => exact ⟨k + 1, S'', by go_num, by omega, by omega, H3⟩
      case measure => simp [intOf]; omega
    · obtain rfl : k = 256 := by omega
      go_wp2
      exact bodyPost_end (v := .tuple #[]) (by simp [results, Try.results62]) rfl ⟨rfl, S', HA.out⟩

/-- What the swap of a new segment leaves. -/
def repA (s : St) (y : ByteArray) : Nat → List UInt8 := swp (upd s.A 255 (s.A 255 ++ y.data.toList)) 0 255
def repS (s : St) (y : ByteArray) : Nat → Nat := fun i => (repA s y i).length

/-- What a log is behind replace: so many segments, that turn. -/
structure Repl (own : Nat → Prop) (w w' : World) (p : Pl) (s : St) (y : ByteArray) (t n : Nat) (s' : St) : Prop where
  aft : Aft own w w' p s'
  gs : s'.gs = s.gs
  many : s'.n = n
  turn : s'.turn = t
  files : ∀ i, i < 256 → s'.A i = if i < n then y.data.toList else []
  sure : ∀ i, i < 256 → s'.S i = (s'.A i).length

/-- The log's calls in replace, for a segment y of turn t: n is 0 (y is nothing) or 1. -/
structure RepC (own : Nat → Prop) (w : World) (p : Pl) (s : St) (y : ByteArray) (t n : Nat) (L b : Nat) (P1 P2 P3 P4 : World → Prop) : Prop where
  add : ∀ u, Below w.heap.size w u → Calls Try.prog 66 #[.pointer (some ⟨b, 0, none⟩), .int .i64 255, .string y] u fun e w' => e = .returned (.int .i64 0) ∧ Hid (P1 w') ∧ w'.cell? ⟨L, 0, none⟩ = some (.pointer (some ⟨b, 0, none⟩)) ∧ w'.cell? ⟨L, 57, none⟩ = some (.int .i64 (s.n : Int))
  sync : ∀ u, P1 u → Calls Try.prog 25 #[.pointer (some ⟨b, 0, none⟩)] u fun e w' => e = .returned (.int .i64 0) ∧ Hid (P2 w') ∧ w'.cell? ⟨L, 0, none⟩ = some (.pointer (some ⟨b, 0, none⟩))
  swap : ∀ u, P2 u → Calls Try.prog 70 #[.pointer (some ⟨b, 0, none⟩), .int .i64 0, .int .i64 255] u fun e w' => e = .returned (.int .i64 0) ∧ (∃ w4, w4 = (w'.setCell ⟨L, 58, none⟩ (.int .i64 (t : Int))).setCell ⟨L, 57, none⟩ (.int .i64 (n : Int)) ∧ Hid (P4 w4)) ∧ w'.cell? ⟨L, 57, none⟩ = some (.int .i64 (s.n : Int)) ∧ w'.cell? ⟨L, 58, none⟩ = some (.int .i64 (s.turn : Int)) ∧ w'.frozen? ⟨L, 57, none⟩ = false ∧ w'.frozen? ⟨L, 58, none⟩ = false
  drop : ∀ u, P4 u → Calls Try.prog 62 #[.pointer (some ⟨L, 0, none⟩)] u fun e w' => e = .returned (.tuple #[]) ∧ ∃ s', Repl own w w' p s y t n s'

theorem repC_mk {w : World} {p : Pl} {s : St} {own : Nat → Prop} (h : Lg w p s own) (y : ByteArray) (t n : Nat) (ht : t ≤ 1) (hn1 : n ≤ 1) (h255 : s.A 255 = []) (hfit : tot s.A + y.size ≤ p.room) : ∃ P1 P2 P3 P4, RepC own w p s y t n p.L p.b P1 P2 P3 P4 := by
  refine ⟨fun u => Aft own w u p { s with A := upd s.A 255 (s.A 255 ++ y.data.toList) },
    fun u => Aft own w u p { s with A := upd s.A 255 (s.A 255 ++ y.data.toList), S := fun i => if i < 256 then (upd s.A 255 (s.A 255 ++ y.data.toList) i).length else s.S i },
    fun _ => True,
    fun u => Aft own w u p { s with A := repA s y, S := swp (fun i => if i < 256 then (upd s.A 255 (s.A 255 ++ y.data.toList) i).length else s.S i) 0 255, n := n, turn := t }, ⟨?_, ?_, ?_, ?_⟩⟩
  · intro u hu
    refine (Lg.add (h.below hu) 255 (by omega) y hfit).mono ?_
    rintro e w' ⟨rfl, ha⟩
    have ha := Aft.from hu ha
    obtain ⟨q0, _, q1, _, _, _⟩ := ha.1.cells
    exact ⟨rfl, ha, q0, q1⟩
  · intro u hu
    refine (Lg.sync hu.1).mono ?_
    rintro e w' ⟨rfl, ha⟩
    have ha := hu.trans ha
    exact ⟨rfl, ha, ha.1.cells.1⟩
  · intro u hu
    refine (Lg.swap hu.1 0 255 (by omega) (by omega) ⟨rfl, rfl⟩ (by omega)).mono ?_
    rintro e w' ⟨rfl, ha⟩
    have ha := hu.trans ha
    obtain ⟨_, _, q1, q2, q3, q4⟩ := ha.1.cells
    refine ⟨rfl, ⟨_, rfl, ?_⟩, q1, q2, q3, q4⟩
    have h1 := ha.trans (ha.1.setT t ht)
    exact h1.trans (h1.1.setN n (by omega))
  · intro u hu
    refine (drop2_c hu.1).mono ?_
    rintro e w' ⟨rfl, S', hS, ha⟩
    have ha := hu.trans ha
    refine ⟨rfl, _, ha, rfl, rfl, rfl, fun i hi => ?_, fun i hi => ?_⟩
    · show clearTo (repA s y) n 256 i = _
      unfold clearTo
      by_cases e : i < n
      · rw [if_neg (by omega), if_pos e]
        obtain rfl : i = 0 := by omega
        unfold repA swp
        rw [if_pos rfl, upd_same, h255, List.nil_append]
      · rw [if_pos (by omega), if_neg e]
    · have hle := ha.1.leSure i hi
      show S' i = (clearTo (repA s y) n 256 i).length
      by_cases e : i < n
      · rw [hS i e]
        obtain rfl : i = 0 := by omega
        unfold clearTo repA
        rw [if_neg (by omega)]
        rfl
      · have e2 : clearTo (repA s y) n 256 i = [] := by unfold clearTo; rw [if_pos (by omega)]
        rw [e2]
        have h2 : S' i ≤ (clearTo (repA s y) n 256 i).length := hle
        rw [e2] at h2
        simpa using h2

set_option maxHeartbeats 800000 in
set_option maxRecDepth 20000 in
theorem replace_some {w : World} {p : Pl} {s : St} {own : Nat → Prop} (h : Lg w p s own) (x : ByteArray) (hx : x.size ≤ 1000000000) (hne : x.toList.isEmpty = false) (hn : s.n < 200) (h255 : s.A 255 = []) (hfit : tot s.A + (W.head (1 - s.turn) ++ x).size ≤ p.room) :
    Calls Try.prog 38 #[.pointer (some ⟨p.L, 0, none⟩), .string x] w fun e w' => e = .returned (.int .i64 0) ∧ ∃ s', Repl own w w' p s (W.head (1 - s.turn) ++ x) (1 - s.turn) 1 s' := by
  obtain ⟨c0, _, _, ct, _, _⟩ := h.cells
  have htt := h.tt
  obtain ⟨P1, P2, P3, P4, hC⟩ := repC_mk h (W.head (1 - s.turn) ++ x) (1 - s.turn) 1 (by omega) (by omega) h255 hfit
  have HC : Hid _ := hC
  have HH : Hid _ := fun u => putHead_c (1 - s.turn) u (by omega)
  have hhs := head_size (1 - s.turn) (by omega)
  obtain ⟨tr, htr⟩ : ∃ tr, tr = s.turn := ⟨_, rfl⟩
  obtain ⟨t2, ht2⟩ : ∃ t2, t2 = 1 - s.turn := ⟨_, rfl⟩
  obtain ⟨hd, hhd⟩ : ∃ hd, hd = W.head (1 - s.turn) := ⟨_, rfl⟩
  rw [← hhd] at HC HH hhs ⊢
  rw [← ht2] at HC HH ⊢
  rw [← htr] at ct
  have hsub : IntKind.i64.wrap (1 - (tr : Int)) = (t2 : Int) := by rw [IntKind.wrap_i64]; omega
  obtain ⟨L, hL⟩ : ∃ L, L = p.L := ⟨_, rfl⟩
  obtain ⟨b, hb⟩ : ∃ b, b = p.b := ⟨_, rfl⟩
  rw [← hL] at c0 ct HC ⊢
  rw [← hb] at c0 HC
  have hlt : L < w.heap.size := by obtain ⟨_, _, h⟩ := h; rw [hL]; exact h.lt
  obtain ⟨n, hn'⟩ : ∃ n, n = s.n := ⟨_, rfl⟩
  have t200 : decide ((200 : Int) ≤ (n : Int)) = false := decide_eq_false (by omega)
  have HN : Hid (n = s.n) := hn'
  clear hC h hn' htr ht2 hhd hL hb hfit hn htt h255
  go_enter Try.func38, Try.ntmps38
  go_wp2_with fail
  refine Calls.mono (HH.out _) ?_
  rintro e w1 ⟨rfl, hb1⟩
  have y0 := (hb1.cell (p := ⟨L, 0, none⟩) hlt).trans c0
  have HB1 : Hid _ := hb1
  clear hb1 c0 ct
  go_wp2_with fail
  refine Calls.mono (HC.out.add _ HB1.out) ?_
  rintro e w2 ⟨rfl, H2, y1, y2⟩
  rw [← HN.out] at y2
  clear y0
  go_wp2_with fail
  refine Calls.mono (HC.out.sync _ H2.out) ?_
  rintro e w3 ⟨rfl, H3, y3⟩
  clear y1 y2
  go_wp2_with fail
  refine Calls.mono (HC.out.swap _ H3.out) ?_
  rintro e w4 ⟨rfl, ⟨w5, hw5, H5⟩, y4, y5, y6, y7⟩
  rw [show ((1 : Nat) : Int) = 1 from rfl] at hw5
  clear y3
  go_wp2_with fail
  rw [← hw5]
  refine Calls.mono (HC.out.drop _ H5.out) ?_
  rintro e w6 ⟨rfl, h6⟩
  have H6 : Hid _ := h6
  clear h6
  go_wp2
  go_ret
  exact ⟨rfl, H6.out⟩

set_option maxHeartbeats 800000 in
set_option maxRecDepth 20000 in
theorem replace_none {w : World} {p : Pl} {s : St} {own : Nat → Prop} (h : Lg w p s own) (x : ByteArray) (hne : x.toList.isEmpty = true) (hn : s.n < 200) (h255 : s.A 255 = []) (hfit : tot s.A + x.size ≤ p.room) :
    Calls Try.prog 38 #[.pointer (some ⟨p.L, 0, none⟩), .string x] w fun e w' => e = .returned (.int .i64 0) ∧ ∃ s', Repl own w w' p s x s.turn 0 s' := by
  obtain ⟨c0, _, _, ct, _, _⟩ := h.cells
  have htt := h.tt
  obtain ⟨P1, P2, P3, P4, hC⟩ := repC_mk h x s.turn 0 (by omega) (by omega) h255 hfit
  have HC : Hid _ := hC
  obtain ⟨tr, htr⟩ : ∃ tr, tr = s.turn := ⟨_, rfl⟩
  rw [← htr] at ct
  obtain ⟨L, hL⟩ : ∃ L, L = p.L := ⟨_, rfl⟩
  obtain ⟨b, hb⟩ : ∃ b, b = p.b := ⟨_, rfl⟩
  rw [← hL] at c0 ct HC ⊢
  rw [← hb] at c0 HC
  obtain ⟨n, hn'⟩ : ∃ n, n = s.n := ⟨_, rfl⟩
  have t200 : decide ((200 : Int) ≤ (n : Int)) = false := decide_eq_false (by omega)
  have HN : Hid (n = s.n ∧ tr = s.turn) := ⟨hn', htr⟩
  clear hC h hn' htr hL hb hfit hn htt h255
  go_enter Try.func38, Try.ntmps38
  go_wp2_with fail
  refine Calls.mono (HC.out.add _ (Below.refl _ _)) ?_
  rintro e w2 ⟨rfl, H2, y1, y2⟩
  rw [← HN.out.1] at y2
  clear c0 ct
  go_wp2_with fail
  refine Calls.mono (HC.out.sync _ H2.out) ?_
  rintro e w3 ⟨rfl, H3, y3⟩
  clear y1 y2
  go_wp2_with fail
  refine Calls.mono (HC.out.swap _ H3.out) ?_
  rintro e w4 ⟨rfl, ⟨w5, hw5, H5⟩, y4, y5, y6, y7⟩
  rw [← HN.out.2, show ((0 : Nat) : Int) = 0 from rfl] at hw5
  clear y3
  go_wp2_with fail
  rw [← hw5]
  refine Calls.mono (HC.out.drop _ H5.out) ?_
  rintro e w6 ⟨rfl, h6⟩
  have H6 : Hid _ := h6
  clear h6
  go_wp2
  go_ret
  exact ⟨rfl, H6.out⟩

end Go.Proofs.Ytpfnkjfbhcffiaa

namespace Go.Proofs.Ytpfnkjfbhcffiaa
open Go.RowKit

/-- The segments behind Clean. -/
def cleanSegs (l : List W.Rec) : List (List W.Rec) := if l = [] then [] else [l]

/-- A log behind Clean: in its place one segment of the fewest records, or none. -/
structure Clnd (own : Nat → Prop) (w w' : World) (p : Pl) (s s' : St) : Prop where
  aft : Aft own w w' p s'
  gs : s'.gs = s.gs
  sure : ∀ i, i < 256 → s'.S i = (s'.A i).length
  many : s'.n = (cleanSegs (W.fewTo s.gs 9)).length
  turn : s'.turn ≤ 1
  files : ∀ i, i < 256 → s'.A i = imgA s'.turn (cleanSegs (W.fewTo s.gs 9)) i

theorem recs_empty (l : List W.Rec) : (W.recs l).toList.isEmpty = decide (l = []) := by
  cases l with
  | nil => rw [W.recs, W.no_bytes]; rfl
  | cons r l =>
    rw [decide_eq_false (by simp)]
    apply data_empty
    intro e
    have h1 := congrArg ByteArray.size e
    rw [W.recs, size_app] at h1
    have h2 := recB_pos r
    have h3 : (⟨#[]⟩ : ByteArray).size = 0 := rfl
    omega

theorem imgA_nil (t i : Nat) : imgA t [] i = [] := by unfold imgA; simp
theorem imgA_one (t : Nat) (l : List W.Rec) (i : Nat) : imgA t [l] i = if i < 1 then (segB t l).data.toList else [] := by
  unfold imgA
  cases i with
  | zero => rfl
  | succ i => simp

theorem Clean_c {w : World} {p : Pl} {s : St} {own : Nat → Prop} (h : Lg w p s own) (hsz : (W.recs (W.fewTo s.gs 9)).size ≤ 1000000) (hn : s.n < 200) (h255 : s.A 255 = []) (hfit : tot s.A + 18 + (W.recs (W.fewTo s.gs 9)).size ≤ p.room) :
    Calls Try.prog 17 #[.pointer (some ⟨p.L, 0, none⟩)] w fun e w' => e = .returned (.int .i64 0) ∧ ∃ s', Clnd own w w' p s s' := by
  have HM : Hid _ := made_c h
  have HN : Hid _ := needed_c h (by omega)
  have HR : Hid (∀ u, Below w.heap.size w u → Calls Try.prog 38 #[.pointer (some ⟨p.L, 0, none⟩), .string (W.recs (W.fewTo s.gs 9))] u fun e w' => e = .returned (.int .i64 0) ∧ ∃ s', Clnd own w w' p s s') := by
    intro u hu
    by_cases e : W.fewTo s.gs 9 = []
    · refine (replace_none (h.below hu) _ (by rw [recs_empty, e]; rfl) hn h255 (by omega)).mono ?_
      rintro _ w' ⟨rfl, s', hr⟩
      have hc : cleanSegs (W.fewTo s.gs 9) = [] := if_pos e
      refine ⟨rfl, s', Aft.from hu hr.aft, hr.gs, hr.sure, by rw [hr.many, hc]; rfl, by rw [hr.turn]; exact h.tt, fun i hi => ?_⟩
      rw [hr.files i hi, hc, imgA_nil]
      exact if_neg (Nat.not_lt_zero _)
    · have hh := head_size (1 - s.turn) (by omega)
      refine (replace_some (h.below hu) _ (by omega) (by rw [recs_empty]; exact decide_eq_false e) hn h255 (by rw [size_app]; omega)).mono ?_
      rintro _ w' ⟨rfl, s', hr⟩
      have hc : cleanSegs (W.fewTo s.gs 9) = [W.fewTo s.gs 9] := if_neg e
      refine ⟨rfl, s', Aft.from hu hr.aft, hr.gs, hr.sure, by rw [hr.many, hc]; rfl, by rw [hr.turn]; omega, fun i hi => ?_⟩
      rw [hr.files i hi, hc, imgA_one, hr.turn]
      rfl
  obtain ⟨x, hx⟩ : ∃ x, x = W.recs (W.fewTo s.gs 9) := ⟨_, rfl⟩
  rw [← hx] at HN HR
  obtain ⟨L, hL⟩ : ∃ L, L = p.L := ⟨_, rfl⟩
  rw [← hL] at HM HN HR ⊢
  clear h hsz hn h255 hfit hx hL
  go_enter Try.func17, Try.ntmps17
  go_wp2_with fail
  refine Calls.mono HM.out ?_
  rintro e w1 ⟨rfl, hw⟩
  subst hw
  go_wp2_with fail
  refine Calls.mono HN.out ?_
  rintro e w2 ⟨rfl, h2⟩
  have HR2 : Hid _ := HR.out w2 h2
  clear h2
  go_wp2_with fail
  refine Calls.mono HR2.out ?_
  rintro e w3 ⟨rfl, h3⟩
  have H3 : Hid _ := h3
  clear h3
  go_wp2
  go_ret
  exact ⟨rfl, H3.out⟩

theorem Inv.cleaned {lim : Nat} {s s' : St} {segs : List (List W.Rec)} {own : Nat → Prop} {w w' : World} {p : Pl} (h : Inv lim s segs) (ok : ∀ i, W.Ok (s.gs i)) (hc : Clnd own w w' p s s') : Inv lim s' (cleanSegs (W.fewTo s.gs 9)) := by
  have hg := W.goes_all ok (fun i hi => by rw [h.gs, W.folds_far _ _ h.chks i hi])
  have hf : (cleanSegs (W.fewTo s.gs 9)).flatten = W.fewTo s.gs 9 := by
    unfold cleanSegs
    split
    · rename_i e; rw [e]; rfl
    · simp
  refine ⟨hc.turn, hc.many, hc.files, fun l hl => ?_, by rw [hc.gs, hf]; exact hg.2.symm, by rw [hf]; exact hg.1, fun i _ hi => hc.sure i hi, fun i _ hi _ => hc.sure i hi⟩
  unfold cleanSegs at hl
  split at hl
  · cases hl
  · rename_i e
    rw [List.mem_singleton] at hl
    rw [hl]
    exact e

end Go.Proofs.Ytpfnkjfbhcffiaa

namespace Go.Proofs.Ytpfnkjfbhcffiaa
open Go.RowKit

theorem recB_size2 {r : W.Rec} (h : W.may r = true) : (W.recB r).size ≤ 54 + r.data.size := by
  unfold W.recB
  rw [F.record_size]
  obtain ⟨g, k, i, t, v, hg, hk, hi, ht, hv, lg, lk, li, lt, lv⟩ := may_nums h
  have h1 := M.putVar_length9 (n := r.group.toNat) (by omega)
  have h2 := M.putVar_length9 (n := r.kind.toNat) (by omega)
  have h3 := M.putVar_length9 (n := r.index.toNat) (by omega)
  have h4 := M.putVar_length9 (n := r.term.toNat) (by omega)
  have h5 := M.putVar_length9 (n := (r.vote + 1).toNat) (by omega)
  have h6 : r.data.data.toList.length = r.data.size := by simp
  have h7 : (⟨(W.payload r).toArray⟩ : ByteArray).size = (W.payload r).length := by show (W.payload r).toArray.size = _; simp
  rw [h7]
  unfold W.payload
  rw [List.length_append, List.length_append, List.length_append, List.length_append, List.length_append]
  omega

theorem totTo_congr {A B : Nat → List UInt8} : ∀ n, (∀ i, i < n → A i = B i) → totTo A n = totTo B n
  | 0, _ => rfl
  | n + 1, h => by rw [totTo, totTo, totTo_congr n (fun i hi => h i (by omega)), h n (by omega)]

theorem totTo_one (x : List UInt8) : ∀ n, totTo (fun i => if i < 1 then x else []) (n + 1) = x.length
  | 0 => by show 0 + _ = _; simp
  | n + 1 => by
    rw [totTo, totTo_one x n]
    simp

theorem tot_clean {A : Nat → List UInt8} {t : Nat} {l : List W.Rec} (ht : t ≤ 1) (h : ∀ i, i < 256 → A i = imgA t (cleanSegs l) i) : tot A ≤ 18 + (W.recs l).size := by
  unfold tot
  rw [totTo_congr 256 h]
  unfold cleanSegs
  split
  · rw [totTo_congr (B := fun _ => []) 256 (fun i _ => imgA_nil t i), totTo_nil]
    omega
  · rw [totTo_congr (B := fun i => if i < 1 then (segB t l).data.toList else []) 256 (fun i _ => imgA_one t l i), totTo_one]
    have h1 : (segB t l).data.toList.length = (segB t l).size := by simp
    have h2 := head_size t ht
    rw [h1]
    unfold segB
    rw [size_app]
    omega

/-- A law's log: m bounds its bytes. -/
structure Lo (w X : World) (p : Pl) (s : St) (segs : List (List W.Rec)) (own : Nat → Prop) (m : Nat) : Prop where
  lg : Lg X p s own
  mine : ∀ k, own k → w.heap.size ≤ k
  old : Below w.heap.size w X
  inv : Inv p.limit s segs
  room : p.room = 4194304
  bytes : tot s.A ≤ m

theorem Lo.below {w X Y : World} {p : Pl} {s : St} {segs : List (List W.Rec)} {own : Nat → Prop} {m : Nat} (h : Lo w X p s segs own m) (hb : Below X.heap.size X Y) : Lo w Y p s segs own m :=
  ⟨h.lg.below hb, h.mine, h.old.trans (hb.mono h.old.size), h.inv, h.room, h.bytes⟩

theorem Lo.call {w X Y : World} {p : Pl} {s s' : St} {segs segs' : List (List W.Rec)} {own : Nat → Prop} {m m' : Nat} (h : Lo w X p s segs own m) (ha : Aft own X Y p s') (hi : Inv p.limit s' segs') (hm : tot s'.A ≤ m') : Lo w Y p s' segs' (sinceS own X Y) m' := by
  have hs := h.old.size
  refine ⟨ha.1, fun k q => ?_, h.old.trans (ha.2.below h.mine hs), hi, h.room, hm⟩
  rcases q with e | e
  · exact h.mine k e
  · omega

theorem Lo.n {w X : World} {p : Pl} {s : St} {segs : List (List W.Rec)} {own : Nat → Prop} {m : Nat} (h : Lo w X p s segs own m) : s.n = segs.length := h.inv.n

theorem Lo.append {w X : World} {p : Pl} {s : St} {segs : List (List W.Rec)} {own : Nat → Prop} {m : Nat} (h : Lo w X p s segs own m) (r : W.Rec) (hc : W.chk s.gs r = 0) (hn : s.n < 200) (hm : m + 72 + r.data.size ≤ 4194304) :
    Calls Try.prog 13 #[.pointer (some ⟨p.L, 0, none⟩), recV r] X fun e w' => e = .returned (.int .i64 0) ∧ ∃ s' own', Lo w w' p s' (segPut p.limit s segs r) own' (m + 72 + r.data.size) ∧ s'.gs = W.doR s.gs r ∧ s'.n ≤ s.n + 1 ∧ (KeptS own X w' ∧ own' = sinceS own X w' ∧ s' = appd p.limit s r) := by
  have hcl := cl_le p.limit s
  have hb := recB_size2 (chk_may hc)
  have hh := head_size s.turn h.lg.tt
  have hx : (wx p.limit s (W.recB r)).size ≤ 72 + r.data.size := by
    unfold wx
    split
    · rw [size_app]; omega
    · omega
  have hby := h.bytes
  refine (Append_yes h.lg r hc (by rw [h.room]; omega) (by omega)).mono ?_
  rintro e w' ⟨rfl, ha⟩
  have hN : (appd p.limit s r).n = cl p.limit s + 1 := wr_n _ _ _
  refine ⟨rfl, _, _, h.call ha (h.inv.step r hc (by omega)) ?_, rfl, by omega, ha.2, rfl, rfl⟩
  rw [appd_A]
  have ht := tot_upd s.A (i := cl p.limit s) (by omega) (s.A (cl p.limit s) ++ (wx p.limit s (W.recB r)).data.toList)
  have hl : (wx p.limit s (W.recB r)).data.toList.length = (wx p.limit s (W.recB r)).size := by simp
  rw [List.length_append, hl] at ht
  omega

theorem Lo.refuse {w X : World} {p : Pl} {s : St} {segs : List (List W.Rec)} {own : Nat → Prop} {m : Nat} (h : Lo w X p s segs own m) (r : W.Rec) (hc : W.chk s.gs r ≠ 0) :
    Calls Try.prog 13 #[.pointer (some ⟨p.L, 0, none⟩), recV r] X fun e w' => e = .returned (.int .i64 (W.chk s.gs r)) ∧ Below X.heap.size X w' := Append_no h.lg r hc

theorem Lo.sync {w X : World} {p : Pl} {s : St} {segs : List (List W.Rec)} {own : Nat → Prop} {m : Nat} (h : Lo w X p s segs own m) :
    Calls Try.prog 15 #[.pointer (some ⟨p.L, 0, none⟩)] X fun e w' => e = .returned (.int .i64 0) ∧ ∃ s' own', Lo w w' p s' segs own' m ∧ s'.gs = s.gs ∧ s'.n = s.n ∧ (KeptS own X w' ∧ own' = sinceS own X w' ∧ ∀ i, i < 256 → s'.S i = (s'.A i).length) := by
  refine (Sync_c h.lg).mono ?_
  rintro e w' ⟨rfl, ha⟩
  exact ⟨rfl, _, _, h.call ha h.inv.synced h.bytes, rfl, rfl, ha.2, rfl, fun i hi => if_pos hi⟩

theorem imgA_far (t : Nat) (segs : List (List W.Rec)) {i : Nat} (h : segs.length ≤ i) : imgA t segs i = [] := by
  unfold imgA
  rw [List.getElem?_eq_none h]

theorem Lo.clean {w X : World} {p : Pl} {s : St} {segs : List (List W.Rec)} {own : Nat → Prop} {m : Nat} (h : Lo w X p s segs own m) (hn : s.n < 200) (hr : m + 18 + (W.recs (W.fewTo s.gs 9)).size ≤ 1000000) :
    Calls Try.prog 17 #[.pointer (some ⟨p.L, 0, none⟩)] X fun e w' => e = .returned (.int .i64 0) ∧ ∃ s' own', Lo w w' p s' (cleanSegs (W.fewTo s.gs 9)) own' (18 + (W.recs (W.fewTo s.gs 9)).size) ∧ s'.gs = s.gs ∧ s'.n ≤ 1 ∧ (∀ i, i < 256 → s'.S i = (s'.A i).length) ∧ (KeptS own X w' ∧ own' = sinceS own X w') := by
  have hby := h.bytes
  have hnn := h.inv.n
  refine (Clean_c h.lg (by omega) hn (by rw [h.inv.files 255 (by omega)]; exact imgA_far _ _ (by omega)) (by rw [h.room]; omega)).mono ?_
  rintro e w' ⟨rfl, s', hc⟩
  refine ⟨rfl, s', _, h.call hc.aft (h.inv.cleaned h.lg.ok hc) (tot_clean hc.turn hc.files), hc.gs, ?_, hc.sure, hc.aft.2, rfl⟩
  rw [hc.many]
  unfold cleanSegs
  split
  · exact Nat.zero_le _
  · exact Nat.le_refl _

/-- A disk of a law's log. -/
structure Cd (w X : World) (p : Pl) (s : St) (segs : List (List W.Rec)) (dk : Nat → Prop) (m : Nat) : Prop where
  disk : Dk X p.b p.room s.A s.S dk
  here : ∀ k, dk k → k < X.heap.size
  lt : p.b < X.heap.size
  mine : ∀ k, k = p.b ∨ dk k → w.heap.size ≤ k
  old : Below w.heap.size w X
  inv : Inv p.limit s segs
  lim : 1 ≤ p.limit ∧ p.limit ≤ 16777216
  room : p.room = 4194304
  bytes : tot s.A ≤ m

theorem Lo.cd {w X : World} {p : Pl} {s : St} {segs : List (List W.Rec)} {own : Nat → Prop} {m : Nat} (h : Lo w X p s segs own m) : ∃ dk, Cd w X p s segs dk m ∧ ∀ k, k = p.b ∨ dk k → own k := by
  obtain ⟨dk, E, hl⟩ := h.lg
  refine ⟨dk, ⟨hl.disk, fun k hk => hl.here k (hl.od k hk), hl.here _ hl.ob, fun k hk => ?_, h.old, h.inv, hl.lim, h.room, h.bytes⟩, fun k hk => ?_⟩
  · rcases hk with e | e
    · rw [e]; exact h.mine _ hl.ob
    · exact h.mine _ (hl.od k e)
  · rcases hk with e | e
    · rw [e]; exact hl.ob
    · exact hl.od k e

theorem Lo.crash {w X : World} {p : Pl} {s : St} {segs : List (List W.Rec)} {own : Nat → Prop} {m : Nat} (h : Lo w X p s segs own m) (hs : ∀ i, i < 256 → s.S i = (s.A i).length) :
    Calls Try.prog 20 #[.pointer (some ⟨p.b, 0, none⟩), .slice none 0 0, .int .i64 0] X fun e w' => e = .returned (.int .i64 0) ∧ ∃ dk, Cd w w' p s segs dk m := by
  have hsz := h.old.size
  have hlim : 1 ≤ p.limit ∧ p.limit ≤ 16777216 := by obtain ⟨_, _, q⟩ := h.lg; exact q.lim
  refine (crash_log h.lg hs).mono ?_
  rintro e w' ⟨rfl, dk, hd, hlt, hdk, hob, hk⟩
  refine ⟨rfl, dk, hd, hlt, Nat.lt_of_lt_of_le (h.lg.here _ hob) hk.size, ?_, h.old.trans (hk.below h.mine hsz), h.inv, hlim, h.room, h.bytes⟩
  rintro k (e | e)
  · rw [e]; exact h.mine _ hob
  · rcases hdk k e with e | e
    · exact h.mine k e
    · omega

theorem Cd.reopen {w X : World} {p : Pl} {s : St} {segs : List (List W.Rec)} {dk : Nat → Prop} {m : Nat} (h : Cd w X p s segs dk m) (hn : s.n < 200) :
    Calls Try.prog 8 #[.pointer (some ⟨p.b, 0, none⟩), .int .i64 (p.limit : Int)] X fun e w' => ∃ p2 s2 own2, e = .returned (.tuple #[.pointer (some ⟨p2.L, 0, none⟩), .int .i64 0]) ∧ Lo w w' p2 s2 segs own2 m ∧ s2.gs = s.gs ∧ s2.n = s.n ∧ p2.b = p.b ∧ p2.limit = p.limit ∧ (KeptS (fun k => k = p.b ∨ dk k) X w' ∧ own2 = sinceS (fun k => k = p.b ∨ dk k) X w') := by
  refine (Open_c h.disk h.here p.limit h.lim (h.inv.disky (by rw [← h.inv.n]; exact hn) (fun _ _ => rfl))).mono ?_
  rintro e w' ⟨rfl, s2, ho⟩
  have hk := ho.aft.2
  have hf : found segs [] = segs := if_pos rfl
  rw [hf] at ho
  have hgs : s2.gs = s.gs := by rw [ho.gs, h.inv.gs]
  have hA : ∀ i, i < 256 → s2.A i = s.A i := fun i hi => by rw [ho.files i hi, h.inv.files i hi]
  refine ⟨_, s2, _, rfl, ⟨ho.aft.1, fun k q => ?_, h.old.trans (hk.below h.mine h.old.size), ?_, h.room, ?_⟩, hgs, by rw [ho.n, h.inv.n], rfl, rfl, hk, rfl⟩
  · rcases q with e | e
    · exact h.mine k e
    · have := h.old.size
      omega
  · refine ⟨ho.t1, ho.n, fun i hi => ?_, h.inv.full, ho.gs, h.inv.chks, fun i _ hi => ho.sure i hi, fun i _ hi _ => ho.sure i hi⟩
    rw [ho.files i hi]
    by_cases e : segs = []
    · rw [e, imgA_nil, imgA_nil]
    · rw [ho.tt e]
  · rw [show tot s2.A = tot s.A from totTo_congr 256 hA]
    exact h.bytes

theorem Lo.fresh {w w' : World} {p : Pl} {s : St} {own : Nat → Prop} (h : Fresh w w' p s own) : Lo w w' p s [] own 0 :=
  ⟨h.lg, h.mine, h.old, Inv.fresh h p.limit, h.room, by
    rw [show tot s.A = tot (fun _ => []) from totTo_congr 256 h.A]
    unfold tot
    rw [totTo_nil]
    omega⟩

end Go.Proofs.Ytpfnkjfbhcffiaa
