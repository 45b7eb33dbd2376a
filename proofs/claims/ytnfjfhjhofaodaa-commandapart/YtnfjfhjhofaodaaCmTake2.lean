/-
  take, whole.
-/
import Derived.Test.YtnfjfhjhofaodaaCmTake
namespace Go.Proofs.Ytnfjfhjhofaodaa
open Go.RowKit

/-- What bytes behind a mark tell, and nothing else. -/
def takeX (m : UInt8) (D : List UInt8 → Option (List (Cm.K × Cm.V) × List UInt8)) (l : List UInt8) : Option (List (Cm.K × Cm.V)) :=
  match l with
  | [] => none
  | b :: r => if b = m then (match D r with
    | some (vs, []) => some vs
    | _ => none) else none

/-- What take answers. -/
def TakeO (w : World) (q : Rf) (x : Option (List (Cm.K × Cm.V))) (e : Ending) (w' : World) : Prop :=
  KeptC q.S w w' ∧ match x with
  | some vs => e = .returned (.int .i64 0) ∧ q.H w.heap.size w' vs
  | none => e = .returned (.int .i64 140)

theorem KeptC.stored {S : Nat → Nat → Prop} {w w' : World} (h : KeptC (fun c p => c = w.heap.size ∨ S c p) w w') (v : Value) : KeptC S w (w'.setCell ⟨w.heap.size, 0, none⟩ v) :=
  (h.setCell (fun _ => .inl rfl) v).mono (fun c p hc x => by rcases x with x | x; (· omega); (· exact x))

set_option maxHeartbeats 2000000 in
set_option maxRecDepth 100000 in
theorem take_c {w : World} {fs : List Fd} {q : Rf} {eb : Nat} (m : UInt8) (s : ByteArray) (hs : s.size ≤ 140737488351232) (hok : q.Ok) (hW : RWalkC fs q) (hE : Elems w eb fs) (hZ : q.Z w) (hEb : ∀ o, ¬ q.S eb o) (hl : ∀ c p, q.S c p → c < w.heap.size) :
    Calls Try.prog 35 #[.string s, .string ⟨#[m]⟩, .slice (some ⟨eb, 0, none⟩) fs.length fs.length] w (TakeO w q (takeX m q.D s.data.toList)) := by
  have hmf : ∀ (fn : Fn) (first cap : Array Value) (w : World), (Instr.makeFunc fn first cap).run Try.prog w = .ok (.func fn first cap) w := fun _ _ _ _ => rfl
  obtain ⟨u, hu⟩ : ∃ u, u = w.alloc (.cells #[.int .i64 0] 28) := ⟨_, rfl⟩
  have hus : u.heap.size = w.heap.size + 1 := by rw [hu]; simp
  have hbu : Below w.heap.size w u := by rw [hu]; exact alloc_below w _
  have hca : u.cell? ⟨w.heap.size, 0, none⟩ = some (.int .i64 0) := by rw [hu]; simp [go_sem]
  have hza : u.frozen? ⟨w.heap.size, 0, none⟩ = false := by rw [hu]; simp [go_sem]
  obtain ⟨n, hn⟩ : ∃ n, n = fs.length := ⟨_, rfl⟩
  rw [← hn]
  have hel := hE.lt
  by_cases hmk : ∃ h : 0 < s.size, s[0] = m
  · obtain ⟨h0, h83⟩ := hmk
    obtain ⟨t, ht⟩ : ∃ t, t = s.extract 1 s.size := ⟨_, rfl⟩
    have hts : t.size ≤ 140737488351232 := by rw [ht, ByteArray.size_extract]; omega
    have hX : takeX m q.D s.data.toList = (match q.D t.data.toList with
        | some (vs, []) => some vs
        | _ => none) := by
      rw [Cm.toL_cons s h0, ht, Cm.toL_cut]
      show (if s[0] = m then _ else _) = _
      rw [if_pos h83]
    rw [hX]
    have HCut := hidden (cutM_yes m s h0 h83 u)
    rw [← ht] at HCut
    obtain ⟨v, hv⟩ : ∃ v, v = u.alloc (.cells #[.string t] 107) := ⟨_, rfl⟩
    have hbv : Below w.heap.size w v := by rw [hv]; exact hbu.alloc hbu.size _
    have hvs : v.heap.size = w.heap.size + 2 := by rw [hv]; simp [hus]
    have hRd : Rd v u.heap.size t := ⟨by rw [hv]; exact heap_alloc_new _ _, hts⟩
    have hEv : Elems v eb fs := by unfold Elems; rw [hbv.block eb hel]; exact hE
    have hcall := hW v u.heap.size t eb hRd hEv (by omega) (hok.z (fun _ _ => False) _ _ hZ (KeptC.of_below hbv) (fun _ _ _ => id)) (fun o x => by have := hl _ o x; omega) hEb (fun c p x => by have := hl c p x; omega)
    have HF : Hid (∀ w2, KeptC (fun b o => b = u.heap.size ∨ q.S b o) v w2 → w2.cell? ⟨w.heap.size, 0, none⟩ = some (.int .i64 0) ∧ w2.frozen? ⟨w.heap.size, 0, none⟩ = false ∧ KeptC (fun c p => c = w.heap.size ∨ q.S c p) w w2 ∧ w.heap.size < v.heap.size) := by
      intro w2 hk
      have hb2 : Below u.heap.size u v := by rw [hv]; exact alloc_below u _
      refine ⟨?_, ?_, (KeptC.of_below hbv).trans hk (fun c p hc x => by rcases x with x | x; (· omega); (· exact .inr x)), by omega⟩
      · rw [hk.cell _ _ (by omega) (by rintro (x | x); (· omega); (· have := hl _ _ x; omega)), hb2.cell (p := ⟨w.heap.size, 0, none⟩) (by show w.heap.size < _; omega)]; exact hca
      · rw [hk.frozen _ _ (by omega), hb2.frozen (p := ⟨w.heap.size, 0, none⟩) (by show w.heap.size < _; omega)]; exact hza
    rw [← hn] at hcall
    unfold rdV at hcall
    rw [hus] at hcall HF
    have HOk := hidden hok
    have HL := hidden hl
    rw [hv, hu] at hcall HF
    rw [hu] at HCut
    have HSZ : Hid (((w.alloc (.cells #[.int .i64 0] 28)).alloc (.cells #[.string t] 107)).heap.size = w.heap.size + 2) := by unfold Hid; simp
    clear hX ht hts h83 h0 hbv hRd hEv hvs hv hbu hca hza hel hn hus hu hE hZ hEb hl hok hW hs
    cases hq : q.D t.data.toList with
    | none =>
      rw [hq] at hcall
      have HN := hidden hcall
      clear hcall hq
      go_enter_defers Try.func35, Try.ntmps35
      go_wp2_with (first
        | (go_at_call 46; refine (HCut.out).mono ?_; rintro e w1 ⟨rfl, rfl⟩)
        | (go_at_call 43; refine (HN.out).mono ?_; rintro e w2 ⟨hk2, t2, u2, rfl⟩))
      obtain ⟨ca, za, hk3, -⟩ := HF.out w2 hk2
      refine leaves_cons (f := 45) (args := #[.pointer (some ⟨w.heap.size, 0, none⟩)]) (by simp) (by simp [go_sem]) ?_
      refine (takeCatch_panic w.heap.size _ t2 u2 [] w2 ca za).mono ?_
      rintro e u' w'' ⟨rfl, rfl, rfl⟩
      have ca3 : (w2.setCell ⟨w.heap.size, 0, none⟩ (.int .i64 140)).cell? ⟨w.heap.size, 0, none⟩ = some (.int .i64 140) := World.cell?_setCell_same _ _ _ ca
      refine ⟨.int .i64 140, ?_, hk3.stored _, rfl⟩
      simp only [results, Try.results35]
      simp [go_sem, ca3]
    | some p1 =>
      obtain ⟨vs, r⟩ := p1
      rw [hq] at hcall
      have HN := hidden hcall
      clear hcall hq
      cases r with
      | nil =>
        go_enter_defers Try.func35, Try.ntmps35
        go_wp2_with (first
          | (go_at_call 46; refine (HCut.out).mono ?_; rintro e w1 ⟨rfl, rfl⟩)
          | (go_at_call 43; refine (HN.out).mono ?_; rintro e w2 ⟨hk2, rfl, ⟨t2, ht2, hr2⟩, hh⟩; have hc2 := ht2.cell; obtain rfl : t2 = ⟨#[]⟩ := Cm.of_toL hr2; obtain ⟨ca, za, hk3, hlt3⟩ := HF.out w2 hk2; have HH := hidden hh; have HK3 := hidden hk3; clear hh hk3 ht2 hr2))
        refine leaves_cons (f := 45) (args := #[.pointer (some ⟨w.heap.size, 0, none⟩)]) (by simp) (by simp [go_sem]) ?_
        refine (takeCatch_idle _ _).mono ?_
        rintro e u' w'' ⟨rfl, rfl, rfl⟩
        have ca3 : (w2.setCell ⟨w.heap.size, 0, none⟩ (.int .i64 0)).cell? ⟨w.heap.size, 0, none⟩ = some (.int .i64 0) := World.cell?_setCell_same _ _ _ ca
        refine ⟨.int .i64 0, ?_, HK3.out.stored _, rfl, ?_⟩
        · simp only [results, Try.results35]
          simp [go_sem, ca3]
        · refine HOk.out.m _ _ _ _ (HOk.out.h (fun c p => c = w.heap.size ∧ p = 0) _ _ _ _ HH.out ((KeptC.refl _ w2).setCell (fun _ => ⟨rfl, rfl⟩) _) ?_) (by have := HSZ.out; omega)
          rintro c p ⟨rfl, rfl⟩
          exact ⟨hlt3, fun x => by have := HL.out _ _ x; omega⟩
      | cons a r =>
        go_enter_defers Try.func35, Try.ntmps35
        go_wp2_with (first
          | (go_at_call 46; refine (HCut.out).mono ?_; rintro e w1 ⟨rfl, rfl⟩)
          | (go_at_call 43; refine (HN.out).mono ?_; rintro e w2 ⟨hk2, rfl, ⟨t2, ht2, hr2⟩, hh⟩; have hc2 := ht2.cell; have hne : t2.toList.isEmpty = false := (by rw [ByteArray.toList_eq, hr2]; rfl); obtain ⟨ca, za, hk3, hlt3⟩ := HF.out w2 hk2; have HK3 := hidden hk3; clear hh hk3 ht2 hr2))
        refine leaves_cons (f := 45) (args := #[.pointer (some ⟨w.heap.size, 0, none⟩)]) (by simp) (by simp [go_sem]) ?_
        refine (takeCatch_panic w.heap.size _ _ _ [] w2 ca za).mono ?_
        rintro e u' w'' ⟨rfl, rfl, rfl⟩
        have ca3 : (w2.setCell ⟨w.heap.size, 0, none⟩ (.int .i64 140)).cell? ⟨w.heap.size, 0, none⟩ = some (.int .i64 140) := World.cell?_setCell_same _ _ _ ca
        refine ⟨.int .i64 140, ?_, HK3.out.stored _, rfl⟩
        simp only [results, Try.results35]
        simp [go_sem, ca3]
  · have hX : takeX m q.D s.data.toList = none := by
      by_cases h0 : 0 < s.size
      · rw [Cm.toL_cons s h0]
        show (if s[0] = m then _ else _) = _
        rw [if_neg (fun e => hmk ⟨h0, e⟩)]
      · have : s.data.toList = [] := List.eq_nil_of_length_eq_zero (by rw [Cm.toL_len]; omega)
        rw [this]
        rfl
    rw [hX]
    have HCut : Hid (∃ t, Calls Try.prog 46 #[.string s, .string ⟨#[m]⟩] u fun e w' => e = .returned (.tuple #[.string t, .bool false]) ∧ w' = u) := by
      by_cases h0 : 0 < s.size
      · exact ⟨s, cutM_no m s h0 (fun e => hmk ⟨h0, e⟩) u⟩
      · obtain rfl : s = ⟨#[]⟩ := ByteArray.ext (Array.eq_empty_of_size_eq_zero (by show s.size = 0; omega))
        exact ⟨_, cutM_empty m u⟩
    obtain ⟨t, hcut⟩ := HCut.out
    have HC := hidden hcut
    have hk : KeptC (fun c p => c = w.heap.size ∨ q.S c p) w u := KeptC.of_below hbu
    rw [hu] at HC hca hza hk
    have HK := hidden hk
    clear hcut HCut hX hmk hbu hel hn hus hu hE hZ hEb hl hok hW hs hk
    go_enter_defers Try.func35, Try.ntmps35
    go_wp2_with (go_at_call 46; refine (HC.out).mono ?_; rintro e w1 ⟨rfl, rfl⟩)
    refine leaves_cons (f := 45) (args := #[.pointer (some ⟨w.heap.size, 0, none⟩)]) (by simp) (by simp [go_sem]) ?_
    refine (takeCatch_panic w.heap.size _ _ _ [] _ hca hza).mono ?_
    rintro e u' w'' ⟨rfl, rfl, rfl⟩
    refine ⟨.int .i64 140, ?_, HK.out.stored _, rfl⟩
    simp only [results, Try.results35]
    simp [go_sem]

end Go.Proofs.Ytnfjfhjhofaodaa
