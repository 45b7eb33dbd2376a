/-
  For every list of ops: ModelStays answers true: a post stays where it was put, as long as its channel is there; the argument reads afterwards as before. No condition.
-/
import Derived.Test.YtkioeahlajjmiaaMoTexts
import Derived.Test.YtkioeahlajjmiaaMoArgs
import Derived.ProofKit
import Derived.OpenShut
import Derived.ShutString
import Derived.SizedLaws
namespace Go.Proofs.Ytkioeahlajjmiaa.modelStays
open Go.ChangeShapes Go.WideShapes Go.ChangeAt Go.RowKit
open Go.ChangeMaps (open_string shut_string)

/-- A post as the law notes it. -/
def tx (p : Mo.Po) : ByteArray := (p.user ++ ⟨#[47]⟩) ++ p.text

/-- Posts of the channel are short. -/
def Sz (s : Mo.St) : Prop := ∀ p ∈ Wc s, p.user.size ≤ 16 ∧ p.text.size ≤ 1024
theorem may3 {q : Mo.Op} (h : Mo.may q = true) (h3 : q.kind = 3) : q.user.size ≤ 16 ∧ q.text.size ≤ 1024 := by
  unfold Mo.may at h
  rw [h3] at h
  simp [Mo.labels] at h
  obtain ⟨⟨⟨_, _, h1⟩, h2⟩, _⟩ := h
  refine ⟨Mo.label_size h1, ?_⟩
  unfold Mo.postable at h2
  simp at h2
  exact h2.1
theorem may_of_err {s : Mo.St} {q : Mo.Op} (h : (Mo.tells s q).err = 0) : Mo.may q = true := by
  cases hm : Mo.may q with
  | true => rfl
  | false => simp [Mo.tells, hm] at h

/-- The law's state. -/
def Stt (w : World) (B : Nat) (s : Mo.St) (k : Nat) (tv : Value) (ss : List (List UInt8)) (X : World) : Prop :=
  ss = (Wc s).map (fun p => (tx p).data.toList) ∧ Mt w X B s k tv ss [] ∧ Sz s ∧ ss.length ≤ k
theorem Mt.form {w X : World} {B : Nat} {s : Mo.St} {k : Nat} {tv : Value} {ss : List (List UInt8)} {L : List (Nat × Nat × Value)} (h : Mt w X B s k tv ss L) : ∃ p c, tv = .slice p ss.length c := by
  rcases h.row.2 with ⟨h1, h2⟩ | ⟨g, cap, cur, h1, _⟩
  · exact ⟨none, 0, by rw [h1]; have h2 : ss.length = 0 := h2; rw [h2]⟩
  · exact ⟨_, _, h1⟩

/-- A page of one, and the text that was noted. -/
theorem Stt.read {w X : World} {B : Nat} {s : Mo.St} {k j : Nat} {pp : Option Addr} {cc : Nat} {ss : List (List UInt8)} (h : Stt w B s (k + j) (.slice pp ss.length cc) ss X) (hj : j < ss.length) (hk : k ≤ 200) (hl2 : ss.length ≤ 200) :
    ∃ (pu pt x : ByteArray) (gg : Nat), x = pu ++ ⟨#[47]⟩ ++ pt ∧ pu.size ≤ 16 ∧ pt.size ≤ 1024 ∧ pp = some ⟨gg, 0, none⟩ ∧ Calls Try.prog 10 #[.pointer (some ⟨B, 0, none⟩), .agg #[.int .i64 4, .string ⟨#[119]⟩, .string ⟨#[99]⟩, .string ⟨#[]⟩, .string ⟨#[]⟩, .string ⟨#[]⟩, .string ⟨#[]⟩, .int .i64 (j : Int), .int .i64 1]] X fun e Y => ∃ g off c, e = .returned (.agg #[.int .i64 0, .int .i64 ((j : Int) + 1), .slice (some ⟨g, off, none⟩) 1 (c + 1)]) ∧ (∀ Z, Below Y.heap.size Y Z → Z.cell? ⟨g, off, none⟩ = some (.string pu) ∧ Z.cell? ⟨g, off + 1, none⟩ = some (.string pt) ∧ Z.cell? ⟨gg, j, none⟩ = some (.string x)) ∧ Stt w B s (k + (j + 1)) (.slice pp ss.length cc) ss Y := by
  obtain ⟨e1, hM, hsz, hl⟩ := h
  have hlw : j < (Wc s).length := by rw [e1] at hj; simpa using hj
  obtain ⟨pq, hpq⟩ : ∃ pq, (Wc s)[j]? = some pq := ⟨_, List.getElem?_eq_getElem hlw⟩
  have hx : ss[j]? = some (tx pq).data.toList := by rw [e1]; simp [hpq]
  obtain ⟨ht, hd⟩ := Wc.page hpq (by omega)
  have hmem : pq ∈ Wc s := List.mem_of_getElem? hpq
  have row : ∀ {Y : World}, Y.ownsRow w.heap.size 9 1 (.slice pp ss.length cc) ss.length (ss.map encStr) → ∃ gg, pp = some ⟨gg, 0, none⟩ ∧ Y.cell? ⟨gg, j, none⟩ = some (.string (tx pq)) := fun {Y} hr => by
    rcases hr.2 with ⟨_, h0⟩ | ⟨g, cap, cur, hv, hbase, hb, h1, h2, h3, h4⟩
    · have h0 : ss.length = 0 := h0
      omega
    · injection hv with hv _ _
      refine ⟨g, hv, ?_⟩
      have hh := holds_of_block (ss := ss) hb (by simpa using h4) j (by simpa using hj)
      have e2 : ss.toArray[j]! = (tx pq).data.toList := by
        rw [getElem!_pos ss.toArray j (by simpa using hj)]
        have := List.getElem?_eq_some_iff.1 hx
        simpa using this.2
      rw [e2, Nat.zero_add] at hh
      exact hh.1
  obtain ⟨gg, hpp, _⟩ := row hM.row
  refine ⟨pq.user, pq.text, tx pq, gg, rfl, (hsz pq hmem).1, (hsz pq hmem).2, hpp, (hM.do6 (by omega) ⟨4, ⟨#[119]⟩, ⟨#[99]⟩, ⟨#[]⟩, ⟨#[]⟩, ⟨#[]⟩, ⟨#[]⟩, (j : Int), 1⟩ ⟨okW, Ok.of (by show (⟨#[99]⟩ : ByteArray).size ≤ 2000; decide), okE, okE, okE, okE⟩).mono ?_⟩
  rintro e Y ⟨p', m', c', rfl, hm', hrow', hM'⟩
  rw [ht] at hm' hrow' ⊢
  rw [hd] at hM'
  have hm1 : m' = 1 := hm'
  subst hm1
  obtain ⟨g, off, c, hv, _, _, _, hcs⟩ := hrow'.cells (by omega)
  injection hv with e2 _ e3
  subst e2 e3
  obtain ⟨gg', hpp', hcell⟩ := row hM'.row
  rw [hpp] at hpp'
  have hgg : gg = gg' := by injection hpp' with hpp'; injection hpp'
  subst hgg
  have c0 : Y.cell? ⟨g, off, none⟩ = some (.string pq.user) := by have := hcs 0 (.string pq.user) rfl; rwa [Nat.add_zero] at this
  have c1 : Y.cell? ⟨g, off + 1, none⟩ = some (.string pq.text) := hcs 1 _ rfl
  refine ⟨g, off, c, rfl, fun Z hZ => ?_, e1, hM', hsz, by omega⟩
  rw [hZ.cell (p := ⟨g, off, none⟩) (World.block_lt_of_cell? _ _ c0), hZ.cell (p := ⟨g, off + 1, none⟩) (World.block_lt_of_cell? _ _ c1), hZ.cell (p := ⟨gg, j, none⟩) (World.block_lt_of_cell? _ _ hcell)]
  exact ⟨c0, c1, hcell⟩
theorem Stt.below {w X Y : World} {B : Nat} {s : Mo.St} {k : Nat} {tv : Value} {ss : List (List UInt8)} (h : Stt w B s k tv ss X) (hb : Below X.heap.size X Y) : Stt w B s k tv ss Y := ⟨h.1, h.2.1.below hb, h.2.2⟩
theorem Stt.old {w X : World} {B : Nat} {s : Mo.St} {k : Nat} {tv : Value} {ss : List (List UInt8)} (h : Stt w B s k tv ss X) : Below w.heap.size w X := h.2.1.old

set_option maxHeartbeats 4000000 in
set_option maxRecDepth 20000 in
theorem walk (v0 : Value) (a0 : List Mo.Op) (w : World) (_b0 : Elems w 9 op9Cells Op9In v0 a0) :
    Calls Try.prog 4 #[v0] w fun e w' => e = .returned (.bool true) ∧ Below w.heap.size w w' := by
  obtain ⟨p0, c0, hv0, hc1, hc2, hgood, hcells⟩ := _b0
  obtain ⟨n0, hn0⟩ : ∃ n0, n0 = a0.length := ⟨_, rfl⟩
  rw [← hn0] at hv0 hc1
  have HI : Hid (∀ k, k < n0 → ∃ q g o, Op9In q ∧ p0 = some ⟨g, o, none⟩ ∧ ∀ X, Below w.heap.size w X → X.cell? ⟨g, o + k * 9, none⟩ = some (.int .i64 q.kind) ∧ X.cell? ⟨g, o + k * 9 + 1, none⟩ = some (.string q.space) ∧ X.cell? ⟨g, o + k * 9 + 2, none⟩ = some (.string q.channel) ∧ X.cell? ⟨g, o + k * 9 + 3, none⟩ = some (.string q.user) ∧ X.cell? ⟨g, o + k * 9 + 4, none⟩ = some (.string q.text) ∧ X.cell? ⟨g, o + k * 9 + 5, none⟩ = some (.string q.toSpace) ∧ X.cell? ⟨g, o + k * 9 + 6, none⟩ = some (.string q.to) ∧ X.cell? ⟨g, o + k * 9 + 7, none⟩ = some (.int .i64 q.frm) ∧ X.cell? ⟨g, o + k * 9 + 8, none⟩ = some (.int .i64 q.most)) := by
    intro k hk
    obtain ⟨q, hq⟩ : ∃ q, a0[k]? = some q := ⟨_, List.getElem?_eq_getElem (by omega)⟩
    rcases hcells with h | ⟨g, o, hp, hg, hcs⟩
    · rw [h] at hq
      simp at hq
    · refine ⟨q, g, o, hgood q (List.mem_of_getElem? hq), hp, fun X hX => ?_⟩
      have e : ∀ j, X.cell? ⟨g, j, none⟩ = w.cell? ⟨g, j, none⟩ := fun j => hX.cell (p := ⟨g, j, none⟩) hg
      rw [e, e, e, e, e, e, e, e, e]
      exact ⟨hcs k q hq 0 _ rfl, hcs k q hq 1 _ rfl, hcs k q hq 2 _ rfl, hcs k q hq 3 _ rfl, hcs k q hq 4 _ rfl, hcs k q hq 5 _ rfl, hcs k q hq 6 _ rfl, hcs k q hq 7 _ rfl, hcs k q hq 8 _ rfl⟩
  subst hv0
  have hcm := hc2
  unfold maxLen at hcm
  have HNew : Hid _ := New_fresh (w := w) w (Below.refl _ w)
  obtain ⟨B, hB⟩ : ∃ B, B = w.heap.size + 2 := ⟨_, rfl⟩
  rw [← hB] at HNew
  have HA : Hid (∀ u : World, Calls Try.prog 11 #[] u fun e w' => e = .returned (.bool true) ∧ Below u.heap.size u w') := awake_c
  clear hB hc2 hgood hcells hn0
  go_enter Try.func4, Try.ntmps4
  go_wp2_with fail
  refine Calls.mono HNew.out ?_
  rintro e w0 ⟨rfl, hM, _⟩
  have H0 : Hid (Stt w B Mo.new 0 (.slice none 0 0) [] w0) := ⟨rfl, ⟨_, hM, World.ownsRow_nil _ _ _ _, fun g e => (by cases e), fun q hq => (by cases hq)⟩, fun p hp => (by cases hp), Nat.le_refl _⟩
  clear hM HNew
  go_wp2
  go_loopw [4, 5] (fun tv iv wr => ∃ (k : Nat) (s : Mo.St) (ss : List (List UInt8)), iv = .int .i64 (k : Int) ∧ k ≤ n0 ∧ k ≤ 200 ∧ Hid (Stt w B s k tv ss wr)) (fun _ iv _ => 200 - (intOf iv).toNat)
  case atStart => exact ⟨0, _, _, rfl, Nat.zero_le _, Nat.zero_le _, H0⟩
  case round =>
    clear H0
    obtain ⟨k, s, ss, rfl, hkn, hk1, HS⟩ := hrel
    by_cases hlt : k < n0
    · by_cases hlt3 : k < 200
      · obtain ⟨q, g, o, hq, hp0, hX⟩ := HI.out k hlt
        subst hp0
        obtain ⟨r0, r1, r2, r3, r4, r5, r6, r7, r8⟩ := hX wr HS.out.2.1.old
        have hi0 : (0 : Int) ≤ (k : Int) := Int.natCast_nonneg k
        have hi1 : (k : Int) < (n0 : Int) := by omega
        have hi2 : (k : Int) < 200 := by omega
        obtain ⟨bo, hbo⟩ : ∃ bo, bo = wr.heap.size := ⟨_, rfl⟩
        obtain ⟨z, hz⟩ : ∃ z, z = wr.alloc (.cells #[.int .i64 q.kind, .string q.space, .string q.channel, .string q.user, .string q.text, .string q.toSpace, .string q.to, .int .i64 q.frm, .int .i64 q.most] 32) := ⟨_, rfl⟩
        have HZ : Hid (Mt w z B s k u4 ss [(bo, 0, .int .i64 q.kind), (bo, 1, .string q.space), (bo, 2, .string q.channel), (bo, 3, .string q.user), (bo, 4, .string q.text), (bo, 5, .string q.toSpace), (bo, 6, .string q.to), (bo, 7, .int .i64 q.frm), (bo, 8, .int .i64 q.most)] ∧ bo = wr.heap.size ∧ z = wr.alloc (.cells #[.int .i64 q.kind, .string q.space, .string q.channel, .string q.user, .string q.text, .string q.toSpace, .string q.to, .int .i64 q.frm, .int .i64 q.most] 32)) := by
          refine ⟨?_, hbo, hz⟩
          have := HS.out.2.1.add (L' := [(bo, 0, .int .i64 q.kind), (bo, 1, .string q.space), (bo, 2, .string q.channel), (bo, 3, .string q.user), (bo, 4, .string q.text), (bo, 5, .string q.toSpace), (bo, 6, .string q.to), (bo, 7, .int .i64 q.frm), (bo, 8, .int .i64 q.most)]) (Y := z) (by rw [hz]; exact below_alloc wr _) (fun x hx => by
            simp at hx
            rcases hx with rfl | rfl | rfl | rfl | rfl | rfl | rfl | rfl | rfl
            all_goals exact ⟨by rw [hbo]; exact Nat.le_refl _, by rw [hz, hbo]; exact World.cell?_alloc_mark wr _ _ _ _⟩)
          rwa [List.append_nil] at this
        clear hbo hz HI hX
        by_cases h5 : q.kind = 5
        · have k5 : (q.kind == 5) = true := by simp [h5]
          clear h5
          have HN : Hid (Stt w B s (k + 1) u4 ss (wr.alloc (.cells #[.int .i64 q.kind, .string q.space, .string q.channel, .string q.user, .string q.text, .string q.toSpace, .string q.to, .int .i64 q.frm, .int .i64 q.most] 32))) := ⟨HS.out.1, HS.out.2.1.below (below_alloc wr _) |>.more (Nat.le_succ _), HS.out.2.2.1, Nat.le_succ_of_le HS.out.2.2.2⟩
          go_wp2
          go_roundw
          case rel => exact ⟨k + 1, _, _, by go_num, by omega, by omega, HN⟩
          case measure => simp [intOf]; omega
        have H5 : Hid (q.kind ≠ 5) := h5
        have k5 : (q.kind == 5) = false := by simp [h5]
        clear h5
        by_cases h6 : q.kind = 6
        · have k6 : (q.kind == 6) = true := by simp [h6]
          clear h6
          have HN : Hid (Stt w B s (k + 1) u4 ss (wr.alloc (.cells #[.int .i64 q.kind, .string q.space, .string q.channel, .string q.user, .string q.text, .string q.toSpace, .string q.to, .int .i64 q.frm, .int .i64 q.most] 32))) := ⟨HS.out.1, HS.out.2.1.below (below_alloc wr _) |>.more (Nat.le_succ _), HS.out.2.2.1, Nat.le_succ_of_le HS.out.2.2.2⟩
          go_wp2
          go_roundw
          case rel => exact ⟨k + 1, _, _, by go_num, by omega, by omega, HN⟩
          case measure => simp [intOf]; omega
        have H6 : Hid (q.kind ≠ 6) := h6
        have k6 : (q.kind == 6) = false := by simp [h6]
        clear h6
        have HC : Hid _ := HZ.out.1.do6 (by omega) q hq.1
        go_wp2_with fail
        rw [← HZ.out.2.2, ← HZ.out.2.1]
        refine Calls.mono HC.out ?_
        obtain ⟨E, hE⟩ : ∃ E, E = (Mo.tells s q).err := ⟨_, rfl⟩
        obtain ⟨A, hA⟩ : ∃ A, A = (Mo.tells s q).at_ := ⟨_, rfl⟩
        rw [← hE, ← hA]
        rintro e w1 ⟨p, m, c, rfl, hm, _, hM⟩
        obtain ⟨b1, hb1⟩ : ∃ b1, b1 = w1.heap.size := ⟨_, rfl⟩
        obtain ⟨z1, hz1⟩ : ∃ z1, z1 = w1.alloc (.cells #[.int .i64 E, .int .i64 A, .slice p m c] 29) := ⟨_, rfl⟩
        have hM2 : Mt w z1 B (Mo.does s q) (k + 1) u4 ss ([(b1, 0, .int .i64 E), (b1, 1, .int .i64 A)] ++ [(bo, 0, .int .i64 q.kind), (bo, 1, .string q.space), (bo, 2, .string q.channel), (bo, 3, .string q.user), (bo, 4, .string q.text), (bo, 5, .string q.toSpace), (bo, 6, .string q.to), (bo, 7, .int .i64 q.frm), (bo, 8, .int .i64 q.most)]) := hM.add (by rw [hz1]; exact below_alloc w1 _) (fun x hx => by
          simp at hx
          rcases hx with rfl | rfl
          all_goals exact ⟨by rw [hb1]; exact Nat.le_refl _, by rw [hz1, hb1]; exact World.cell?_alloc_mark w1 _ _ _ _⟩)
        have HM1 : Hid (Mt w z1 B (Mo.does s q) (k + 1) u4 ss ([(b1, 0, .int .i64 E), (b1, 1, .int .i64 A)] ++ [(bo, 0, .int .i64 q.kind), (bo, 1, .string q.space), (bo, 2, .string q.channel), (bo, 3, .string q.user), (bo, 4, .string q.text), (bo, 5, .string q.toSpace), (bo, 6, .string q.to), (bo, 7, .int .i64 q.frm), (bo, 8, .int .i64 q.most)]) ∧ b1 = w1.heap.size ∧ z1 = w1.alloc (.cells #[.int .i64 E, .int .i64 A, .slice p m c] 29) ∧ E = (Mo.tells s q).err ∧ A = (Mo.tells s q).at_) := ⟨hM2, hb1, hz1, hE, hA⟩
        have k0 : z1.cell? ⟨bo, 0, none⟩ = some (.int .i64 q.kind) := hM2.cell (q := (bo, 0, .int .i64 q.kind)) (by simp)
        have k1 : z1.cell? ⟨bo, 1, none⟩ = some (.string q.space) := hM2.cell (q := (bo, 1, .string q.space)) (by simp)
        have k2 : z1.cell? ⟨bo, 2, none⟩ = some (.string q.channel) := hM2.cell (q := (bo, 2, .string q.channel)) (by simp)
        have k3x : z1.cell? ⟨bo, 3, none⟩ = some (.string q.user) := hM2.cell (q := (bo, 3, .string q.user)) (by simp)
        have k4 : z1.cell? ⟨bo, 4, none⟩ = some (.string q.text) := hM2.cell (q := (bo, 4, .string q.text)) (by simp)
        have e0 : z1.cell? ⟨b1, 0, none⟩ = some (.int .i64 E) := hM2.cell (q := (b1, 0, .int .i64 E)) (by simp)
        have e1 : z1.cell? ⟨b1, 1, none⟩ = some (.int .i64 A) := hM2.cell (q := (b1, 1, .int .i64 A)) (by simp)
        rw [hz1] at k0 k1 k2 k3x k4
        rw [hz1, hb1] at e0 e1
        have HNo : Hid (¬ (q.kind = 3 ∧ q.space = ⟨#[119]⟩ ∧ q.channel = ⟨#[99]⟩ ∧ E = 0) → Hid (Stt w B (Mo.does s q) (k + 1) u4 ss (w1.alloc (.cells #[.int .i64 E, .int .i64 A, .slice p m c] 29)))) := fun h => by
          have hw := Wc.other H5.out H6.out (s := s) (by rw [← hE]; exact h)
          refine ⟨by rw [hw]; exact HS.out.1, ?_, fun p hp => HS.out.2.2.1 p (by rw [← hw]; exact hp), Nat.le_succ_of_le HS.out.2.2.2⟩
          rw [← hz1]
          exact hM2.less (fun q hq => by cases hq)
        clear hM hM2 hm hE hA hb1 hz1
        by_cases h3 : q.kind = 3
        · have k3 : (q.kind == 3) = true := by simp [h3]
          have H3 : Hid (q.kind = 3) := h3
          clear h3
          have t119 : (⟨#[119]⟩ : ByteArray).toList = [119] := by rw [ByteArray.toList_eq]
          have t99 : (⟨#[99]⟩ : ByteArray).toList = [99] := by rw [ByteArray.toList_eq]
          by_cases hw : q.space = ⟨#[119]⟩
          · have hwb : (q.space.toList == [119]) = true := by rw [← t119, beqB]; exact decide_eq_true hw
            have Hw : Hid (q.space = ⟨#[119]⟩) := hw
            clear hw t119
            by_cases hc : q.channel = ⟨#[99]⟩
            · have hcb : (q.channel.toList == [99]) = true := by rw [← t99, beqB]; exact decide_eq_true hc
              have Hc : Hid (q.channel = ⟨#[99]⟩) := hc
              clear hc t99
              by_cases h0 : E = 0
              · have h0b : (E == 0) = true := by simp [h0]
                have HE0 : Hid (E = 0) := h0
                clear h0
                obtain ⟨pp, cc, hu4⟩ := Mt.form HS.out.2.1
                subst hu4
                have hpost := Wc.post H3.out Hw.out Hc.out (s := s) (by rw [← HM1.out.2.2.2.1]; exact HE0.out)
                have hAl : A = (ss.length : Int) := by rw [HM1.out.2.2.2.2, hpost.1, HS.out.1]; simp
                have hsz := may3 (may_of_err (s := s) (by rw [← HM1.out.2.2.2.1]; exact HE0.out)) H3.out
                have hs1 : q.user.size + 1 ≤ 9223372036854775807 := by omega
                have hs2 : (q.user ++ ⟨#[47]⟩).size + q.text.size ≤ 9223372036854775807 := by rw [ByteArray.size_append]; have : (⟨#[47]⟩ : ByteArray).size = 1 := rfl; omega
                subst hAl
                obtain ⟨x, hx⟩ : ∃ x, x = q.user ++ ⟨#[47]⟩ ++ q.text := ⟨_, rfl⟩
                have HX : Hid (x = tx ⟨q.user, q.text⟩ ∧ x = q.user ++ ⟨#[47]⟩ ++ q.text) := ⟨hx, hx⟩
                have hMz : Mt w (z1.alloc (.cells #[.string x] 9)) B (Mo.does s q) (k + 1) (.slice pp ss.length cc) ss [] := (HM1.out.1.below (below_alloc z1 _)).less (fun q hq => by cases hq)
                have HRw : Hid ((z1.alloc (.cells #[.string x] 9)).ownsRow w.heap.size 9 1 (.slice pp ss.length cc) ss.length (ss.map encStr)) := hMz.row
                have HNew : Hid (∀ j u, ([.string x] : List Value)[j]? = some u → (z1.alloc (.cells #[.string x] 9)).cell? ((⟨z1.heap.size, 0, none⟩ : Addr).add j) = some u) := fun j u hu => by
                  match j, hu with
                  | 0, hu => exact (World.cell?_alloc_mark _ _ _ _ 0).trans (by simpa using hu)
                  | j + 1, hu => simp at hu
                have HLn : Hid (ss.length + 1 ≤ maxLen ∧ (ss.length + 1) * 16 ≤ 140737488355328 ∧ w.heap.size ≤ (z1.alloc (.cells #[.string x] 9)).heap.size) := by
                  have q2 := HS.out.2.2.2
                  exact ⟨by unfold maxLen; omega, by omega, hMz.old.size⟩
                have HAp : Hid (∀ tv' Y, Y.ownsRow w.heap.size 9 1 tv' (ss.length + 1) (ss.map encStr ++ [.string x]) → (z1.alloc (.cells #[.string x] 9)).grownBy Y (Value.ownBlock (.slice pp ss.length cc)) → (tv'.ownBlock = Value.ownBlock (.slice pp ss.length cc) ∨ tv'.ownBlock = some (z1.heap.size + 1)) → Stt w B (Mo.does s q) (k + 1) tv' (ss ++ [x.data.toList]) Y) := fun tv' Y h1 h2 h3 => by
                  have e0 : (z1.alloc (.cells #[.string x] 9)).heap.size = z1.heap.size + 1 := by simp
                  rw [← e0] at h3
                  refine ⟨?_, hMz.push h2 (by rw [show encStr x.data.toList = .string x from by show Value.string _ = _; rw [back]]; exact h1) h3, fun p hp => ?_, ?_⟩
                  · rw [hpost.2, List.map_append, ← HS.out.1, HX.out.1]
                    rfl
                  · rw [hpost.2] at hp
                    rcases List.mem_append.1 hp with e | e
                    · exact HS.out.2.2.1 p e
                    · simp at e
                      rw [e]
                      exact hsz
                  · have := HS.out.2.2.2
                    rw [List.length_append]
                    simp
                    exact this
                obtain ⟨i, hi, he⟩ := Option.map_eq_some_iff.1 infoStr
                simp only [Prod.mk.injEq] at he
                have HIn : Hid (Try.prog.info? 9 = some i ∧ i.zero = some (.string ⟨#[]⟩) ∧ i.size = 1 ∧ i.bytes = 16) := ⟨hi, he.1, he.2.1, he.2.2⟩
                clear hi he hpost hsz hMz hx
                go_upto_region 14 with fail
                rw [← HM1.out.2.2.1] at k3x k4 ⊢
                clear k0 k1 k2 e0 e1
                go_wp2_with (first
                  | (at_builtin; rw [← HX.out.2]; refine wpList_append_own_at _ rfl (.tmp 61) (.tmp 68) 25 rfl w.heap.size 9 i (.string ⟨#[]⟩) 1 16 Try.underlying25 HIn.out.1 HIn.out.2.1 HIn.out.2.2.1 HIn.out.2.2.2 rfl (by decide) (.slice pp ss.length cc) ss.length (ss.map encStr) rfl HRw.out ⟨z1.heap.size, 0, none⟩ 1 1 [.string x] rfl rfl HNew.out (by intro u hu; simp at hu; subst hu; rfl) HLn.out.1 HLn.out.2.1 HLn.out.2.2 ?qnext)
                  | go_in)
                case qnext =>
                  intro v' w' ho hg _ ht
                  have HE : Hid (Stt w B (Mo.does s q) (k + 1) v' (ss ++ [x.data.toList]) w') := HAp.out v' w' ho hg ht
                  clear ho hg ht
                  try go_frame
                  go_wp2
                  go_roundw
                  case rel => exact ⟨k + 1, _, _, by go_num, by omega, by omega, HE⟩
                  case measure => simp [intOf]; omega
              · have h0b : (E == 0) = false := by simpa using h0
                have HE0 : Hid (¬ E = 0) := h0
                clear h0
                go_wp2
                go_roundw
                case rel => exact ⟨k + 1, _, _, by go_num, by omega, by omega, HNo.out (fun h => HE0.out h.2.2.2)⟩
                case measure => simp [intOf]; omega
            · have hcb : (q.channel.toList == [99]) = false := by rw [← t99, beqB]; exact decide_eq_false hc
              have Hc : Hid (¬ q.channel = ⟨#[99]⟩) := hc
              clear hc t99
              go_wp2
              go_roundw
              case rel => exact ⟨k + 1, _, _, by go_num, by omega, by omega, HNo.out (fun h => Hc.out h.2.2.1)⟩
              case measure => simp [intOf]; omega
          · have hwb : (q.space.toList == [119]) = false := by rw [← t119, beqB]; exact decide_eq_false hw
            have Hw : Hid (¬ q.space = ⟨#[119]⟩) := hw
            clear hw t119 t99
            go_wp2
            go_roundw
            case rel => exact ⟨k + 1, _, _, by go_num, by omega, by omega, HNo.out (fun h => Hw.out h.2.1)⟩
            case measure => simp [intOf]; omega
        · have k3 : (q.kind == 3) = false := by simp [h3]
          have H3 : Hid (¬ q.kind = 3) := h3
          clear h3
          go_wp2
          go_roundw
          case rel => exact ⟨k + 1, _, _, by go_num, by omega, by omega, HNo.out (fun h => H3.out h.1)⟩
          case measure => simp [intOf]; omega
      · have h200 : ¬ (k : Int) < 200 := by omega
        have hi1 : (k : Int) < (n0 : Int) := by omega
        have HL2 : Hid (Stt w B s (k + 0) u4 ss wr) := HS.out
        have HLs : Hid (ss.length ≤ 200 ∧ k ≤ 200) := by have := HS.out.2.2.2; exact ⟨by omega, hk1⟩
        clear HS
        obtain ⟨pp, cc, hu4⟩ := Mt.form HL2.out.2.1
        subst hu4
        go_wp2
        go_loopw [8] (fun iv wx => ∃ j : Nat, iv = .int .i64 (j : Int) ∧ j ≤ ss.length ∧ Hid (Stt w B s (k + j) (.slice pp ss.length cc) ss wx)) (fun iv _ => ss.length - (intOf iv).toNat)
        case atStart => exact ⟨0, rfl, Nat.zero_le _, HL2⟩
        case round =>
          clear HL2
          obtain ⟨j, rfl, hjl, HJ⟩ := hrel
          by_cases hlj : j < ss.length
          · obtain ⟨pu, pt, x, gg, hx, hpu, hpt, hpp, hcall⟩ := Stt.read HJ.out hlj HLs.out.2 HLs.out.1
            subst hpp
            have HC : Hid _ := hcall
            have hj0 : (0 : Int) ≤ (j : Int) := by omega
            have hj1 : (j : Int) < (ss.length : Int) := by omega
            have hj2 : (j : Int) < 200 := by have := HLs.out.1; omega
            have hwj : IntKind.i64.wrap ((j : Int) + 1) = (j : Int) + 1 := wraps_i64 _ (by omega) (by omega)
            have hs1 : pu.size + 1 ≤ 9223372036854775807 := by omega
            have hs2 : (pu ++ ⟨#[47]⟩).size + pt.size ≤ 9223372036854775807 := by rw [ByteArray.size_append]; have : (⟨#[47]⟩ : ByteArray).size = 1 := rfl; omega
            have hs3 : pu.size + 1 + pt.size ≤ 9223372036854775807 := by omega
            subst hx
            clear hcall hpu hpt
            go_wp2_with fail
            refine Calls.mono HC.out ?_
            rintro e w2 ⟨g, off, c, rfl, hcs, hS2⟩
            obtain ⟨w3, hw3⟩ : ∃ w3, w3 = w2.alloc (.cells #[.int .i64 0, .int .i64 ((j : Int) + 1), .slice (some ⟨g, off, none⟩) 1 (c + 1)] 29) := ⟨_, rfl⟩
            obtain ⟨bR, hbR⟩ : ∃ bR, bR = w2.heap.size := ⟨_, rfl⟩
            have h23 : Below w2.heap.size w2 w3 := by rw [hw3]; exact below_alloc _ _
            have hlR : bR < w3.heap.size := by rw [hw3, hbR]; simp
            have HSc : Hid (∀ X, Below w3.heap.size w3 X → X.cell? ⟨bR, 0, none⟩ = some (.int .i64 0) ∧ X.cell? ⟨bR, 1, none⟩ = some (.int .i64 ((j : Int) + 1)) ∧ X.cell? ⟨bR, 2, none⟩ = some (.slice (some ⟨g, off, none⟩) 1 (c + 1)) ∧ X.cell? ⟨g, off, none⟩ = some (.string pu) ∧ X.cell? ⟨g, off + 1, none⟩ = some (.string pt) ∧ X.cell? ⟨gg, j, none⟩ = some (.string (pu ++ ⟨#[47]⟩ ++ pt))) := fun X hX => by
              rw [hX.cell (p := ⟨bR, 0, none⟩) hlR, hX.cell (p := ⟨bR, 1, none⟩) hlR, hX.cell (p := ⟨bR, 2, none⟩) hlR]
              obtain ⟨q1, q2, q3⟩ := hcs X (h23.trans (hX.mono h23.size))
              refine ⟨?_, ?_, ?_, q1, q2, q3⟩
              · rw [hw3, hbR]; exact World.cell?_alloc_mark w2 _ _ _ 0
              · rw [hw3, hbR]; exact World.cell?_alloc_mark w2 _ _ _ 1
              · rw [hw3, hbR]; exact World.cell?_alloc_mark w2 _ _ _ 2
            have HS3 : Hid (Stt w B s (k + (j + 1)) (.slice (some ⟨gg, 0, none⟩) ss.length cc) ss w3.drew) := hS2.below (h23.trans ((Below.refl _ _).drew.mono h23.size))
            have hdz : Below w3.heap.size w3 w3.drew := (Below.refl _ _).drew
            clear hcs hS2 h23 hlR
            go_upto_region 19 with fail
            rw [← hw3, ← hbR]
            clear hw3 hbR
            have hS0 := HSc.out _ hdz
            refine wp_region_held_drew (S := fun X => X.cell? ⟨bR, 0, none⟩ = some (.int .i64 0) ∧ X.cell? ⟨bR, 1, none⟩ = some (.int .i64 ((j : Int) + 1)) ∧ X.cell? ⟨bR, 2, none⟩ = some (.slice (some ⟨g, off, none⟩) 1 (c + 1)) ∧ X.cell? ⟨g, off, none⟩ = some (.string pu) ∧ X.cell? ⟨g, off + 1, none⟩ = some (.string pt) ∧ X.cell? ⟨gg, j, none⟩ = some (.string (pu ++ ⟨#[47]⟩ ++ pt))) (by kernel_rfl) hS0 (fun hHeld => ?_)
            clear hS0
            refine take7 (i := 0) (d := 80) (v := .pointer (some ⟨bR, 0, none⟩)) rfl rfl (by kernel_rfl) (by kernel_rfl) (by kernel_rfl) (fun _ _ _ h => h) (Or.inl ⟨by rfl, ?_⟩) (by assumption) ?_
            · intro X hSw
              go_simp
            simp only [Act.put, List.setIfInBounds_toArray, List.set_cons_zero, List.set_cons_succ]
            refine take7 (i := 1) (d := 81) (v := .int .i64 0) rfl rfl (by kernel_rfl) (by kernel_rfl) (by kernel_rfl) (fun _ _ _ h => h) (Or.inl ⟨by rfl, ?_⟩) (by assumption) ?_
            · intro X hSw
              go_simp
            simp only [Act.put, List.setIfInBounds_toArray, List.set_cons_zero, List.set_cons_succ]
            refine take7 (i := 2) (d := 82) (v := .bool false) rfl rfl (by kernel_rfl) (by kernel_rfl) (by kernel_rfl) (fun _ _ _ h => h) (Or.inl ⟨by rfl, ?_⟩) (by assumption) ?_
            · intro X hSw
              go_simp
            simp only [Act.put, List.setIfInBounds_toArray, List.set_cons_zero, List.set_cons_succ]
            refine take7 (i := 3) (d := 83) (v := .bool false) rfl rfl (by kernel_rfl) (by kernel_rfl) (by kernel_rfl) (fun _ _ _ h => h) (Or.inl ⟨by rfl, ?_⟩) (by assumption) ?_
            · intro X hSw
              go_simp
            simp only [Act.put, List.setIfInBounds_toArray, List.set_cons_zero, List.set_cons_succ]
            refine take7 (i := 4) (d := 84) (v := .pointer (some ⟨bR, 1, none⟩)) rfl rfl (by kernel_rfl) (by kernel_rfl) (by kernel_rfl) (fun _ _ _ h => h) (Or.inl ⟨by rfl, ?_⟩) (by assumption) ?_
            · intro X hSw
              go_simp
            simp only [Act.put, List.setIfInBounds_toArray, List.set_cons_zero, List.set_cons_succ]
            refine take7 (i := 5) (d := 85) (v := .int .i64 ((j : Int) + 1)) rfl rfl (by kernel_rfl) (by kernel_rfl) (by kernel_rfl) (fun _ _ _ h => h) (Or.inl ⟨by rfl, ?_⟩) (by assumption) ?_
            · intro X hSw
              go_simp
            simp only [Act.put, List.setIfInBounds_toArray, List.set_cons_zero, List.set_cons_succ]
            refine take7 (i := 6) (d := 86) (v := .int .i64 (j : Int)) rfl rfl (by kernel_rfl) (by kernel_rfl) (by kernel_rfl) (fun _ _ _ h => h) (Or.inl ⟨by rfl, ?_⟩) (by assumption) ?_
            · intro X hSw
              go_simp
            simp only [Act.put, List.setIfInBounds_toArray, List.set_cons_zero, List.set_cons_succ]
            refine take7 (i := 7) (d := 87) (v := .int .i64 ((j : Int) + 1)) rfl rfl (by kernel_rfl) (by kernel_rfl) (by kernel_rfl) (fun _ _ _ h => h) (Or.inl ⟨by rfl, ?_⟩) (by assumption) ?_
            · intro X hSw
              go_simp
            simp only [Act.put, List.setIfInBounds_toArray, List.set_cons_zero, List.set_cons_succ]
            refine take7 (i := 8) (d := 88) (v := .bool false) rfl rfl (by kernel_rfl) (by kernel_rfl) (by kernel_rfl) (fun _ _ _ h => h) (Or.inl ⟨by rfl, ?_⟩) (by assumption) ?_
            · intro X hSw
              go_simp
            simp only [Act.put, List.setIfInBounds_toArray, List.set_cons_zero, List.set_cons_succ]
            refine take7 (i := 9) (d := 89) (v := .bool false) rfl rfl (by kernel_rfl) (by kernel_rfl) (by kernel_rfl) (fun _ _ _ h => h) (Or.inl ⟨by rfl, ?_⟩) (by assumption) ?_
            · intro X hSw
              go_simp
            simp only [Act.put, List.setIfInBounds_toArray, List.set_cons_zero, List.set_cons_succ]
            refine take7 (i := 10) (d := 90) (v := .bool false) rfl rfl (by kernel_rfl) (by kernel_rfl) (by kernel_rfl) (fun _ _ _ h => h) (Or.inl ⟨by rfl, ?_⟩) (by assumption) ?_
            · intro X hSw
              go_simp
            simp only [Act.put, List.setIfInBounds_toArray, List.set_cons_zero, List.set_cons_succ]
            refine take7 (i := 11) (d := 91) (v := .pointer (some ⟨bR, 2, none⟩)) rfl rfl (by kernel_rfl) (by kernel_rfl) (by kernel_rfl) (fun _ _ _ h => h) (Or.inl ⟨by rfl, ?_⟩) (by assumption) ?_
            · intro X hSw
              go_simp
            simp only [Act.put, List.setIfInBounds_toArray, List.set_cons_zero, List.set_cons_succ]
            refine take7 (i := 12) (d := 92) (v := .slice (some ⟨g, off, none⟩) 1 (c + 1)) rfl rfl (by kernel_rfl) (by kernel_rfl) (by kernel_rfl) (fun _ _ _ h => h) (Or.inl ⟨by rfl, ?_⟩) (by assumption) ?_
            · intro X hSw
              go_simp
            simp only [Act.put, List.setIfInBounds_toArray, List.set_cons_zero, List.set_cons_succ]
            refine take7 (i := 13) (d := 93) (v := .int .i64 1) rfl rfl (by kernel_rfl) (by kernel_rfl) (by kernel_rfl) (fun _ _ _ h => h) (Or.inl ⟨by rfl, ?_⟩) (by assumption) ?_
            · intro X hSw
              go_simp
            simp only [Act.put, List.setIfInBounds_toArray, List.set_cons_zero, List.set_cons_succ]
            refine take7 (i := 14) (d := 94) (v := .bool false) rfl rfl (by kernel_rfl) (by kernel_rfl) (by kernel_rfl) (fun _ _ _ h => h) (Or.inl ⟨by rfl, ?_⟩) (by assumption) ?_
            · intro X hSw
              go_simp
            simp only [Act.put, List.setIfInBounds_toArray, List.set_cons_zero, List.set_cons_succ]
            refine take7 (i := 15) (d := 95) (v := .bool false) rfl rfl (by kernel_rfl) (by kernel_rfl) (by kernel_rfl) (fun _ _ _ h => h) (Or.inl ⟨by rfl, ?_⟩) (by assumption) ?_
            · intro X hSw
              go_simp
            simp only [Act.put, List.setIfInBounds_toArray, List.set_cons_zero, List.set_cons_succ]
            refine take7 (i := 16) (d := 96) (v := .bool false) rfl rfl (by kernel_rfl) (by kernel_rfl) (by kernel_rfl) (fun _ _ _ h => h) (Or.inl ⟨by rfl, ?_⟩) (by assumption) ?_
            · intro X hSw
              go_simp
            simp only [Act.put, List.setIfInBounds_toArray, List.set_cons_zero, List.set_cons_succ]
            refine take7 (i := 17) (d := 97) (v := .pointer (some ⟨bR, 2, none⟩)) rfl rfl (by kernel_rfl) (by kernel_rfl) (by kernel_rfl) (fun _ _ _ h => h) (Or.inl ⟨by rfl, ?_⟩) (by assumption) ?_
            · intro X hSw
              go_simp
            simp only [Act.put, List.setIfInBounds_toArray, List.set_cons_zero, List.set_cons_succ]
            refine take7 (i := 18) (d := 98) (v := .slice (some ⟨g, off, none⟩) 1 (c + 1)) rfl rfl (by kernel_rfl) (by kernel_rfl) (by kernel_rfl) (fun _ _ _ h => h) (Or.inl ⟨by rfl, ?_⟩) (by assumption) ?_
            · intro X hSw
              go_simp
            simp only [Act.put, List.setIfInBounds_toArray, List.set_cons_zero, List.set_cons_succ]
            refine take7 (i := 19) (d := 99) (v := .pointer (some ⟨g, off, none⟩)) rfl rfl (by kernel_rfl) (by kernel_rfl) (by kernel_rfl) (fun _ _ _ h => h) (Or.inl ⟨by rfl, ?_⟩) (by assumption) ?_
            · intro X hSw
              go_simp
            simp only [Act.put, List.setIfInBounds_toArray, List.set_cons_zero, List.set_cons_succ]
            refine take7 (i := 20) (d := 100) (v := .pointer (some ⟨g, off, none⟩)) rfl rfl (by kernel_rfl) (by kernel_rfl) (by kernel_rfl) (fun _ _ _ h => h) (Or.inl ⟨by rfl, ?_⟩) (by assumption) ?_
            · intro X hSw
              go_simp
            simp only [Act.put, List.setIfInBounds_toArray, List.set_cons_zero, List.set_cons_succ]
            refine take7 (i := 21) (d := 101) (v := .string pu) rfl rfl (by kernel_rfl) (by kernel_rfl) (by kernel_rfl) (fun _ _ _ h => h) (Or.inl ⟨by rfl, ?_⟩) (by assumption) ?_
            · intro X hSw
              go_simp
            simp only [Act.put, List.setIfInBounds_toArray, List.set_cons_zero, List.set_cons_succ]
            refine take7 (i := 22) (d := 102) (v := .string (pu ++ ⟨#[47]⟩)) rfl rfl (by kernel_rfl) (by kernel_rfl) (by kernel_rfl) (fun _ _ _ h => h) (Or.inl ⟨by rfl, ?_⟩) (by assumption) ?_
            · intro X hSw
              go_simp
            simp only [Act.put, List.setIfInBounds_toArray, List.set_cons_zero, List.set_cons_succ]
            refine take7 (i := 23) (d := 103) (v := .pointer (some ⟨bR, 2, none⟩)) rfl rfl (by kernel_rfl) (by kernel_rfl) (by kernel_rfl) (fun _ _ _ h => h) (Or.inl ⟨by rfl, ?_⟩) (by assumption) ?_
            · intro X hSw
              go_simp
            simp only [Act.put, List.setIfInBounds_toArray, List.set_cons_zero, List.set_cons_succ]
            refine take7 (i := 24) (d := 104) (v := .slice (some ⟨g, off, none⟩) 1 (c + 1)) rfl rfl (by kernel_rfl) (by kernel_rfl) (by kernel_rfl) (fun _ _ _ h => h) (Or.inl ⟨by rfl, ?_⟩) (by assumption) ?_
            · intro X hSw
              go_simp
            simp only [Act.put, List.setIfInBounds_toArray, List.set_cons_zero, List.set_cons_succ]
            refine take7 (i := 25) (d := 105) (v := .pointer (some ⟨g, off, none⟩)) rfl rfl (by kernel_rfl) (by kernel_rfl) (by kernel_rfl) (fun _ _ _ h => h) (Or.inl ⟨by rfl, ?_⟩) (by assumption) ?_
            · intro X hSw
              go_simp
            simp only [Act.put, List.setIfInBounds_toArray, List.set_cons_zero, List.set_cons_succ]
            refine take7 (i := 26) (d := 106) (v := .pointer (some ⟨g, off + 1, none⟩)) rfl rfl (by kernel_rfl) (by kernel_rfl) (by kernel_rfl) (fun _ _ _ h => h) (Or.inl ⟨by rfl, ?_⟩) (by assumption) ?_
            · intro X hSw
              go_simp
            simp only [Act.put, List.setIfInBounds_toArray, List.set_cons_zero, List.set_cons_succ]
            refine take7 (i := 27) (d := 107) (v := .string pt) rfl rfl (by kernel_rfl) (by kernel_rfl) (by kernel_rfl) (fun _ _ _ h => h) (Or.inl ⟨by rfl, ?_⟩) (by assumption) ?_
            · intro X hSw
              go_simp
            simp only [Act.put, List.setIfInBounds_toArray, List.set_cons_zero, List.set_cons_succ]
            refine take7 (i := 28) (d := 108) (v := .string (pu ++ ⟨#[47]⟩ ++ pt)) rfl rfl (by kernel_rfl) (by kernel_rfl) (by kernel_rfl) (fun _ _ _ h => h) (Or.inl ⟨by rfl, ?_⟩) (by assumption) ?_
            · intro X hSw
              go_simp
            simp only [Act.put, List.setIfInBounds_toArray, List.set_cons_zero, List.set_cons_succ]
            refine take7 (i := 29) (d := 109) (v := .slice (some ⟨gg, 0, none⟩) ss.length cc) rfl rfl (by kernel_rfl) (by kernel_rfl) (by kernel_rfl) (fun _ _ _ h => h) (Or.inl ⟨by rfl, ?_⟩) (by assumption) ?_
            · intro X hSw
              go_simp
            simp only [Act.put, List.setIfInBounds_toArray, List.set_cons_zero, List.set_cons_succ]
            refine take7 (i := 30) (d := 110) (v := .int .i64 (j : Int)) rfl rfl (by kernel_rfl) (by kernel_rfl) (by kernel_rfl) (fun _ _ _ h => h) (Or.inl ⟨by rfl, ?_⟩) (by assumption) ?_
            · intro X hSw
              go_simp
            simp only [Act.put, List.setIfInBounds_toArray, List.set_cons_zero, List.set_cons_succ]
            refine take7 (i := 31) (d := 111) (v := .pointer (some ⟨gg, j, none⟩)) rfl rfl (by kernel_rfl) (by kernel_rfl) (by kernel_rfl) (fun _ _ _ h => h) (Or.inl ⟨by rfl, ?_⟩) (by assumption) ?_
            · intro X hSw
              go_simp
            simp only [Act.put, List.setIfInBounds_toArray, List.set_cons_zero, List.set_cons_succ]
            refine take7 (i := 32) (d := 112) (v := .string (pu ++ ⟨#[47]⟩ ++ pt)) rfl rfl (by kernel_rfl) (by kernel_rfl) (by kernel_rfl) (fun _ _ _ h => h) (Or.inl ⟨by rfl, ?_⟩) (by assumption) ?_
            · intro X hSw
              go_simp
            simp only [Act.put, List.setIfInBounds_toArray, List.set_cons_zero, List.set_cons_succ]
            refine take7 (i := 33) (d := 113) (v := .bool false) rfl rfl (by kernel_rfl) (by kernel_rfl) (by kernel_rfl) (fun _ _ _ h => h) (Or.inl ⟨by rfl, ?_⟩) (by assumption) ?_
            · intro X hSw
              go_simp
            simp only [Act.put, List.setIfInBounds_toArray, List.set_cons_zero, List.set_cons_succ]
            refine take7 (i := 34) (d := 114) (v := .bool false) rfl rfl (by kernel_rfl) (by kernel_rfl) (by kernel_rfl) (fun _ _ _ h => h) (Or.inl ⟨by rfl, ?_⟩) (by assumption) ?_
            · intro X hSw
              go_simp
            simp only [Act.put, List.setIfInBounds_toArray, List.set_cons_zero, List.set_cons_succ]
            refine wpAnyH_done (by kernel_rfl) ?_ _
            clear hdz
            go_wp2
            go_roundw
            case rel => exact ⟨j + 1, by go_num, by omega, HS3⟩
            case measure => simp [intOf]; omega
          · obtain rfl : j = ss.length := by omega
            have HOl : Hid (Below w.heap.size w wr) := HJ.out.old
            go_wp2_with fail
            refine (HA.out _).mono ?_
            rintro e w3 ⟨rfl, hb3⟩
            have HB3 : Hid _ := hb3
            clear hb3
            go_wp2
            go_ret
            exact ⟨rfl, HOl.out.trans (HB3.out.mono HOl.out.size)⟩
    · have hi1 : ¬ (k : Int) < (n0 : Int) := by omega
      have HL2 : Hid (Stt w B s (k + 0) u4 ss wr) := HS.out
      have HLs : Hid (ss.length ≤ 200 ∧ k ≤ 200) := by have := HS.out.2.2.2; exact ⟨by omega, hk1⟩
      clear HS
      obtain ⟨pp, cc, hu4⟩ := Mt.form HL2.out.2.1
      subst hu4
      go_wp2
      go_loopw [8] (fun iv wx => ∃ j : Nat, iv = .int .i64 (j : Int) ∧ j ≤ ss.length ∧ Hid (Stt w B s (k + j) (.slice pp ss.length cc) ss wx)) (fun iv _ => ss.length - (intOf iv).toNat)
      case atStart => exact ⟨0, rfl, Nat.zero_le _, HL2⟩
      case round =>
        clear HL2
        obtain ⟨j, rfl, hjl, HJ⟩ := hrel
        by_cases hlj : j < ss.length
        · obtain ⟨pu, pt, x, gg, hx, hpu, hpt, hpp, hcall⟩ := Stt.read HJ.out hlj HLs.out.2 HLs.out.1
          subst hpp
          have HC : Hid _ := hcall
          have hj0 : (0 : Int) ≤ (j : Int) := by omega
          have hj1 : (j : Int) < (ss.length : Int) := by omega
          have hj2 : (j : Int) < 200 := by have := HLs.out.1; omega
          have hwj : IntKind.i64.wrap ((j : Int) + 1) = (j : Int) + 1 := wraps_i64 _ (by omega) (by omega)
          have hs1 : pu.size + 1 ≤ 9223372036854775807 := by omega
          have hs2 : (pu ++ ⟨#[47]⟩).size + pt.size ≤ 9223372036854775807 := by rw [ByteArray.size_append]; have : (⟨#[47]⟩ : ByteArray).size = 1 := rfl; omega
          have hs3 : pu.size + 1 + pt.size ≤ 9223372036854775807 := by omega
          subst hx
          clear hcall hpu hpt
          go_wp2_with fail
          refine Calls.mono HC.out ?_
          rintro e w2 ⟨g, off, c, rfl, hcs, hS2⟩
          obtain ⟨w3, hw3⟩ : ∃ w3, w3 = w2.alloc (.cells #[.int .i64 0, .int .i64 ((j : Int) + 1), .slice (some ⟨g, off, none⟩) 1 (c + 1)] 29) := ⟨_, rfl⟩
          obtain ⟨bR, hbR⟩ : ∃ bR, bR = w2.heap.size := ⟨_, rfl⟩
          have h23 : Below w2.heap.size w2 w3 := by rw [hw3]; exact below_alloc _ _
          have hlR : bR < w3.heap.size := by rw [hw3, hbR]; simp
          have HSc : Hid (∀ X, Below w3.heap.size w3 X → X.cell? ⟨bR, 0, none⟩ = some (.int .i64 0) ∧ X.cell? ⟨bR, 1, none⟩ = some (.int .i64 ((j : Int) + 1)) ∧ X.cell? ⟨bR, 2, none⟩ = some (.slice (some ⟨g, off, none⟩) 1 (c + 1)) ∧ X.cell? ⟨g, off, none⟩ = some (.string pu) ∧ X.cell? ⟨g, off + 1, none⟩ = some (.string pt) ∧ X.cell? ⟨gg, j, none⟩ = some (.string (pu ++ ⟨#[47]⟩ ++ pt))) := fun X hX => by
            rw [hX.cell (p := ⟨bR, 0, none⟩) hlR, hX.cell (p := ⟨bR, 1, none⟩) hlR, hX.cell (p := ⟨bR, 2, none⟩) hlR]
            obtain ⟨q1, q2, q3⟩ := hcs X (h23.trans (hX.mono h23.size))
            refine ⟨?_, ?_, ?_, q1, q2, q3⟩
            · rw [hw3, hbR]; exact World.cell?_alloc_mark w2 _ _ _ 0
            · rw [hw3, hbR]; exact World.cell?_alloc_mark w2 _ _ _ 1
            · rw [hw3, hbR]; exact World.cell?_alloc_mark w2 _ _ _ 2
          have HS3 : Hid (Stt w B s (k + (j + 1)) (.slice (some ⟨gg, 0, none⟩) ss.length cc) ss w3.drew) := hS2.below (h23.trans ((Below.refl _ _).drew.mono h23.size))
          have hdz : Below w3.heap.size w3 w3.drew := (Below.refl _ _).drew
          clear hcs hS2 h23 hlR
          go_upto_region 19 with fail
          rw [← hw3, ← hbR]
          clear hw3 hbR
          have hS0 := HSc.out _ hdz
          refine wp_region_held_drew (S := fun X => X.cell? ⟨bR, 0, none⟩ = some (.int .i64 0) ∧ X.cell? ⟨bR, 1, none⟩ = some (.int .i64 ((j : Int) + 1)) ∧ X.cell? ⟨bR, 2, none⟩ = some (.slice (some ⟨g, off, none⟩) 1 (c + 1)) ∧ X.cell? ⟨g, off, none⟩ = some (.string pu) ∧ X.cell? ⟨g, off + 1, none⟩ = some (.string pt) ∧ X.cell? ⟨gg, j, none⟩ = some (.string (pu ++ ⟨#[47]⟩ ++ pt))) (by kernel_rfl) hS0 (fun hHeld => ?_)
          clear hS0
          refine take7 (i := 0) (d := 80) (v := .pointer (some ⟨bR, 0, none⟩)) rfl rfl (by kernel_rfl) (by kernel_rfl) (by kernel_rfl) (fun _ _ _ h => h) (Or.inl ⟨by rfl, ?_⟩) (by assumption) ?_
          · intro X hSw
            go_simp
          simp only [Act.put, List.setIfInBounds_toArray, List.set_cons_zero, List.set_cons_succ]
          refine take7 (i := 1) (d := 81) (v := .int .i64 0) rfl rfl (by kernel_rfl) (by kernel_rfl) (by kernel_rfl) (fun _ _ _ h => h) (Or.inl ⟨by rfl, ?_⟩) (by assumption) ?_
          · intro X hSw
            go_simp
          simp only [Act.put, List.setIfInBounds_toArray, List.set_cons_zero, List.set_cons_succ]
          refine take7 (i := 2) (d := 82) (v := .bool false) rfl rfl (by kernel_rfl) (by kernel_rfl) (by kernel_rfl) (fun _ _ _ h => h) (Or.inl ⟨by rfl, ?_⟩) (by assumption) ?_
          · intro X hSw
            go_simp
          simp only [Act.put, List.setIfInBounds_toArray, List.set_cons_zero, List.set_cons_succ]
          refine take7 (i := 3) (d := 83) (v := .bool false) rfl rfl (by kernel_rfl) (by kernel_rfl) (by kernel_rfl) (fun _ _ _ h => h) (Or.inl ⟨by rfl, ?_⟩) (by assumption) ?_
          · intro X hSw
            go_simp
          simp only [Act.put, List.setIfInBounds_toArray, List.set_cons_zero, List.set_cons_succ]
          refine take7 (i := 4) (d := 84) (v := .pointer (some ⟨bR, 1, none⟩)) rfl rfl (by kernel_rfl) (by kernel_rfl) (by kernel_rfl) (fun _ _ _ h => h) (Or.inl ⟨by rfl, ?_⟩) (by assumption) ?_
          · intro X hSw
            go_simp
          simp only [Act.put, List.setIfInBounds_toArray, List.set_cons_zero, List.set_cons_succ]
          refine take7 (i := 5) (d := 85) (v := .int .i64 ((j : Int) + 1)) rfl rfl (by kernel_rfl) (by kernel_rfl) (by kernel_rfl) (fun _ _ _ h => h) (Or.inl ⟨by rfl, ?_⟩) (by assumption) ?_
          · intro X hSw
            go_simp
          simp only [Act.put, List.setIfInBounds_toArray, List.set_cons_zero, List.set_cons_succ]
          refine take7 (i := 6) (d := 86) (v := .int .i64 (j : Int)) rfl rfl (by kernel_rfl) (by kernel_rfl) (by kernel_rfl) (fun _ _ _ h => h) (Or.inl ⟨by rfl, ?_⟩) (by assumption) ?_
          · intro X hSw
            go_simp
          simp only [Act.put, List.setIfInBounds_toArray, List.set_cons_zero, List.set_cons_succ]
          refine take7 (i := 7) (d := 87) (v := .int .i64 ((j : Int) + 1)) rfl rfl (by kernel_rfl) (by kernel_rfl) (by kernel_rfl) (fun _ _ _ h => h) (Or.inl ⟨by rfl, ?_⟩) (by assumption) ?_
          · intro X hSw
            go_simp
          simp only [Act.put, List.setIfInBounds_toArray, List.set_cons_zero, List.set_cons_succ]
          refine take7 (i := 8) (d := 88) (v := .bool false) rfl rfl (by kernel_rfl) (by kernel_rfl) (by kernel_rfl) (fun _ _ _ h => h) (Or.inl ⟨by rfl, ?_⟩) (by assumption) ?_
          · intro X hSw
            go_simp
          simp only [Act.put, List.setIfInBounds_toArray, List.set_cons_zero, List.set_cons_succ]
          refine take7 (i := 9) (d := 89) (v := .bool false) rfl rfl (by kernel_rfl) (by kernel_rfl) (by kernel_rfl) (fun _ _ _ h => h) (Or.inl ⟨by rfl, ?_⟩) (by assumption) ?_
          · intro X hSw
            go_simp
          simp only [Act.put, List.setIfInBounds_toArray, List.set_cons_zero, List.set_cons_succ]
          refine take7 (i := 10) (d := 90) (v := .bool false) rfl rfl (by kernel_rfl) (by kernel_rfl) (by kernel_rfl) (fun _ _ _ h => h) (Or.inl ⟨by rfl, ?_⟩) (by assumption) ?_
          · intro X hSw
            go_simp
          simp only [Act.put, List.setIfInBounds_toArray, List.set_cons_zero, List.set_cons_succ]
          refine take7 (i := 11) (d := 91) (v := .pointer (some ⟨bR, 2, none⟩)) rfl rfl (by kernel_rfl) (by kernel_rfl) (by kernel_rfl) (fun _ _ _ h => h) (Or.inl ⟨by rfl, ?_⟩) (by assumption) ?_
          · intro X hSw
            go_simp
          simp only [Act.put, List.setIfInBounds_toArray, List.set_cons_zero, List.set_cons_succ]
          refine take7 (i := 12) (d := 92) (v := .slice (some ⟨g, off, none⟩) 1 (c + 1)) rfl rfl (by kernel_rfl) (by kernel_rfl) (by kernel_rfl) (fun _ _ _ h => h) (Or.inl ⟨by rfl, ?_⟩) (by assumption) ?_
          · intro X hSw
            go_simp
          simp only [Act.put, List.setIfInBounds_toArray, List.set_cons_zero, List.set_cons_succ]
          refine take7 (i := 13) (d := 93) (v := .int .i64 1) rfl rfl (by kernel_rfl) (by kernel_rfl) (by kernel_rfl) (fun _ _ _ h => h) (Or.inl ⟨by rfl, ?_⟩) (by assumption) ?_
          · intro X hSw
            go_simp
          simp only [Act.put, List.setIfInBounds_toArray, List.set_cons_zero, List.set_cons_succ]
          refine take7 (i := 14) (d := 94) (v := .bool false) rfl rfl (by kernel_rfl) (by kernel_rfl) (by kernel_rfl) (fun _ _ _ h => h) (Or.inl ⟨by rfl, ?_⟩) (by assumption) ?_
          · intro X hSw
            go_simp
          simp only [Act.put, List.setIfInBounds_toArray, List.set_cons_zero, List.set_cons_succ]
          refine take7 (i := 15) (d := 95) (v := .bool false) rfl rfl (by kernel_rfl) (by kernel_rfl) (by kernel_rfl) (fun _ _ _ h => h) (Or.inl ⟨by rfl, ?_⟩) (by assumption) ?_
          · intro X hSw
            go_simp
          simp only [Act.put, List.setIfInBounds_toArray, List.set_cons_zero, List.set_cons_succ]
          refine take7 (i := 16) (d := 96) (v := .bool false) rfl rfl (by kernel_rfl) (by kernel_rfl) (by kernel_rfl) (fun _ _ _ h => h) (Or.inl ⟨by rfl, ?_⟩) (by assumption) ?_
          · intro X hSw
            go_simp
          simp only [Act.put, List.setIfInBounds_toArray, List.set_cons_zero, List.set_cons_succ]
          refine take7 (i := 17) (d := 97) (v := .pointer (some ⟨bR, 2, none⟩)) rfl rfl (by kernel_rfl) (by kernel_rfl) (by kernel_rfl) (fun _ _ _ h => h) (Or.inl ⟨by rfl, ?_⟩) (by assumption) ?_
          · intro X hSw
            go_simp
          simp only [Act.put, List.setIfInBounds_toArray, List.set_cons_zero, List.set_cons_succ]
          refine take7 (i := 18) (d := 98) (v := .slice (some ⟨g, off, none⟩) 1 (c + 1)) rfl rfl (by kernel_rfl) (by kernel_rfl) (by kernel_rfl) (fun _ _ _ h => h) (Or.inl ⟨by rfl, ?_⟩) (by assumption) ?_
          · intro X hSw
            go_simp
          simp only [Act.put, List.setIfInBounds_toArray, List.set_cons_zero, List.set_cons_succ]
          refine take7 (i := 19) (d := 99) (v := .pointer (some ⟨g, off, none⟩)) rfl rfl (by kernel_rfl) (by kernel_rfl) (by kernel_rfl) (fun _ _ _ h => h) (Or.inl ⟨by rfl, ?_⟩) (by assumption) ?_
          · intro X hSw
            go_simp
          simp only [Act.put, List.setIfInBounds_toArray, List.set_cons_zero, List.set_cons_succ]
          refine take7 (i := 20) (d := 100) (v := .pointer (some ⟨g, off, none⟩)) rfl rfl (by kernel_rfl) (by kernel_rfl) (by kernel_rfl) (fun _ _ _ h => h) (Or.inl ⟨by rfl, ?_⟩) (by assumption) ?_
          · intro X hSw
            go_simp
          simp only [Act.put, List.setIfInBounds_toArray, List.set_cons_zero, List.set_cons_succ]
          refine take7 (i := 21) (d := 101) (v := .string pu) rfl rfl (by kernel_rfl) (by kernel_rfl) (by kernel_rfl) (fun _ _ _ h => h) (Or.inl ⟨by rfl, ?_⟩) (by assumption) ?_
          · intro X hSw
            go_simp
          simp only [Act.put, List.setIfInBounds_toArray, List.set_cons_zero, List.set_cons_succ]
          refine take7 (i := 22) (d := 102) (v := .string (pu ++ ⟨#[47]⟩)) rfl rfl (by kernel_rfl) (by kernel_rfl) (by kernel_rfl) (fun _ _ _ h => h) (Or.inl ⟨by rfl, ?_⟩) (by assumption) ?_
          · intro X hSw
            go_simp
          simp only [Act.put, List.setIfInBounds_toArray, List.set_cons_zero, List.set_cons_succ]
          refine take7 (i := 23) (d := 103) (v := .pointer (some ⟨bR, 2, none⟩)) rfl rfl (by kernel_rfl) (by kernel_rfl) (by kernel_rfl) (fun _ _ _ h => h) (Or.inl ⟨by rfl, ?_⟩) (by assumption) ?_
          · intro X hSw
            go_simp
          simp only [Act.put, List.setIfInBounds_toArray, List.set_cons_zero, List.set_cons_succ]
          refine take7 (i := 24) (d := 104) (v := .slice (some ⟨g, off, none⟩) 1 (c + 1)) rfl rfl (by kernel_rfl) (by kernel_rfl) (by kernel_rfl) (fun _ _ _ h => h) (Or.inl ⟨by rfl, ?_⟩) (by assumption) ?_
          · intro X hSw
            go_simp
          simp only [Act.put, List.setIfInBounds_toArray, List.set_cons_zero, List.set_cons_succ]
          refine take7 (i := 25) (d := 105) (v := .pointer (some ⟨g, off, none⟩)) rfl rfl (by kernel_rfl) (by kernel_rfl) (by kernel_rfl) (fun _ _ _ h => h) (Or.inl ⟨by rfl, ?_⟩) (by assumption) ?_
          · intro X hSw
            go_simp
          simp only [Act.put, List.setIfInBounds_toArray, List.set_cons_zero, List.set_cons_succ]
          refine take7 (i := 26) (d := 106) (v := .pointer (some ⟨g, off + 1, none⟩)) rfl rfl (by kernel_rfl) (by kernel_rfl) (by kernel_rfl) (fun _ _ _ h => h) (Or.inl ⟨by rfl, ?_⟩) (by assumption) ?_
          · intro X hSw
            go_simp
          simp only [Act.put, List.setIfInBounds_toArray, List.set_cons_zero, List.set_cons_succ]
          refine take7 (i := 27) (d := 107) (v := .string pt) rfl rfl (by kernel_rfl) (by kernel_rfl) (by kernel_rfl) (fun _ _ _ h => h) (Or.inl ⟨by rfl, ?_⟩) (by assumption) ?_
          · intro X hSw
            go_simp
          simp only [Act.put, List.setIfInBounds_toArray, List.set_cons_zero, List.set_cons_succ]
          refine take7 (i := 28) (d := 108) (v := .string (pu ++ ⟨#[47]⟩ ++ pt)) rfl rfl (by kernel_rfl) (by kernel_rfl) (by kernel_rfl) (fun _ _ _ h => h) (Or.inl ⟨by rfl, ?_⟩) (by assumption) ?_
          · intro X hSw
            go_simp
          simp only [Act.put, List.setIfInBounds_toArray, List.set_cons_zero, List.set_cons_succ]
          refine take7 (i := 29) (d := 109) (v := .slice (some ⟨gg, 0, none⟩) ss.length cc) rfl rfl (by kernel_rfl) (by kernel_rfl) (by kernel_rfl) (fun _ _ _ h => h) (Or.inl ⟨by rfl, ?_⟩) (by assumption) ?_
          · intro X hSw
            go_simp
          simp only [Act.put, List.setIfInBounds_toArray, List.set_cons_zero, List.set_cons_succ]
          refine take7 (i := 30) (d := 110) (v := .int .i64 (j : Int)) rfl rfl (by kernel_rfl) (by kernel_rfl) (by kernel_rfl) (fun _ _ _ h => h) (Or.inl ⟨by rfl, ?_⟩) (by assumption) ?_
          · intro X hSw
            go_simp
          simp only [Act.put, List.setIfInBounds_toArray, List.set_cons_zero, List.set_cons_succ]
          refine take7 (i := 31) (d := 111) (v := .pointer (some ⟨gg, j, none⟩)) rfl rfl (by kernel_rfl) (by kernel_rfl) (by kernel_rfl) (fun _ _ _ h => h) (Or.inl ⟨by rfl, ?_⟩) (by assumption) ?_
          · intro X hSw
            go_simp
          simp only [Act.put, List.setIfInBounds_toArray, List.set_cons_zero, List.set_cons_succ]
          refine take7 (i := 32) (d := 112) (v := .string (pu ++ ⟨#[47]⟩ ++ pt)) rfl rfl (by kernel_rfl) (by kernel_rfl) (by kernel_rfl) (fun _ _ _ h => h) (Or.inl ⟨by rfl, ?_⟩) (by assumption) ?_
          · intro X hSw
            go_simp
          simp only [Act.put, List.setIfInBounds_toArray, List.set_cons_zero, List.set_cons_succ]
          refine take7 (i := 33) (d := 113) (v := .bool false) rfl rfl (by kernel_rfl) (by kernel_rfl) (by kernel_rfl) (fun _ _ _ h => h) (Or.inl ⟨by rfl, ?_⟩) (by assumption) ?_
          · intro X hSw
            go_simp
          simp only [Act.put, List.setIfInBounds_toArray, List.set_cons_zero, List.set_cons_succ]
          refine take7 (i := 34) (d := 114) (v := .bool false) rfl rfl (by kernel_rfl) (by kernel_rfl) (by kernel_rfl) (fun _ _ _ h => h) (Or.inl ⟨by rfl, ?_⟩) (by assumption) ?_
          · intro X hSw
            go_simp
          simp only [Act.put, List.setIfInBounds_toArray, List.set_cons_zero, List.set_cons_succ]
          refine wpAnyH_done (by kernel_rfl) ?_ _
          clear hdz
          go_wp2
          go_roundw
          case rel => exact ⟨j + 1, by go_num, by omega, HS3⟩
          case measure => simp [intOf]; omega
        · obtain rfl : j = ss.length := by omega
          have HOl : Hid (Below w.heap.size w wr) := HJ.out.old
          go_wp2_with fail
          refine (HA.out _).mono ?_
          rintro e w3 ⟨rfl, hb3⟩
          have HB3 : Hid _ := hb3
          clear hb3
          go_wp2
          go_ret
          exact ⟨rfl, HOl.out.trans (HB3.out.mono HOl.out.size)⟩

theorem laidOut : laidOutB Try.prog = true := by kernel_rfl

theorem own : ownKnob Try.prog.godebug = none := by kernel_rfl

set_option maxRecDepth 100000 in
theorem lifted (os : Os) (started : os.Started) (H : Type) (enc : TypeId × Value → H) :
    ReturnsInHanded {} Try.checked os 4 .any (Rows.modelStaysSpec.pre6 enc Try.prog Try.f4 Rows.modelStaysRow.domain false) (Rows.modelStaysSpec.post enc Try.prog Try.f4 false true false false) := by
  refine returnsInHanded_of_change_sized (C := Try.checked) own started (by kernel_rfl) Try.func4
    (ChangeSpec.witness6 (enc := enc) (C := Try.checked) false ⟨#[], #[.slice none 0 0], []⟩ 8 (by kernel_rfl) (by kernel_rfl) (by kernel_rfl) (by kernel_rfl)) ?_
  intro W base args ds gs before hval0 hW _ hsz0 _
  have hsz : (DataW.weightsEach Try.prog (Try.f4.params.toList ++ Rows.modelStaysSpec.plain.varTypes Try.prog) (ds ++ gs)).all (· ≤ reachBytes) = true := hsz0
  have hval : ∀ (j : Nat) t v, Try.f4.params[j]? = some t → args[j]? = some v → Value.okWide Try.prog W .any base t v := hval0
  have hW' := hW
  obtain ⟨p, q, hA0, hV, rfl, hfz, hnd⟩ := hW
  have hA : DataW.TrodAll enc Try.prog W 0 (fun _ => true) true Try.f4.params.toList args.toList ds p := hA0
  rw [Try.params4] at hA hval hsz
  obtain ⟨v0, vs0, d0, ds0, p0, q0, hargs, rfl, rfl, h0, r0⟩ := trodAll_cons hA
  obtain ⟨rfl, rfl, rfl⟩ := trodAll_nil r0
  obtain rfl : args = #[v0] := by cases args; simp_all
  obtain ⟨rfl, rfl⟩ := trodVars_none hV
  have k0 := h0
  have lt0 : ∀ x ∈ p0, x.block < W.heap.size := by obtain ⟨m, hm⟩ := k0; exact DataW.trod_lt m _ _ _ hm
  obtain ⟨a0, b0⟩ := open_ops9 (hval 0 38 v0 rfl rfl) h0
  clear hA0 hval0 hsz0
  refine (walk v0 a0 W b0).mono fun e W' ⟨he, bel⟩ => ?_
  subst he
  exact ⟨_, rfl, _, _, _, [], _, [], hW', trodAll_mk1 (shut_bool Try.underlying4 _), (trodAll_cons_mk (Below.trod laidOut (by kernel_rfl) (of_decide_eq_true (by kernel_rfl)) k0 bel lt0) trodAll_mk0), rfl, bel.frame _, fun h => by cases h⟩

theorem over : Rows.modelStaysRow.holds Try.pinned (OpenSpec.ofChange Rows.modelStaysSpec) :=
  OpenClaim.holds_of_wide 4 Try.f4 rfl rfl rfl rfl rfl rfl rfl ⟨rfl, rfl, rfl, rfl, rfl⟩ rfl rfl rfl rfl rfl (by kernel_rfl) Try.func4 (by kernel_rfl)
    (of_decide_eq_true (by kernel_rfl)) (by unfold Func.isWrapper; first | (rw [if_pos (by decide +kernel)]; kernel_rfl) | (rw [if_neg (by decide +kernel)]; exact ⟨rfl, rfl⟩))
    (fun os started H enc _ => lifted os started H enc)


end Go.Proofs.Ytkioeahlajjmiaa.modelStays
namespace Go.Proofs.Ytkioeahlajjmiaa
/-- The statement. -/
theorem modelStays_holds : Rows.ModelStaysSaid := modelStays.over
end Go.Proofs.Ytkioeahlajjmiaa
