import Derived.Test.YtkioeahlajjmiaaMpD
import Derived.Test.YtkioeahlajjmiaaMpE
import Derived.Test.YtkioeahlajjmiaaMoUpd
import Derived.Shelf.SlMaps.Clone
import Derived.Ground.SlmcProg
import Derived.Test.YtkioeahlajjmiaaMpB

/-
  The document's May and Do of any op.
-/
namespace Go.Proofs.Ytkioeahlajjmiaa
open Go.RowKit

def Sz63 (o : Mo.Op) : Prop := o.space.size ≤ 9223372036854775807 ∧ o.channel.size ≤ 9223372036854775807 ∧ o.user.size ≤ 9223372036854775807 ∧ o.text.size ≤ 9223372036854775807 ∧ o.toSpace.size ≤ 9223372036854775807 ∧ o.to.size ≤ 9223372036854775807
theorem rMay_c (o : Mo.Op) (hsz : Sz63 o) (w : World) : Calls Try.prog 37 #[opV o] w fun e w' => e = .returned (.bool (Mo.may o)) ∧ Below w.heap.size w w' := by
  obtain ⟨kd, sp, ch, us, te, tt, to, fr, mo⟩ := o
  by_cases h1 : kd = 1
  · subst h1; exact rMay_1 sp ch us te tt to fr mo hsz w
  by_cases h2 : kd = 2
  · subst h2; exact rMay_2 sp ch us te tt to fr mo hsz w
  by_cases h3 : kd = 3
  · subst h3; exact rMay_3 sp ch us te tt to fr mo hsz w
  by_cases h4 : kd = 4
  · subst h4; exact rMay_4 sp ch us te tt to fr mo hsz w
  by_cases h5 : kd = 5
  · subst h5; exact rMay_5 sp ch us te tt to fr mo hsz w
  by_cases h6 : kd = 6
  · subst h6; exact rMay_6 sp ch us te tt to fr mo hsz w
  by_cases h7 : kd = 7
  · subst h7; exact rMay_7 sp ch us te tt to fr mo hsz w
  exact rMay_0 kd h1 h2 h3 h4 h5 h6 h7 sp ch us te tt to fr mo w
theorem rDo_c {L : Nat → Prop} {w : World} {pl po : Option Addr} {cl co : Nat} {t : List Rw} {off : List ByteArray} {q : Mp.Dm} (h : DvT L w pl cl po co t off) (hq : t.map (·.cn) = q.list) (hoff : off = q.off) (hL : ∀ g, w.heap.size ≤ g → L g) {s : Mo.St} (hRel : Mp.Rel s q) (hn : t.length ≤ 1000000 ∧ off.length ≤ 1000000 ∧ ∀ p ∈ t, p.cn.mems.length ≤ 1000000) (o : Mo.Op) (hsz : Sz63 o) :
    Calls Try.prog 20 #[.agg #[.slice pl t.length cl, .slice po off.length co], opV o] w (DoR L w (Mp.dDo q o)) := by
  obtain ⟨kd, sp, ch, us, te, tt, to, fr, mo⟩ := o
  have hM := rMay_c ⟨kd, sp, ch, us, te, tt, to, fr, mo⟩ hsz
  cases hm : Mo.may ⟨kd, sp, ch, us, te, tt, to, fr, mo⟩ with
  | false => exact rDo_no h hq hoff hL hRel hn kd sp ch us te tt to fr mo hm hM
  | true =>
    rcases may_kind hm with e | e | e | e | e | e | e
    all_goals (dsimp only at e; subst e)
    · exact rDo_1 h hq hoff hL hRel hn sp ch us te tt to fr mo hm hM
    · exact rDo_2 h hq hoff hL hRel hn sp ch us te tt to fr mo hm hM
    · exact rDo_3 h hq hoff hL hRel hn sp ch us te tt to fr mo hm hM
    · exact rDo_4 h hq hoff hL hRel hn sp ch us te tt to fr mo hm hM
    · exact rDo_5 h hq hoff hL hRel hn sp ch us te tt to fr mo hm hM
    · exact rDo_6 h hq hoff hL hRel hn sp ch us te tt to fr mo hm hM
    · exact rDo_7 h hq hoff hL hRel hn sp ch us te tt to fr mo hm hM

set_option maxHeartbeats 1600000 in
/-- checked. -/
theorem checked_c (o : Mo.Op) (hsz : Sz63 o) (w : World) : Calls Try.prog 19 #[opV o] w fun e w' => e = .returned (.int .i64 (if Mo.may o = true then 0 else 1)) ∧ Below w.heap.size w w' := by
  unfold opV
  obtain ⟨u, hu⟩ : ∃ u, u = w.alloc (.cells #[.int .i64 o.kind, .string o.space, .string o.channel, .string o.user, .string o.text, .string o.toSpace, .string o.to, .int .i64 o.frm, .int .i64 o.most] 32) := ⟨_, rfl⟩
  have HU : Hid (Below w.heap.size w u) := by rw [hu]; exact below_alloc _ _
  have HM : Hid _ := rMay_c o hsz u
  unfold opV at HM
  generalize Mo.may o = b at HM ⊢
  have hbb : b = true ∨ b = false := by cases b <;> simp
  have hc : ∀ j, u.cell? ⟨w.heap.size, j, none⟩ = (#[.int .i64 o.kind, .string o.space, .string o.channel, .string o.user, .string o.text, .string o.toSpace, .string o.to, .int .i64 o.frm, .int .i64 o.most] : Array Value)[j]? := fun j => by
    rw [hu]; exact World.cell?_alloc_mark w _ _ _ j
  have c0 := hc 0
  have c1 := hc 1
  have c2 := hc 2
  have c3 := hc 3
  have c4 := hc 4
  have c5 := hc 5
  have c6 := hc 6
  have c7 := hc 7
  have c8 := hc 8
  simp at c0 c1 c2 c3 c4 c5 c6 c7 c8
  clear hc
  go_enter Try.func19, Try.ntmps19
  go_upto_region 1 with fail
  rw [← hu]
  clear hu
  go_wp2_with fail
  refine Calls.mono HM.out ?_
  rintro e w2 ⟨rfl, hb⟩
  have HB : Hid (Below w.heap.size w w2) := HU.out.trans (hb.mono HU.out.size)
  clear hb
  rcases hbb with hbb | hbb
  · subst hbb
    go_wp2
    go_ret
    exact ⟨rfl, HB.out⟩
  · subst hbb
    go_wp2
    go_ret
    exact ⟨rfl, HB.out⟩
set_option maxHeartbeats 1600000 in
/-- Check. -/
theorem Check_c (o : Mo.Op) (ho : OpOk o) (w : World) : Calls Try.prog 18 #[opV o] w fun e w' => e = .returned (.int .i64 (if Mo.may o = true then 0 else 1)) ∧ Below w.heap.size w w' := by
  unfold opV
  obtain ⟨u, hu⟩ : ∃ u, u = w.alloc (.cells #[.int .i64 o.kind, .string o.space, .string o.channel, .string o.user, .string o.text, .string o.toSpace, .string o.to, .int .i64 o.frm, .int .i64 o.most] 32) := ⟨_, rfl⟩
  have HU : Hid (Below w.heap.size w u) := by rw [hu]; exact below_alloc _ _
  have HM : Hid _ := mayBe_c o ho u
  unfold opV at HM
  generalize Mo.may o = b at HM ⊢
  have hbb : b = true ∨ b = false := by cases b <;> simp
  have hc : ∀ j, u.cell? ⟨w.heap.size, j, none⟩ = (#[.int .i64 o.kind, .string o.space, .string o.channel, .string o.user, .string o.text, .string o.toSpace, .string o.to, .int .i64 o.frm, .int .i64 o.most] : Array Value)[j]? := fun j => by
    rw [hu]; exact World.cell?_alloc_mark w _ _ _ j
  have c0 := hc 0
  have c1 := hc 1
  have c2 := hc 2
  have c3 := hc 3
  have c4 := hc 4
  have c5 := hc 5
  have c6 := hc 6
  have c7 := hc 7
  have c8 := hc 8
  simp at c0 c1 c2 c3 c4 c5 c6 c7 c8
  clear hc
  go_enter Try.func18, Try.ntmps18
  go_upto_region 1 with fail
  rw [← hu]
  clear hu
  go_wp2_with fail
  refine Calls.mono HM.out ?_
  rintro e w2 ⟨rfl, hb⟩
  have HB : Hid (Below w.heap.size w w2) := HU.out.trans (hb.mono HU.out.size)
  clear hb
  rcases hbb with hbb | hbb
  · subst hbb
    go_wp2
    go_ret
    exact ⟨rfl, HB.out⟩
  · subst hbb
    go_wp2
    go_ret
    exact ⟨rfl, HB.out⟩

end Go.Proofs.Ytkioeahlajjmiaa

/-
  The document's own comparing of posts and replies, where they are the same.
-/
namespace Go.Proofs.Ytkioeahlajjmiaa
open Go.RowKit

/-! ### posts that are read alone -/
/-- The slice value v reads as these posts. -/
def PoR (w : World) (v : Value) (ps : List Mo.Po) : Prop :=
  ∃ p c, v = .slice p ps.length c ∧ ps.length ≤ c ∧ c ≤ maxLen ∧ (p = none → c = 0) ∧ ∀ a, p = some a → ∀ j x, (poCells ps)[j]? = some x → w.cell? (a.add j) = some x

theorem PoR.ofRow {w : World} {v : Value} {ps : List Mo.Po} (h : RowC w 2 v ps.length (poCells ps)) : PoR w v ps := by
  obtain ⟨h1, p, c, hv, h2, h3, h4⟩ := h
  refine ⟨p, c, hv, h2, h3, fun e => ?_, fun a ha j x hx => ?_⟩
  · rcases h4 with h | ⟨g, off, hp, _⟩
    · exact h
    · rw [hp] at e; cases e
  · rcases h4 with h | ⟨g, off, hp, _, hC⟩
    · have h0 : ps.length = 0 := by omega
      have : (poCells ps).length = 0 := by rw [poCells_len, h0]
      rw [List.eq_nil_of_length_eq_zero this] at hx
      simp at hx
    · rw [hp] at ha
      injection ha with ha
      rw [← ha, Addr.add_lit]
      exact hC j x hx

theorem add_block (a : Addr) (j : Nat) : (a.add j).block = a.block := by
  unfold Addr.add
  split <;> rfl

/-- It stays while blocks that have cells stay. -/
theorem PoR.carry {w w' : World} {v : Value} {ps : List Mo.Po} (h : PoR w v ps) (hk : ∀ k, (∃ o sp x, w.cell? ⟨k, o, sp⟩ = some x) → w'.heap[k]? = w.heap[k]?) : PoR w' v ps := by
  obtain ⟨p, c, hv, h2, h3, h4, h5⟩ := h
  refine ⟨p, c, hv, h2, h3, h4, fun a ha j x hx => ?_⟩
  have := h5 a ha j x hx
  rw [World.cell?_of_block (a := a.add j) (hk (a.add j).block ⟨(a.add j).off, (a.add j).spot, x, this⟩)]
  exact this
/-- .. while its block stays. -/
theorem PoR.carryB {w w' : World} {v : Value} {ps : List Mo.Po} (h : PoR w v ps) (hk : ∀ k, cBlk v = some k → w'.heap[k]? = w.heap[k]?) : PoR w' v ps := by
  obtain ⟨p, c, hv, h2, h3, h4, h5⟩ := h
  refine ⟨p, c, hv, h2, h3, h4, fun a ha j x hx => ?_⟩
  have hj := (List.getElem?_eq_some_iff.1 hx).1
  rw [poCells_len] at hj
  obtain ⟨c', rfl⟩ : ∃ c', c = c' + 1 := ⟨c - 1, by omega⟩
  have hb := hk a.block (by rw [hv, ha]; rfl)
  have hb' : w'.heap[(a.add j).block]? = w.heap[(a.add j).block]? := by rw [add_block]; exact hb
  rw [World.cell?_of_block hb']
  exact h5 a ha j x hx
theorem PoR.below {w w' : World} {v : Value} {ps : List Mo.Po} (h : PoR w v ps) (hb : Below w.heap.size w w') : PoR w' v ps :=
  h.carry fun k ⟨_, _, _, hx⟩ => hb.block k (World.block_lt_of_cell? w _ hx)
theorem PoR.nil (w : World) : PoR w (.slice none 0 0) [] := ⟨none, 0, rfl, by simp, by unfold maxLen; omega, fun _ => rfl, fun a ha => by cases ha⟩
theorem PoR.form {w : World} {v : Value} {ps : List Mo.Po} (h : PoR w v ps) : ∃ p c, v = .slice p ps.length c ∧ ps.length ≤ c ∧ c ≤ maxLen := by
  obtain ⟨p, c, hv, h2, h3, _⟩ := h
  exact ⟨p, c, hv, h2, h3⟩


theorem run_poNe (u t : ByteArray) (w : World) : (binOp .neq 35 (.agg #[.string u, .string t]) (.agg #[.string u, .string t])).run Try.prog w = .ok (.bool false) w := by
  go_simp

/-- Where an element lies. -/
theorem PoR.at {w : World} {p : Option Addr} {n c i : Nat} {ps : List Mo.Po} (h : PoR w (.slice p n c) ps) (hi : i < n) : ∃ g o, p = some ⟨g, o, none⟩ ∧ n = ps.length ∧ ∃ e, ps[i]? = some e ∧ w.cell? ⟨g, o + i * 2, none⟩ = some (.string e.user) ∧ w.cell? ⟨g, o + i * 2 + 1, none⟩ = some (.string e.text) := by
  obtain ⟨p', c', hv, h2, h3, h4, h5⟩ := h
  injection hv with e1 e2 e3
  subst e1 e2 e3
  cases p with
  | none => have := h4 rfl; omega
  | some a =>
    obtain ⟨b, off, spot⟩ := a
    have hat := poCells_at ps i ps[i] (List.getElem?_eq_getElem hi)
    have k0 := h5 _ rfl _ _ hat.1
    have k1 := h5 _ rfl _ _ hat.2
    have h0 := poCells_at ps 0 (ps[0]'(by omega)) (List.getElem?_eq_getElem (by omega))
    have hspot : spot = none := by
      have := h5 _ rfl _ _ h0.1
      simpa [Addr.add] using World.cell?_spot this
    subst hspot
    rw [Addr.add_lit] at k0 k1
    exact ⟨b, off, rfl, rfl, _, List.getElem?_eq_getElem hi, k0, by rw [Nat.add_assoc]; exact k1⟩

set_option maxHeartbeats 1000000 in
set_option maxRecDepth 20000 in
theorem SamePosts_eq {w : World} {v v' : Value} {ps : List Mo.Po} (h1 : PoR w v ps) (h2 : PoR w v' ps) :
    Calls Try.prog 44 #[v, v'] w fun e w' => e = .returned (.bool true) ∧ Below w.heap.size w w' := by
  obtain ⟨p, c, hv, hc1, hc2⟩ := h1.form
  obtain ⟨p', c', hv', _⟩ := h2.form
  subst hv hv'
  have HC : Hid (∀ i X, Below w.heap.size w X → i < ps.length → ∃ g o g' o' u t, p = some ⟨g, o, none⟩ ∧ p' = some ⟨g', o', none⟩ ∧ X.cell? ⟨g, o + i * 2, none⟩ = some (.string u) ∧ X.cell? ⟨g, o + i * 2 + 1, none⟩ = some (.string t) ∧ X.cell? ⟨g', o' + i * 2, none⟩ = some (.string u) ∧ X.cell? ⟨g', o' + i * 2 + 1, none⟩ = some (.string t)) := fun i X hX hi => by
    obtain ⟨g, o, hp, _, e, he, k0, k1⟩ := (h1.below hX).at hi
    obtain ⟨g', o', hp', _, e', he', k0', k1'⟩ := (h2.below hX).at hi
    rw [he] at he'
    injection he' with he'
    subst he'
    exact ⟨g, o, g', o', e.user, e.text, hp, hp', k0, k1, k0', k1'⟩
  have hlen : ps.length ≤ 9223372036854775807 := by unfold maxLen at hc2; omega
  generalize ps.length = n at HC hlen ⊢
  clear h1 h2 hc1 hc2
  have hne := run_poNe
  go_enter Try.func44, Try.ntmps44
  go_wp2
  go_loopw [5] (fun iv wr => ∃ i : Nat, iv = .int .i64 (i : Int) ∧ i ≤ n ∧ Hid (Below w.heap.size w wr)) (fun iv _ => n - (intOf iv).toNat)
  case atStart => exact ⟨0, rfl, Nat.zero_le _, Below.refl _ _⟩
  case round =>
    obtain ⟨i, rfl, hi, HB⟩ := hrel
    by_cases hlt : i < n
    · obtain ⟨g, o, g', o', u, t, hp, hp', k0, k1, k2, k3⟩ := HC.out i _ HB.out hlt
      subst hp hp'
      have hi0 : (0 : Int) ≤ (i : Int) := by omega
      have hi1 : (i : Int) < (n : Int) := by omega
      have HBd : Hid (Below w.heap.size w wr.drew) := HB.out.drew
      go_wp2
      go_region
      go_wp2
      go_roundw
      case rel => exact ⟨i + 1, by go_num, by omega, HBd⟩
      case measure => simp [intOf]; omega
    · obtain rfl : i = n := by omega
      go_wp2
      go_ret
      exact ⟨rfl, HB.out⟩

/-- Two replies that are the same. -/
theorem Same_eq {w : World} {v v' : Value} {ps : List Mo.Po} (e t : Int) (h1 : PoR w v ps) (h2 : PoR w v' ps) :
    Calls Try.prog 21 #[.agg #[.int .i64 e, .int .i64 t, v], .agg #[.int .i64 e, .int .i64 t, v']] w fun e w' => e = .returned (.bool true) ∧ Below w.heap.size w w' := by
  have HP : Hid (∀ X, Below w.heap.size w X → Calls Try.prog 44 #[v, v'] X fun e w' => e = .returned (.bool true) ∧ Below X.heap.size X w') := fun X hX => SamePosts_eq (h1.below hX) (h2.below hX)
  have HA : Hid (∀ o o', Below w.heap.size w ((w.alloc o).alloc o')) := fun o o' => (below_alloc w o).trans ((below_alloc _ o').mono (by simp))
  obtain ⟨p, c, hv, _⟩ := h1.form
  obtain ⟨p', c', hv', _⟩ := h2.form
  subst hv hv'
  generalize ps.length = n at HP ⊢
  clear h1 h2
  go_enter Try.func21, Try.ntmps21
  go_wp2_with fail
  refine (HP.out _ (HA.out _ _)).mono ?_
  rintro e w1 ⟨rfl, hb⟩
  have HB : Hid _ := hb
  clear hb
  go_wp2
  go_ret
  exact ⟨rfl, (HA.out _ _).trans (HB.out.mono (HA.out _ _).size)⟩

end Go.Proofs.Ytkioeahlajjmiaa

/-
  Copies of maps; a channel of the copy's own.
-/
namespace Go.Proofs
open Go.RowKit Go.Maps Go.Shelf

def Try.cloneS_ren : Go.Shelf.Ren := ⟨fun | 5 => 45 | 7 => 66 | n => n, fun | 23 => 61 | 25 => 9 | 3 => 74 | 4 => 4 | 20 => 20 | n => n, fun | n => n⟩
theorem Try.cloneS : Go.Proofs.SlLaysW.n5 Try.prog Try.cloneS_ren := {
  mixed := by kernel_rfl
  f5 := ⟨Try.f45.name, by decide, Try.func45.trans (congrArg some (by kernel_rfl))⟩
  f7 := Try.func66.trans (congrArg some (by kernel_rfl))
  t4 := Try.underlying4
  a4 := Try.isAgg4
  z4 := Try.sizeOf4
  v4 := Try.zeroValue4
  t20 := Try.underlying20
  a20 := Try.isAgg20
  z20 := Try.sizeOf20
  v20 := Try.zeroValue20
  t23 := Try.underlying61
  a23 := Try.isAgg61
  z23 := Try.sizeOf61
  v23 := Try.zeroValue61 }

namespace Ytkioeahlajjmiaa

/-- A set of names copied. -/
theorem MClone_c {w : World} {b n : Nat} {g : ByteArray → Bool} (h : Ms w b n g) : Calls Try.prog 45 #[.map (some b)] w fun e w' => e = .returned (.map (some w.heap.size)) ∧ Ms w' w.heap.size n g ∧ Below w.heap.size w w' ∧ w'.heap.size = w.heap.size + 1 := by
  obtain ⟨D, hown, hat⟩ := h
  obtain ⟨es, clock, hb, Ft, hs, hD⟩ := hown
  refine (AnyW.maps_Clone Try.cloneS b es clock w hb).mono ?_
  rintro e w' ⟨rfl, rfl⟩
  refine ⟨rfl, ⟨D, ⟨es, clock, (MapKept.heap_alloc w _).1, Ft, hs, hD⟩, hat⟩, below_alloc _ _, by simp⟩
theorem run_makeMapN (n : Nat) (w : World) : (Instr.makeMap 60 (some (.int .i64 (n : Int)))).run Try.prog w = .ok (.map (some w.heap.size)) (w.alloc (.map #[] 0)) := by
  simp [Instr.makeMap, run_underlying Try.underlying60]
  rfl
theorem Mc.lenN {w : World} {b n : Nat} {f : ByteArray → ByteArray → Option Nat} (h : Mc w b n f) (ty : TypeId) : ∃ m : Nat, (Builtin.len_ #[60] ty #[.map (some b)]).run Try.prog w = .ok (.int .i64 (m : Int)) w := by
  obtain ⟨D, hown, _⟩ := h
  exact ⟨_, World.ownsMap.len hown Try.underlying60 ty⟩

section
variable {w W : World} {B : Nat} {s : Mo.St} {who : Nat → Nat} {n bc bo : Nat} {f : ByteArray → ByteArray → Option Nat} {cs : Nat → Mo.Ch}
/-- A channel is laid beside the others. -/
theorem MdV.putCh (h : MdV w B s who n bc bo f cs) (hW : Below w.heap.size w W) (hn : n < maxLen) {x y : ByteArray} (hx : Ok x) (hy : Ok y) {bm bb : Nat} {v : Value} {c : Mo.Ch} (h1 : w.heap.size ≤ bm) (h2 : w.heap.size ≤ bb) (h4 : ∀ g, cBlk v = some g → w.heap.size ≤ g ∧ g ≠ bb ∧ g ≠ bm) (hne : bm ≠ bb) (hC : ChV W bb c (n + 1) bm v) :
    ∃ w3 who', (Instr.mapUpdate 60 (.map (Option.some bc)) (.agg #[.string x, .string y]) (.pointer (Option.some ⟨bb, 0, Option.none⟩))).run Try.prog W = .ok () w3 ∧ W.grownBy w3 (Option.some bc) ∧ MdV w3 B (Mo.setC s x y (Option.some c)) who' (n + 1) bc bo (setNm f x y (Option.some bb)) (fun k => if k = bb then c else cs k) ∧ (∀ k, who' k ≠ 0 → who k ≠ 0 ∨ w.heap.size ≤ k) := by
  have hV := h.below hW
  have hbb := World.block_lt_of_cell? _ _ hC.c0
  have hbm : bm < W.heap.size := hC.mem.lt
  have hgl : ∀ g, cBlk v = some g → g < W.heap.size := fun g hg => RowC.lt hC.row (by decide) hg
  have z1 : ∀ k, w.heap.size ≤ k → who k = 0 := fun k hk => by
    by_cases e : who k = 0
    · exact e
    · have := h.here k e
      omega
  have hz := z1 bb h2
  have hzm := z1 bm h1
  obtain ⟨w3, hr, ht, hM⟩ := hV.chs.put hn hx hy bb
  have hg := ht.grown
  have hs3 := turned_size ht
  have hbl : ∀ i, i ≠ bc → i < W.heap.size → w3.heap[i]? = W.heap[i]? := fun i hi hl => hg.block i hl (fun e => hi (by injection e))
  obtain ⟨who', hwho⟩ : ∃ who' : Nat → Nat, who' = fun k => if k = bb then 4 else if k = bm then 10 + 2 * bb else if cBlk v = some k then 11 + 2 * bb else who k := ⟨_, rfl⟩
  have w1 : ∀ k, who k ≠ 0 → who' k = who k := fun k hk => by
    rw [hwho]
    dsimp only
    rw [if_neg (fun e => hk (by rw [e]; exact hz)), if_neg (fun e => hk (by rw [e]; exact hzm)), if_neg (fun e => hk (z1 k (h4 k e).1))]
  have w2 : who' bb = 4 := by rw [hwho]; simp
  have w3' : who' bm = 10 + 2 * bb := by rw [hwho]; dsimp only; rw [if_neg hne, if_pos rfl]
  have w5 : ∀ g, cBlk v = some g → who' g = 11 + 2 * bb := fun g hg => by
    rw [hwho]
    dsimp only
    rw [if_neg (h4 g hg).2.1, if_neg (h4 g hg).2.2, if_pos hg]
  have w4 : ∀ k, who' k ≠ 0 → who k ≠ 0 ∨ k = bb ∨ k = bm ∨ cBlk v = some k := fun k hk => by
    rw [hwho] at hk
    dsimp only at hk
    by_cases e1 : k = bb
    · exact .inr (.inl e1)
    · by_cases e2 : k = bm
      · exact .inr (.inr (.inl e2))
      · by_cases e3 : cBlk v = some k
        · exact .inr (.inr (.inr e3))
        · rw [if_neg e1, if_neg e2, if_neg e3] at hk
          exact .inl hk
  clear hwho
  have hbbc : bb ≠ bc := fun e => by have := h.wc; rw [← e, hz] at this; cases this
  have hbmc : bm ≠ bc := fun e => by have := h.wc; rw [← e, hzm] at this; cases this
  have hB := h.wB
  have hgc : ∀ g, cBlk v = some g → g ≠ bc := fun g hg e => by have := h.wc; rw [← e, z1 g (h4 g hg).1] at this; cases this
  refine ⟨w3, who', hr, hg, ?_, fun k hk => ?_⟩
  · have eB : w3.heap[B]? = W.heap[B]? := hbl B (fun e => by have := h.wc; rw [← e, hB] at this; cases this) (hV.here B (by rw [hB]; decide))
    refine ⟨(World.cell?_of_block (a := ⟨B, 0, Option.none⟩) eB).trans hV.c0, (World.cell?_of_block (a := ⟨B, 1, Option.none⟩) eB).trans hV.c1, hM, (hV.off.mono (Nat.le_succ _)).carry (hbl bo (fun e => by have := h.wc; rw [← e, h.wo] at this; cases this) (hV.here bo (by rw [h.wo]; decide))), fun a b => ?_, fun a b k hk => ?_, fun a b a' b' k hk hk' => ?_, fun a b k hk => ?_, by rw [w1 B (by rw [hB]; decide)]; exact hB, by rw [w1 bc (by rw [h.wc]; decide)]; exact h.wc, by rw [w1 bo (by rw [h.wo]; decide)]; exact h.wo, fun k hk => ?_⟩
    · unfold Mo.setC setNm
      dsimp only
      by_cases e : a = x ∧ b = y
      · rw [if_pos e, if_pos e]
        simp
      · rw [if_neg e, if_neg e, h.ch]
        cases hfa : f a b with
        | none => rfl
        | some k =>
          have := (h.one a b k hfa)
          obtain ⟨_, _, _, q, _⟩ := this
          have : k ≠ bb := fun e => by rw [e, hz] at q; cases q
          simp [this]
    · unfold setNm at hk
      by_cases e : a = x ∧ b = y
      · rw [if_pos e] at hk
        injection hk with hk
        subst hk
        rw [if_pos rfl]
        exact ⟨bm, v, hC.carry (hbl bb hbbc hbb) (hbl bm hbmc hbm) (fun g hg => hbl g (hgc g hg) (hgl g hg)), w2, w3', w5⟩
      · rw [if_neg e] at hk
        obtain ⟨bm', v', q1, q2, q3, q4⟩ := hV.one a b k hk
        have hkb : k ≠ bb := fun e => by rw [e, hz] at q2; cases q2
        rw [if_neg hkb]
        refine ⟨bm', v', (q1.mono (Nat.le_succ _)).carry (hbl k (fun e => by have := h.wc; rw [← e, q2] at this; cases this) (hV.here k (by rw [q2]; decide))) (hbl bm' (fun e => by have := h.wc; rw [← e, q3] at this; omega) (hV.here bm' (by rw [q3]; omega))) (fun g hg => hbl g (fun e => by have := h.wc; rw [← e, q4 g hg] at this; omega) (hV.here g (by rw [q4 g hg]; omega))), by rw [w1 k (by rw [q2]; decide)]; exact q2, by rw [w1 bm' (by rw [q3]; omega)]; exact q3, fun g hg => by rw [w1 g (by rw [q4 g hg]; omega)]; exact q4 g hg⟩
    · unfold setNm at hk hk'
      have old : ∀ a b, f a b ≠ Option.some bb := fun a b e => by
        obtain ⟨_, _, _, q, _⟩ := h.one a b bb e
        rw [hz] at q
        cases q
      by_cases e : a = x ∧ b = y
      · rw [if_pos e] at hk
        by_cases e' : a' = x ∧ b' = y
        · exact ⟨by rw [e.1, e'.1], by rw [e.2, e'.2]⟩
        · rw [if_neg e'] at hk'
          injection hk with hk
          exact absurd (by rw [hk]; exact hk') (old a' b')
      · rw [if_neg e] at hk
        by_cases e' : a' = x ∧ b' = y
        · rw [if_pos e'] at hk'
          injection hk' with hk'
          exact absurd (by rw [hk']; exact hk) (old a b)
        · rw [if_neg e'] at hk'
          exact h.inj a b a' b' k hk hk'
    · unfold setNm at hk
      by_cases e : a = x ∧ b = y
      · rw [e.1, e.2]
        exact ⟨hx, hy⟩
      · rw [if_neg e] at hk
        exact h.dom a b k hk
    · rw [hs3]
      rcases w4 k hk with q | q | q | q
      · exact hV.here k q
      · rw [q]; exact hbb
      · rw [q]; exact hbm
      · exact hgl k q
  · rcases w4 k hk with r | r | r | r
    · exact .inl r
    · rw [r]; exact .inr h2
    · rw [r]; exact .inr h1
    · exact .inr (h4 k r).1

end
end Ytkioeahlajjmiaa
end Go.Proofs

/-
  All names in a document's model are labels.
-/
namespace Go.Proofs.Ytkioeahlajjmiaa
open Go.RowKit

def Lb (q : Mp.Dm) : Prop := ∀ c ∈ q.list, Mo.label c.space = true ∧ Mo.label c.name = true ∧ ∀ a ∈ c.mems, Mo.label a = true
theorem Lb.put {q : Mp.Dm} (h : Lb q) (c : Mp.Cn) (hc : Mo.label c.space = true ∧ Mo.label c.name = true ∧ ∀ a ∈ c.mems, Mo.label a = true) : Lb (Mp.put q c) := fun d hd => by
  rcases (Mp.ins_mem Mp.linK).1 hd with e | e
  · rw [e]; exact hc
  · exact h d e.1
theorem Lb.drop {q : Mp.Dm} (h : Lb q) (x y : ByteArray) : Lb (Mp.drop q x y) := fun c hc => h c (List.mem_filter.1 hc).1
theorem Lb.close {q : Mp.Dm} (h : Lb q) (x : ByteArray) : Lb (Mp.close q x) := fun c hc => h c (List.mem_filter.1 hc).1
theorem Lb.offs {q : Mp.Dm} (h : Lb q) (u : ByteArray) : Lb (Mp.offD q u) := fun c hc => by
  obtain ⟨d, hd, rfl⟩ := List.mem_map.1 hc
  exact ⟨(h d hd).1, (h d hd).2.1, fun a ha => (h d hd).2.2 a (Mp.lessS_mem.1 ha).1⟩
theorem lab2 {sp ch us te tt to : ByteArray} {fr mo : Int} (h : Mo.may ⟨1, sp, ch, us, te, tt, to, fr, mo⟩ = true) : Mo.label sp = true ∧ Mo.label ch = true := by
  unfold Mo.may at h
  dsimp only at h
  rw [if_pos rfl] at h
  simp only [Bool.and_eq_true] at h
  have := h.1
  simpa [Mo.labels] using this
theorem lab3 {sp ch us te tt to : ByteArray} {fr mo : Int} (h : Mo.may ⟨2, sp, ch, us, te, tt, to, fr, mo⟩ = true) : Mo.label us = true := by
  unfold Mo.may at h
  dsimp only at h
  rw [if_neg (by decide), if_pos rfl] at h
  simp only [Bool.and_eq_true] at h
  have := h.1
  simp [Mo.labels] at this
  exact this.2.2
theorem lab5 {sp ch us te tt to : ByteArray} {fr mo : Int} (h : Mo.may ⟨5, sp, ch, us, te, tt, to, fr, mo⟩ = true) : Mo.label tt = true ∧ Mo.label to = true := by
  unfold Mo.may at h
  dsimp only at h
  rw [if_neg (by decide), if_neg (by decide), if_neg (by decide), if_neg (by decide), if_pos rfl] at h
  simp only [Bool.and_eq_true] at h
  have := h.1
  simp [Mo.labels] at this
  exact ⟨this.2.2.1, this.2.2.2⟩
theorem Lb.inner {q : Mp.Dm} (h : Lb q) {c : Mp.Cn} (hc : c ∈ q.list) (o : Mo.Op) (hm : Mo.may o = true) (hk : o.kind = 2 ∨ o.kind = 3 ∨ o.kind = 4 ∨ o.kind = 5) : Lb (Mp.inner q c o).1 := by
  have h1 := h c hc
  obtain ⟨kd, sp, ch, us, te, tt, to, fr, mo⟩ := o
  unfold Mp.inner
  dsimp only at hk ⊢
  rcases hk with e | e | e | e
  · subst e
    rw [if_pos rfl]
    split
    · exact h
    · split
      · exact h
      · refine h.put _ ⟨h1.1, h1.2.1, fun a ha => ?_⟩
        rcases (Mp.ins_mem Mp.linB).1 ha with q1 | q1
        · rw [q1]; exact lab3 hm
        · exact h1.2.2 a q1.1
  · subst e
    rw [if_neg (by decide), if_pos rfl]
    split
    · exact h
    · split
      · exact h
      · split
        · exact h
        · exact h.put _ h1
  · subst e
    rw [if_neg (by decide), if_neg (by decide), if_pos rfl]
    exact h
  · subst e
    rw [if_neg (by decide), if_neg (by decide), if_neg (by decide)]
    split
    · exact h
    · exact (h.drop _ _).put _ ⟨(lab5 hm).1, (lab5 hm).2, h1.2.2⟩
theorem Lb.step {q : Mp.Dm} (h : Lb q) (o : Mo.Op) : Lb (Mp.dDo q o).1 := by
  unfold Mp.dDo
  split
  · exact h
  · rename_i hm
    have hm : Mo.may o = true := by simpa using hm
    split
    · rename_i hk
      split
      · exact h
      · obtain ⟨kd, sp, ch, us, te, tt, to, fr, mo⟩ := o
        dsimp only at hk
        subst hk
        exact h.put _ ⟨(lab2 hm).1, (lab2 hm).2, fun a ha => (nomatch ha)⟩
    · rename_i n1
      split
      · exact h.close _
      · rename_i n6
        split
        · split
          · exact h
          · exact h.offs _
        · rename_i n7
          split
          · exact h
          · rename_i c e
            refine h.inner (List.mem_of_find?_eq_some e) o hm ?_
            rcases may_kind hm with k | k | k | k | k | k | k
            · exact absurd k n1
            · exact .inl k
            · exact .inr (.inl k)
            · exact .inr (.inr (.inl k))
            · exact .inr (.inr (.inr k))
            · exact absurd k n6
            · exact absurd k n7
theorem Lb.nil : Lb ⟨[], []⟩ := fun _ hc => (nomatch hc)
theorem Ok.label {x : ByteArray} (h : Mo.label x = true) : Ok x := by
  have := Mo.label_size h
  unfold Ok maxLen
  omega
/-- A blank is in no label. -/
theorem no_blank : Mo.label ⟨#[110, 111, 110, 101, 32, 111, 102]⟩ = false := by decide

end Go.Proofs.Ytkioeahlajjmiaa
