/-
  A user joins a channel.
-/
import Derived.Test.YtkioeahlajjmiaaMoMake
import Derived.Test.YtkioeahlajjmiaaMoCheck
namespace Go.Proofs.Ytkioeahlajjmiaa
open Go.RowKit

section
variable {w W : World} {B : Nat} {s : Mo.St} {who : Nat → Nat} {n bc bo : Nat} {f : ByteArray → ByteArray → Option Nat} {cs : Nat → Mo.Ch}

/-- One member more. -/
theorem MdV.joined (h : MdV W B s who n bc bo f cs) (hn : n < maxLen) {x y : ByteArray} {k bm : Nat} {v : Value} (hf : f x y = some k) (hc : ChV W k (cs k) n bm v) (w4 : who k = 4) (wm : who bm = 10 + 2 * k) (wr : ∀ g, cBlk v = some g → who g = 11 + 2 * k) {a : ByteArray} (ha : Ok a) :
    ∃ w3, (Instr.mapUpdate 61 (.map (some bm)) (.string a) (.agg #[])).run Try.prog W = .ok () w3 ∧ W.grownBy w3 (some bm) ∧ AftM who W w3 B (Mo.setC s x y (some (Mo.withM (cs k) a))) (n + 1) who := by
  obtain ⟨w3, hr, ht, hM⟩ := hc.mem.put hn ha
  have hg := ht.grown
  have hs3 := turned_size ht
  have hbl : ∀ i, i ≠ bm → i < W.heap.size → w3.heap[i]? = W.heap[i]? := fun i hi hl => hg.block i hl (fun e => hi (by injection e))
  have hkl := h.here k (by rw [w4]; decide)
  have hkm : k ≠ bm := fun e => by rw [← e, w4] at wm; omega
  have ek := hbl k hkm hkl
  refine ⟨w3, hr, hg, ⟨bc, bo, f, _, h.upd (Nat.le_succ _) hf (fun i hi h1 h2 h3 => hbl i (fun e => h2 (by rw [e]; exact wm)) (h.here i hi)) ⟨bm, v, ⟨(World.cell?_of_block (a := ⟨k, 0, none⟩) ek).trans hc.c0, (World.cell?_of_block (a := ⟨k, 1, none⟩) ek).trans hc.c1, fun j => (World.frozen?_of_block (a := ⟨k, j, none⟩) ek).trans (hc.fz j), hM, hc.row.carry (fun g hg' => hbl g (fun e => by have q := wr g hg'; rw [e, wm] at q; omega) (h.here g (by rw [wr g hg']; omega))), hc.few⟩, w4, wm, wr⟩ (fun _ _ => rfl) (fun i hi => by rw [hs3]; exact h.here i hi)⟩, fun _ _ e => e, ?_⟩
  refine (KeptW.refl _ _).grown hg (fun i hi _ => ?_)
  injection hi with hi
  rw [← hi, wm]
  omega

set_option maxHeartbeats 1600000 in
set_option maxRecDepth 20000 in
theorem join_none (h : MdV w B s who n bc bo f cs) (o : Mo.Op) (ho : OpOk o) (hf : f o.space o.channel = none) :
    Calls Try.prog 27 #[.pointer (some ⟨B, 0, none⟩), .agg #[.int .i64 o.kind, .string o.space, .string o.channel, .string o.user, .string o.text, .string o.toSpace, .string o.to, .int .i64 o.frm, .int .i64 o.most]] w fun e w' => e = .returned (.int .i64 3) ∧ Below w.heap.size w w' := by
  obtain ⟨u, hu⟩ : ∃ u, u = w.alloc (.cells #[.int .i64 o.kind, .string o.space, .string o.channel, .string o.user, .string o.text, .string o.toSpace, .string o.to, .int .i64 o.frm, .int .i64 o.most] 32) := ⟨_, rfl⟩
  have hbu : Below w.heap.size w u := by rw [hu]; exact below_alloc w _
  have hV := h.below hbu
  have hlx : w.heap.size < u.heap.size := by rw [hu]; simp
  have hcu : ∀ j, u.cell? ⟨w.heap.size, j, none⟩ = (#[.int .i64 o.kind, .string o.space, .string o.channel, .string o.user, .string o.text, .string o.toSpace, .string o.to, .int .i64 o.frm, .int .i64 o.most] : Array Value)[j]? := fun j => by rw [hu]; exact World.cell?_alloc_mark w _ _ _ j
  have HBx : Hid (∀ X, Below u.heap.size u X → X.cell? ⟨w.heap.size, 1, none⟩ = some (.string o.space) ∧ X.cell? ⟨w.heap.size, 2, none⟩ = some (.string o.channel) ∧ X.cell? ⟨w.heap.size, 3, none⟩ = some (.string o.user) ∧ X.cell? ⟨w.heap.size, 4, none⟩ = some (.string o.text) ∧ X.cell? ⟨w.heap.size, 5, none⟩ = some (.string o.toSpace) ∧ X.cell? ⟨w.heap.size, 6, none⟩ = some (.string o.to) ∧ X.cell? ⟨w.heap.size, 7, none⟩ = some (.int .i64 o.frm) ∧ X.cell? ⟨w.heap.size, 8, none⟩ = some (.int .i64 o.most)) := fun X hX => by
    have e : ∀ j, X.cell? ⟨w.heap.size, j, none⟩ = (#[.int .i64 o.kind, .string o.space, .string o.channel, .string o.user, .string o.text, .string o.toSpace, .string o.to, .int .i64 o.frm, .int .i64 o.most] : Array Value)[j]? := fun j => (hX.cell (p := ⟨w.heap.size, j, none⟩) hlx).trans (hcu j)
    exact ⟨e 1, e 2, e 3, e 4, e 5, e 6, e 7, e 8⟩
  have HB : Hid (Below w.heap.size w u) := hbu
  have HFi : Hid _ := find_none hV ho.1 ho.2.1 hf
  obtain ⟨u1, u2, u3, u4, u5, u6, u7, u8⟩ := HBx.out u (Below.refl _ _)
  clear h hV ho hf hlx hcu hbu
  go_enter Try.func27, Try.ntmps27
  go_wp2_with fail
  rw [← hu]
  refine Calls.mono HFi.out ?_
  rintro e w1 ⟨rfl, hw1⟩
  have hw1 := hw1.symm
  subst hw1
  clear hu
  go_wp2
  go_ret
  exact ⟨rfl, HB.out⟩

set_option maxHeartbeats 1600000 in
set_option maxRecDepth 20000 in
theorem join_off (h : MdV w B s who n bc bo f cs) (o : Mo.Op) (ho : OpOk o) {k : Nat} (hf : f o.space o.channel = some k) (hof : s.off o.user = true) :
    Calls Try.prog 27 #[.pointer (some ⟨B, 0, none⟩), .agg #[.int .i64 o.kind, .string o.space, .string o.channel, .string o.user, .string o.text, .string o.toSpace, .string o.to, .int .i64 o.frm, .int .i64 o.most]] w fun e w' => e = .returned (.int .i64 92) ∧ Below w.heap.size w w' := by
  obtain ⟨u, hu⟩ : ∃ u, u = w.alloc (.cells #[.int .i64 o.kind, .string o.space, .string o.channel, .string o.user, .string o.text, .string o.toSpace, .string o.to, .int .i64 o.frm, .int .i64 o.most] 32) := ⟨_, rfl⟩
  have hbu : Below w.heap.size w u := by rw [hu]; exact below_alloc w _
  have hV := h.below hbu
  have hlx : w.heap.size < u.heap.size := by rw [hu]; simp
  have hcu : ∀ j, u.cell? ⟨w.heap.size, j, none⟩ = (#[.int .i64 o.kind, .string o.space, .string o.channel, .string o.user, .string o.text, .string o.toSpace, .string o.to, .int .i64 o.frm, .int .i64 o.most] : Array Value)[j]? := fun j => by rw [hu]; exact World.cell?_alloc_mark w _ _ _ j
  have HBx : Hid (∀ X, Below u.heap.size u X → X.cell? ⟨w.heap.size, 1, none⟩ = some (.string o.space) ∧ X.cell? ⟨w.heap.size, 2, none⟩ = some (.string o.channel) ∧ X.cell? ⟨w.heap.size, 3, none⟩ = some (.string o.user) ∧ X.cell? ⟨w.heap.size, 4, none⟩ = some (.string o.text) ∧ X.cell? ⟨w.heap.size, 5, none⟩ = some (.string o.toSpace) ∧ X.cell? ⟨w.heap.size, 6, none⟩ = some (.string o.to) ∧ X.cell? ⟨w.heap.size, 7, none⟩ = some (.int .i64 o.frm) ∧ X.cell? ⟨w.heap.size, 8, none⟩ = some (.int .i64 o.most)) := fun X hX => by
    have e : ∀ j, X.cell? ⟨w.heap.size, j, none⟩ = (#[.int .i64 o.kind, .string o.space, .string o.channel, .string o.user, .string o.text, .string o.toSpace, .string o.to, .int .i64 o.frm, .int .i64 o.most] : Array Value)[j]? := fun j => (hX.cell (p := ⟨w.heap.size, j, none⟩) hlx).trans (hcu j)
    exact ⟨e 1, e 2, e 3, e 4, e 5, e 6, e 7, e 8⟩
  have HB : Hid (Below w.heap.size w u) := hbu
  have HFi : Hid _ := find_some hV ho.1 ho.2.1 hf
  have HOf : Hid _ := isOff_c hV ho.2.2.1
  rw [hof] at HOf
  obtain ⟨u1, u2, u3, u4, u5, u6, u7, u8⟩ := HBx.out u (Below.refl _ _)
  clear h hV ho hf hof hlx hcu hbu
  go_enter Try.func27, Try.ntmps27
  go_wp2_with fail
  rw [← hu]
  refine Calls.mono HFi.out ?_
  rintro e w1 ⟨rfl, hw1⟩
  have hw1 := hw1.symm
  subst hw1
  clear hu
  go_wp2_with fail
  refine Calls.mono HOf.out ?_
  rintro e w2 ⟨rfl, hb2⟩
  have HB2 : Hid _ := hb2
  clear hb2
  go_wp2
  go_ret
  exact ⟨rfl, HB.out.trans (HB2.out.mono HB.out.size)⟩

set_option maxHeartbeats 1600000 in
set_option maxRecDepth 20000 in
theorem join_there (h : MdV w B s who n bc bo f cs) (o : Mo.Op) (ho : OpOk o) {k : Nat} (hf : f o.space o.channel = some k) (hof : s.off o.user = false) (hm : (cs k).mem o.user = true) :
    Calls Try.prog 27 #[.pointer (some ⟨B, 0, none⟩), .agg #[.int .i64 o.kind, .string o.space, .string o.channel, .string o.user, .string o.text, .string o.toSpace, .string o.to, .int .i64 o.frm, .int .i64 o.most]] w fun e w' => e = .returned (.int .i64 90) ∧ Below w.heap.size w w' := by
  obtain ⟨u, hu⟩ : ∃ u, u = w.alloc (.cells #[.int .i64 o.kind, .string o.space, .string o.channel, .string o.user, .string o.text, .string o.toSpace, .string o.to, .int .i64 o.frm, .int .i64 o.most] 32) := ⟨_, rfl⟩
  have hbu : Below w.heap.size w u := by rw [hu]; exact below_alloc w _
  have hV := h.below hbu
  have hlx : w.heap.size < u.heap.size := by rw [hu]; simp
  have hcu : ∀ j, u.cell? ⟨w.heap.size, j, none⟩ = (#[.int .i64 o.kind, .string o.space, .string o.channel, .string o.user, .string o.text, .string o.toSpace, .string o.to, .int .i64 o.frm, .int .i64 o.most] : Array Value)[j]? := fun j => by rw [hu]; exact World.cell?_alloc_mark w _ _ _ j
  have HBx : Hid (∀ X, Below u.heap.size u X → X.cell? ⟨w.heap.size, 1, none⟩ = some (.string o.space) ∧ X.cell? ⟨w.heap.size, 2, none⟩ = some (.string o.channel) ∧ X.cell? ⟨w.heap.size, 3, none⟩ = some (.string o.user) ∧ X.cell? ⟨w.heap.size, 4, none⟩ = some (.string o.text) ∧ X.cell? ⟨w.heap.size, 5, none⟩ = some (.string o.toSpace) ∧ X.cell? ⟨w.heap.size, 6, none⟩ = some (.string o.to) ∧ X.cell? ⟨w.heap.size, 7, none⟩ = some (.int .i64 o.frm) ∧ X.cell? ⟨w.heap.size, 8, none⟩ = some (.int .i64 o.most)) := fun X hX => by
    have e : ∀ j, X.cell? ⟨w.heap.size, j, none⟩ = (#[.int .i64 o.kind, .string o.space, .string o.channel, .string o.user, .string o.text, .string o.toSpace, .string o.to, .int .i64 o.frm, .int .i64 o.most] : Array Value)[j]? := fun j => (hX.cell (p := ⟨w.heap.size, j, none⟩) hlx).trans (hcu j)
    exact ⟨e 1, e 2, e 3, e 4, e 5, e 6, e 7, e 8⟩
  have HB : Hid (Below w.heap.size w u) := hbu
  have HFi : Hid _ := find_some hV ho.1 ho.2.1 hf
  have HOf : Hid _ := isOff_c hV ho.2.2.1
  rw [hof] at HOf
  obtain ⟨bm, v, hc, w4, wm, wr⟩ := hV.one _ _ k hf
  have HMm : Hid (∀ X, Below u.heap.size u X → Calls Try.prog 53 #[.pointer (some ⟨k, 0, none⟩), .string o.user] X fun e w' => e = .returned (.bool ((cs k).mem o.user)) ∧ Below X.heap.size X w') := fun X hX => by
    have hVX := hV.below hX
    have hbl : ∀ i, who i ≠ 0 → X.heap[i]? = u.heap[i]? := fun i hi => hX.block i (hV.here i hi)
    exact isMember_c (hc.carry (hbl k (by rw [w4]; decide)) (hbl bm (by rw [wm]; omega)) (fun g hg => hbl g (by rw [wr g hg]; omega))) ho.2.2.1
  rw [hm] at HMm
  obtain ⟨u1, u2, u3, u4, u5, u6, u7, u8⟩ := HBx.out u (Below.refl _ _)
  clear h hV ho hf hof hm hc w4 wm wr hlx hcu hbu
  go_enter Try.func27, Try.ntmps27
  go_wp2_with fail
  rw [← hu]
  refine Calls.mono HFi.out ?_
  rintro e w1 ⟨rfl, hw1⟩
  have hw1 := hw1.symm
  subst hw1
  clear hu
  go_wp2_with fail
  refine Calls.mono HOf.out ?_
  rintro e w2 ⟨rfl, hb2⟩
  have HB2 : Hid (Below u.heap.size u w2) := hb2
  obtain ⟨v1, v2, v3, v4, v5, v6, v7, v8⟩ := HBx.out w2 hb2
  clear hb2
  go_wp2_with fail
  refine (HMm.out _ HB2.out).mono ?_
  rintro e w3 ⟨rfl, hb3⟩
  have HB3 : Hid (Below u.heap.size u w3) := HB2.out.trans (hb3.mono HB2.out.size)
  clear hb3 u1 u2 u3 u4 u5 u6 u7 u8 v1 v2 v3 v4 v5 v6 v7 v8
  go_wp2
  go_ret
  exact ⟨rfl, HB.out.trans (HB3.out.mono HB.out.size)⟩

set_option maxHeartbeats 1600000 in
set_option maxRecDepth 20000 in
theorem join_yes (h : MdV w B s who n bc bo f cs) (o : Mo.Op) (ho : OpOk o) {k : Nat} (hn : n < 1099511627776) (hsz : o.user.size ≤ 16) (hf : f o.space o.channel = some k) (hof : s.off o.user = false) (hm : (cs k).mem o.user = false) :
    Calls Try.prog 27 #[.pointer (some ⟨B, 0, none⟩), .agg #[.int .i64 o.kind, .string o.space, .string o.channel, .string o.user, .string o.text, .string o.toSpace, .string o.to, .int .i64 o.frm, .int .i64 o.most]] w fun e w' => e = .returned (.int .i64 0) ∧ ∃ who', AftM who w w' B (Mo.setC s o.space o.channel (some (Mo.withM (cs k) o.user))) (n + 1) who' := by
  obtain ⟨u, hu⟩ : ∃ u, u = w.alloc (.cells #[.int .i64 o.kind, .string o.space, .string o.channel, .string o.user, .string o.text, .string o.toSpace, .string o.to, .int .i64 o.frm, .int .i64 o.most] 32) := ⟨_, rfl⟩
  have hbu : Below w.heap.size w u := by rw [hu]; exact below_alloc w _
  have hV := h.below hbu
  have hlx : w.heap.size < u.heap.size := by rw [hu]; simp
  have hcu : ∀ j, u.cell? ⟨w.heap.size, j, none⟩ = (#[.int .i64 o.kind, .string o.space, .string o.channel, .string o.user, .string o.text, .string o.toSpace, .string o.to, .int .i64 o.frm, .int .i64 o.most] : Array Value)[j]? := fun j => by rw [hu]; exact World.cell?_alloc_mark w _ _ _ j
  have HBx : Hid (∀ X, Below u.heap.size u X → X.cell? ⟨w.heap.size, 1, none⟩ = some (.string o.space) ∧ X.cell? ⟨w.heap.size, 2, none⟩ = some (.string o.channel) ∧ X.cell? ⟨w.heap.size, 3, none⟩ = some (.string o.user) ∧ X.cell? ⟨w.heap.size, 4, none⟩ = some (.string o.text) ∧ X.cell? ⟨w.heap.size, 5, none⟩ = some (.string o.toSpace) ∧ X.cell? ⟨w.heap.size, 6, none⟩ = some (.string o.to) ∧ X.cell? ⟨w.heap.size, 7, none⟩ = some (.int .i64 o.frm) ∧ X.cell? ⟨w.heap.size, 8, none⟩ = some (.int .i64 o.most)) := fun X hX => by
    have e : ∀ j, X.cell? ⟨w.heap.size, j, none⟩ = (#[.int .i64 o.kind, .string o.space, .string o.channel, .string o.user, .string o.text, .string o.toSpace, .string o.to, .int .i64 o.frm, .int .i64 o.most] : Array Value)[j]? := fun j => (hX.cell (p := ⟨w.heap.size, j, none⟩) hlx).trans (hcu j)
    exact ⟨e 1, e 2, e 3, e 4, e 5, e 6, e 7, e 8⟩
  have HB : Hid (Below w.heap.size w u) := hbu
  have HFi : Hid _ := find_some hV ho.1 ho.2.1 hf
  have HOf : Hid _ := isOff_c hV ho.2.2.1
  rw [hof] at HOf
  obtain ⟨bm, v, hc, w4, wm, wr⟩ := hV.one _ _ k hf
  have HMm : Hid (∀ X, Below u.heap.size u X → Calls Try.prog 53 #[.pointer (some ⟨k, 0, none⟩), .string o.user] X fun e w' => e = .returned (.bool ((cs k).mem o.user)) ∧ Below X.heap.size X w') := fun X hX => by
    have hVX := hV.below hX
    have hbl : ∀ i, who i ≠ 0 → X.heap[i]? = u.heap[i]? := fun i hi => hX.block i (hV.here i hi)
    exact isMember_c (hc.carry (hbl k (by rw [w4]; decide)) (hbl bm (by rw [wm]; omega)) (fun g hg => hbl g (by rw [wr g hg]; omega))) ho.2.2.1
  rw [hm] at HMm
  have hkl : k < u.heap.size := hV.here k (by rw [w4]; decide)
  have hkw : k < w.heap.size := h.here k (by rw [w4]; decide)
  have hbw : bm < w.heap.size := h.here bm (by rw [wm]; omega)
  have hkm : k ≠ bm := fun e => by rw [← e, w4] at wm; omega
  have HS : Hid (∀ X, Below u.heap.size u X → X.cell? ⟨k, 0, none⟩ = some (.map (some bm)) ∧ X.cell? ⟨w.heap.size, 3, none⟩ = some (.string o.user)) := fun X hX => ⟨(hX.cell (p := ⟨k, 0, none⟩) hkl).trans hc.c0, (HBx.out X hX).2.2.1⟩
  have HS3 : Hid (∀ X Y, Below u.heap.size u X → X.grownBy Y (some bm) → Y.cell? ⟨k, 0, none⟩ = some (.map (some bm)) ∧ Y.cell? ⟨w.heap.size, 3, none⟩ = some (.string o.user)) := fun X Y hX hY => by
    obtain ⟨a0, a1⟩ := HS.out X hX
    have hs := hX.size
    exact ⟨(World.cell?_of_block (a := ⟨k, 0, none⟩) (hY.block k (by omega) (fun e => hkm (by injection e)))).trans a0, (World.cell?_of_block (a := ⟨w.heap.size, 3, none⟩) (hY.block w.heap.size (by omega) (fun e => by injection e with e; omega))).trans a1⟩
  have HJ : Hid (∀ X, Below u.heap.size u X → ∃ w3, (Instr.mapUpdate 61 (.map (some bm)) (.string o.user) (.agg #[])).run Try.prog X = .ok () w3 ∧ X.grownBy w3 (some bm) ∧ Hid (AftM who w w3 B (Mo.setC s o.space o.channel (some (Mo.withM (cs k) o.user))) (n + 1) who)) := fun X hX => by
    have hVX := hV.below hX
    have hbl : ∀ i, who i ≠ 0 → X.heap[i]? = u.heap[i]? := fun i hi => hX.block i (hV.here i hi)
    obtain ⟨w3, q1, q2, q3⟩ := hVX.joined (by unfold maxLen; omega) hf (hc.carry (hbl k (by rw [w4]; decide)) (hbl bm (by rw [wm]; omega)) (fun g hg => hbl g (by rw [wr g hg]; omega))) w4 wm wr ho.2.2.1
    exact ⟨w3, q1, q2, (q3.from hX).from hbu⟩
  have HCl : Hid (∀ X, Calls Try.prog 54 #[.string o.user] X fun e w' => e = .returned (.string o.user) ∧ Below X.heap.size X w') := fun X => Clone_any _ X (by omega)
  obtain ⟨u1, u2, u3, u4, u5, u6, u7, u8⟩ := HBx.out u (Below.refl _ _)
  clear h hV ho hf hof hm hc w4 wm wr hlx hcu hbu hn hsz hkl hkw hbw hkm
  go_enter Try.func27, Try.ntmps27
  go_wp2_with fail
  rw [← hu]
  refine Calls.mono HFi.out ?_
  rintro e w1 ⟨rfl, hw1⟩
  have hw1 := hw1.symm
  subst hw1
  clear hu
  go_wp2_with fail
  refine Calls.mono HOf.out ?_
  rintro e w2 ⟨rfl, hb2⟩
  have HB2 : Hid (Below u.heap.size u w2) := hb2
  obtain ⟨v1, v2, v3, v4, v5, v6, v7, v8⟩ := HBx.out w2 hb2
  clear hb2
  go_wp2_with fail
  refine (HMm.out _ HB2.out).mono ?_
  rintro e w3 ⟨rfl, hb3⟩
  have HB3 : Hid (Below u.heap.size u w3) := HB2.out.trans (hb3.mono HB2.out.size)
  clear hb3 u1 u2 u3 u4 u5 u6 u7 u8 v1 v2 v3 v4 v5 v6 v7 v8
  have HB3d : Hid (Below u.heap.size u w3.drew) := HB3.out.drew
  go_wp2
  refine wp_region_held_drew (S := fun X => X.cell? ⟨k, 0, none⟩ = some (.map (some bm)) ∧ X.cell? ⟨w.heap.size, 3, none⟩ = some (.string o.user)) (by kernel_rfl) (HS.out _ HB3d.out) (fun hHeld => ?_)
  refine take7 (i := 0) (d := 27) (v := .pointer (some ⟨k, 0, none⟩)) rfl rfl (by kernel_rfl) (by kernel_rfl) (by kernel_rfl) (fun _ _ _ h => h) (Or.inl ⟨by rfl, ?_⟩) (by assumption) ?_
  · intro X hSw
    go_simp
  simp only [Act.put, List.setIfInBounds_toArray, List.set_cons_zero, List.set_cons_succ]
  refine take7 (i := 1) (d := 28) (v := .pointer (some ⟨k, 0, none⟩)) rfl rfl (by kernel_rfl) (by kernel_rfl) (by kernel_rfl) (fun _ _ _ h => h) (Or.inl ⟨by rfl, ?_⟩) (by assumption) ?_
  · intro X hSw
    go_simp
  simp only [Act.put, List.setIfInBounds_toArray, List.set_cons_zero, List.set_cons_succ]
  refine take7 (i := 2) (d := 29) (v := .pointer (some ⟨k, 0, none⟩)) rfl rfl (by kernel_rfl) (by kernel_rfl) (by kernel_rfl) (fun _ _ _ h => h) (Or.inl ⟨by rfl, ?_⟩) (by assumption) ?_
  · intro X hSw
    go_simp
  simp only [Act.put, List.setIfInBounds_toArray, List.set_cons_zero, List.set_cons_succ]
  refine take7 (i := 3) (d := 30) (v := .map (some bm)) rfl rfl (by kernel_rfl) (by kernel_rfl) (by kernel_rfl) (fun _ _ _ h => h) (Or.inl ⟨by rfl, ?_⟩) (by assumption) ?_
  · intro X hSw
    go_simp
  simp only [Act.put, List.setIfInBounds_toArray, List.set_cons_zero, List.set_cons_succ]
  refine take7 (i := 4) (d := 31) (v := .pointer (some ⟨w.heap.size, 3, none⟩)) rfl rfl (by kernel_rfl) (by kernel_rfl) (by kernel_rfl) (fun _ _ _ h => h) (Or.inl ⟨by rfl, ?_⟩) (by assumption) ?_
  · intro X hSw
    go_simp
  simp only [Act.put, List.setIfInBounds_toArray, List.set_cons_zero, List.set_cons_succ]
  refine take7 (i := 5) (d := 32) (v := .string o.user) rfl rfl (by kernel_rfl) (by kernel_rfl) (by kernel_rfl) (fun _ _ _ h => h) (Or.inl ⟨by rfl, ?_⟩) (by assumption) ?_
  · intro X hSw
    go_simp
  simp only [Act.put, List.setIfInBounds_toArray, List.set_cons_zero, List.set_cons_succ]
  refine take7 (i := 7) (d := 34) (v := .agg #[]) rfl rfl (by kernel_rfl) (by kernel_rfl) (by kernel_rfl) (fun _ _ _ h => h) (Or.inl ⟨by rfl, ?_⟩) (by assumption) ?_
  · intro X hSw
    go_simp
  simp only [Act.put, List.setIfInBounds_toArray, List.set_cons_zero, List.set_cons_succ]
  refine wpAnyH_ready (rs := [6]) (by kernel_rfl) (by simp) ?_
  refine AllReadyH.cons rfl (fun K hK => ?_) AllReadyH.nil
  go_wp2_with fail
  refine (HCl.out _).mono ?_
  rintro e Y ⟨rfl, hbY⟩
  have hY : Below u.heap.size u Y := HB3d.out.trans (hbY.mono HB3d.out.size)
  refine hK.out _ _ (HS.out _ hY) (fun hHeld => ?_)
  clear hK K
  try simp only [Act.put, List.setIfInBounds_toArray, List.set_cons_zero, List.set_cons_succ]
  refine wpAnyH_ready (rs := [8]) (by kernel_rfl) (by simp) ?_
  refine AllReadyH.cons rfl (fun K hK => ?_) AllReadyH.nil
  obtain ⟨w5, r5, g5, HA⟩ := HJ.out Y hY
  refine stepUpdate rfl rfl 61 (.tmp 30) (.tmp 33) (.tmp 34) rfl (by simp [Act.eval]) (by simp [Act.eval]) (by simp [Act.eval]) r5 ?_
  refine hK.out _ _ (HS3.out _ _ hY g5) (fun hHeld => ?_)
  clear hK K hHeld r5 g5
  refine wpAnyH_done (by kernel_rfl) ?_ _
  clear hHeld
  go_wp2
  go_ret
  exact ⟨rfl, who, HA.out⟩

end
end Go.Proofs.Ytkioeahlajjmiaa
