/-
  Whether a record may be and fits: check. Whether a record may be and fits: check, whatever the record is.
-/
import Derived.Test.YtpfnkjfbhcffiaaWlLog
import Derived.Laws.EntriesVeiled
namespace Go.Proofs.Ytpfnkjfbhcffiaa
open Go.RowKit

theorem look_run (k : Int) (u : World) (K : Nat) (hK : u.heap[K]? = some kindMap) (c : Bool) (v : Value) (b : Bool)
    (hf : (match Instr.findNow (.int .i64) (.int .i64 k) kindList 0 with | some (some (_, x)) => v = x ∧ b = true | some none => v = .agg #[.nilFunc, .nilFunc, .nilFunc] ∧ b = false | none => False)) :
    (Instr.lookup 68 (.map (some K)) (.int .i64 k) c).run Try.prog u = .ok (if c then .tuple #[v, .bool b] else v) u := by
  have hck := MapKept.run_checkKey (P := Try.prog) (w := u) (kt := 3) (d := .int .i64) (k := .int .i64 k) Try.underlying3 (by simp [MapKept.IsKey]) false 9999
  have hz : (zeroValue 92).run Try.prog u = .ok (.agg #[.nilFunc, .nilFunc, .nilFunc]) u := by kernel_rfl
  unfold kindMap at hK
  have hne : kindList.toArray.isEmpty = false := rfl
  split at hf
  · rename_i i x hx
    obtain ⟨rfl, rfl⟩ := hf
    simp [Instr.lookup, run_underlying Try.underlying68, MapKept.run_getObj_map hK, hne, hck, Instr.findKey, run_underlying Try.underlying3, Result.andThen, hx]
  · rename_i hx
    obtain ⟨rfl, rfl⟩ := hf
    simp [Instr.lookup, run_underlying Try.underlying68, MapKept.run_getObj_map hK, hne, hck, Instr.findKey, run_underlying Try.underlying3, Result.andThen, hx]
  · cases hf

set_option maxHeartbeats 800000 in
set_option maxRecDepth 20000 in
theorem check_some {w : World} {p : Pl} {s : St} {own dk : Nat → Prop} {E : Nat → Value} (h : LgV w p s own dk E) (r : W.Rec) (fm ff fd : Nat) (m f : Bool)
    (hl : ∀ u, u.heap[p.K]? = some kindMap → (Instr.lookup 68 (.map (some p.K)) (.int .i64 r.kind) true).run Try.prog u = .ok (.tuple #[kindV fm ff fd, .bool true]) u)
    (hcm : ∀ (args : Array Value) (u : World), (callFunc fm args).run Try.prog u = .ok (.enter fm args) u) (hcf : ∀ (args : Array Value) (u : World), (callFunc ff args).run Try.prog u = .ok (.enter ff args) u)
    (hm : ∀ u, Calls Try.prog fm #[recV r] u fun e w' => e = .returned (.bool m) ∧ Below u.heap.size u w')
    (hf : ∀ g : Nat, r.group = (g : Int) → g < 9 → ∀ u, Below w.heap.size w u → Calls Try.prog ff #[.pointer (some ⟨p.L, 3 + g * 6, none⟩), recV r] u fun e w' => e = .returned (.bool f) ∧ Below u.heap.size u w') :
    Calls Try.prog 29 #[.pointer (some ⟨p.L, 0, none⟩), recV r] w fun e w' => e = .returned (.int .i64 (if W.isGroup r.group && m then (if f then 0 else 50) else 1)) ∧ Below w.heap.size w w' := by
  have HG : Hid _ := isGroup_c r.group
  have HM : Hid _ := hm
  have hlt := h.lt
  have c2 := h.c2
  have hK := h.kmap
  have hKlt := h.here _ h.oK
  obtain ⟨L, hL⟩ : ∃ L, L = p.L := ⟨_, rfl⟩
  obtain ⟨K, hKe⟩ : ∃ K, K = p.K := ⟨_, rfl⟩
  rw [← hL] at c2 hlt hf ⊢
  rw [← hKe] at c2 hl hK hKlt
  obtain ⟨gi, hgi⟩ : ∃ gi, gi = W.isGroup r.group := ⟨_, rfl⟩
  rw [← hgi] at HG ⊢
  have HFF : Hid _ := hf
  have HGI : Hid (gi = W.isGroup r.group) := hgi
  obtain ⟨rg, rk, i, t, vv, d⟩ := r
  unfold recV at HM HFF ⊢
  dsimp only at HG HM hl HFF HGI ⊢
  unfold kindV fnV at hl
  obtain ⟨u, hu⟩ : ∃ u, u = w.alloc (.cells #[.int .i64 rg, .int .i64 rk, .int .i64 i, .int .i64 t, .int .i64 vv, .string d] 37) := ⟨_, rfl⟩
  obtain ⟨bx, hbx⟩ : ∃ bx, bx = w.heap.size := ⟨_, rfl⟩
  have hKu : u.heap[K]? = some kindMap := by rw [hu, Below.heap_alloc w _ K hKlt]; exact hK
  have l0 := hl u.drew hKu
  have l1 : ∀ o, (Instr.lookup 68 (.map (some K)) (.int .i64 rk) true).run Try.prog (u.alloc o).drew = .ok (.tuple #[.agg #[.func (.func fm) #[] #[], .func (.func ff) #[] #[], .func (.func fd) #[] #[]], .bool true]) (u.alloc o).drew :=
    fun o => hl _ (by show (u.alloc o).heap[K]? = _; rw [Below.heap_alloc u o K (by rw [hu]; simp; omega)]; exact hKu)
  have HB : Hid (Below w.heap.size w u) := by rw [hu]; exact below_alloc _ _
  have hbu : bx < u.heap.size := by rw [hu, hbx]; simp
  have hLu : L < u.heap.size := by rw [hu]; simp; omega
  have HBX : Hid (bx = w.heap.size) := hbx
  have ub : ∀ j, u.cell? ⟨bx, j, none⟩ = (#[.int .i64 rg, .int .i64 rk, .int .i64 i, .int .i64 t, .int .i64 vv, .string d] : Array Value)[j]? := by intro j; rw [hu, hbx]; exact World.cell?_alloc_mark w _ _ _ j
  have u0 : u.cell? ⟨bx, 0, none⟩ = some (.int .i64 rg) := ub 0
  have u1 : u.cell? ⟨bx, 1, none⟩ = some (.int .i64 rk) := ub 1
  have u2 : u.cell? ⟨bx, 2, none⟩ = some (.int .i64 i) := ub 2
  have u3 : u.cell? ⟨bx, 3, none⟩ = some (.int .i64 t) := ub 3
  have u4 : u.cell? ⟨bx, 4, none⟩ = some (.int .i64 vv) := ub 4
  have u5 : u.cell? ⟨bx, 5, none⟩ = some (.string d) := ub 5
  have uL : u.cell? ⟨L, 2, none⟩ = some (.map (some K)) := by rw [hu, World.cell?_alloc_lt _ _ _ hlt]; exact c2
  clear h hm hf hl hK hKlt c2 hL hKe hgi hKu ub hlt
  go_enter Try.func29, Try.ntmps29
  go_wp2
  rw [← hu, ← hbx]
  clear hu hbx
  go_region
  obtain ⟨x, hx⟩ : ∃ x, x = (u.alloc (.cells #[.func (.func fm) #[] #[], .func (.func ff) #[] #[], .func (.func fd) #[] #[]] 92)).drew := ⟨_, rfl⟩
  obtain ⟨kb, hkb⟩ : ∃ kb, kb = u.heap.size := ⟨_, rfl⟩
  have hBx : Below w.heap.size w x := by rw [hx]; exact HB.out.trans (((below_alloc u _).drew).mono HB.out.size)
  have hxs : bx < x.heap.size ∧ kb < x.heap.size := by rw [hx, hkb]; constructor <;> (show _ < (World.alloc _ _).heap.size; simp) ; omega
  have hold : ∀ q, q < u.heap.size → x.heap[q]? = u.heap[q]? := by intro q hq; rw [hx]; exact Below.heap_alloc u _ q hq
  have xb : ∀ j, x.cell? ⟨bx, j, none⟩ = u.cell? ⟨bx, j, none⟩ := fun j => World.cell?_of_block (a := ⟨bx, j, none⟩) (hold bx hbu)
  have xk : ∀ j, x.cell? ⟨kb, j, none⟩ = (#[.func (.func fm) #[] #[], .func (.func ff) #[] #[], .func (.func fd) #[] #[]] : Array Value)[j]? := by
    intro j
    rw [hx, hkb]
    exact World.cell?_alloc_mark u _ _ _ j
  have x0 := (xb 0).trans u0
  have x1 := (xb 1).trans u1
  have x2 := (xb 2).trans u2
  have x3 := (xb 3).trans u3
  have x4 := (xb 4).trans u4
  have x5 := (xb 5).trans u5
  have k0 : x.cell? ⟨kb, 0, none⟩ = some (.func (.func fm) #[] #[]) := xk 0
  have k1 : x.cell? ⟨kb, 1, none⟩ = some (.func (.func ff) #[] #[]) := xk 1
  have HBx : Hid _ := hBx
  have HXS : Hid _ := hxs
  rw [← hx, ← hkb]
  clear hx hkb hBx hold xb xk u0 u1 u2 u3 u4 u5 uL l0 l1 hbu hLu hxs HB
  cases gi
  · go_wp2_with fail
    refine Calls.mono (HG.out _) ?_
    rintro e w1 ⟨rfl, hw⟩
    subst hw
    go_wp2
    go_ret
    exact ⟨rfl, HBx.out⟩
  · obtain ⟨g, hg9, hrg⟩ : ∃ g : Nat, g < 9 ∧ rg = (g : Int) := by
      have := W.isGroup_iff.1 HGI.out.symm
      exact ⟨rg.toNat, by omega, by omega⟩
    have HFG : Hid _ := HFF.out g hrg hg9
    subst hrg
    go_wp2_with fail
    refine Calls.mono (HG.out _) ?_
    rintro e w1 ⟨rfl, hw⟩
    subst hw
    go_wp2_with fail
    refine Calls.mono (HM.out _) ?_
    rintro e w3 ⟨rfl, hb3⟩
    have y0 := (hb3.cell (p := ⟨bx, 0, none⟩) HXS.out.1).trans x0
    have y1 := (hb3.cell (p := ⟨bx, 1, none⟩) HXS.out.1).trans x1
    have y2 := (hb3.cell (p := ⟨bx, 2, none⟩) HXS.out.1).trans x2
    have y3 := (hb3.cell (p := ⟨bx, 3, none⟩) HXS.out.1).trans x3
    have y4 := (hb3.cell (p := ⟨bx, 4, none⟩) HXS.out.1).trans x4
    have y5 := (hb3.cell (p := ⟨bx, 5, none⟩) HXS.out.1).trans x5
    have z1 := (hb3.cell (p := ⟨kb, 1, none⟩) HXS.out.2).trans k1
    have HB3 : Hid (Below w.heap.size w w3) := HBx.out.trans (hb3.mono HBx.out.size)
    clear x0 x1 x2 x3 x4 x5 k0 k1 hb3
    cases m
    · go_wp2
      go_ret
      exact ⟨rfl, HB3.out⟩
    · have hg0 : (0 : Int) ≤ (g : Int) := by omega
      have hg9' : (g : Int) < 9 := by omega
      go_wp2
      refine wp_tail5 9 (by kernel_rfl) (by kernel_rfl) ?_
      simp only [List.take_succ_cons, List.take_zero, List.drop_succ_cons, List.drop_zero]
      repeat still_step
      try refine wpStill_nil ?_
      go_wp2_with fail
      refine Calls.mono (HFG.out _ HB3.out.drew) ?_
      rintro e w4 ⟨rfl, hb4⟩
      have HB4 : Hid (Below w.heap.size w w4) := HB3.out.drew.trans (hb4.mono HB3.out.size)
      clear hb4
      cases f
      · go_wp2
        go_ret
        exact ⟨rfl, HB4.out⟩
      · go_wp2
        go_ret
        exact ⟨rfl, HB4.out⟩

end Go.Proofs.Ytpfnkjfbhcffiaa

namespace Go.Proofs.Ytpfnkjfbhcffiaa
open Go.RowKit

set_option maxHeartbeats 800000 in
set_option maxRecDepth 20000 in
theorem check_none {w : World} {p : Pl} {s : St} {own dk : Nat → Prop} {E : Nat → Value} (h : LgV w p s own dk E) (r : W.Rec)
    (hl : ∀ u, u.heap[p.K]? = some kindMap → (Instr.lookup 68 (.map (some p.K)) (.int .i64 r.kind) true).run Try.prog u = .ok (.tuple #[.agg #[.nilFunc, .nilFunc, .nilFunc], .bool false]) u) :
    Calls Try.prog 29 #[.pointer (some ⟨p.L, 0, none⟩), recV r] w fun e w' => e = .returned (.int .i64 1) ∧ Below w.heap.size w w' := by
  have hlt := h.lt
  have c2 := h.c2
  have hK := h.kmap
  have hKlt := h.here _ h.oK
  obtain ⟨L, hL⟩ : ∃ L, L = p.L := ⟨_, rfl⟩
  obtain ⟨K, hKe⟩ : ∃ K, K = p.K := ⟨_, rfl⟩
  rw [← hL] at c2 hlt ⊢
  rw [← hKe] at c2 hl hK hKlt
  obtain ⟨rg, rk, i, t, vv, d⟩ := r
  unfold recV
  dsimp only at hl ⊢
  obtain ⟨u, hu⟩ : ∃ u, u = w.alloc (.cells #[.int .i64 rg, .int .i64 rk, .int .i64 i, .int .i64 t, .int .i64 vv, .string d] 37) := ⟨_, rfl⟩
  obtain ⟨bx, hbx⟩ : ∃ bx, bx = w.heap.size := ⟨_, rfl⟩
  have hKu : u.heap[K]? = some kindMap := by rw [hu, Below.heap_alloc w _ K hKlt]; exact hK
  have l0 := hl u.drew hKu
  have l1 : ∀ o, (Instr.lookup 68 (.map (some K)) (.int .i64 rk) true).run Try.prog (u.alloc o).drew = .ok (.tuple #[.agg #[.nilFunc, .nilFunc, .nilFunc], .bool false]) (u.alloc o).drew :=
    fun o => hl _ (by show (u.alloc o).heap[K]? = _; rw [Below.heap_alloc u o K (by rw [hu]; simp; omega)]; exact hKu)
  have HB : Hid (Below w.heap.size w u) := by rw [hu]; exact below_alloc _ _
  have hbu : bx < u.heap.size := by rw [hu, hbx]; simp
  have hLu : L < u.heap.size := by rw [hu]; simp; omega
  have u1 : u.cell? ⟨bx, 1, none⟩ = some (.int .i64 rk) := by rw [hu, hbx]; exact World.cell?_alloc_mark w _ _ _ 1
  have uL : u.cell? ⟨L, 2, none⟩ = some (.map (some K)) := by rw [hu, World.cell?_alloc_lt _ _ _ hlt]; exact c2
  clear h hl hK hKlt c2 hL hKe hKu hlt
  go_enter Try.func29, Try.ntmps29
  go_wp2
  rw [← hu, ← hbx]
  clear hu hbx
  go_region
  go_wp2
  go_ret
  exact ⟨rfl, HB.out.trans (((below_alloc u _).drew).mono HB.out.size)⟩

theorem below_old {w u : World} (h : Below w.heap.size w u) : Old w u := fun k hk => h.block k hk

theorem check_c {w : World} {p : Pl} {s : St} {own : Nat → Prop} (h : Lg w p s own) (r : W.Rec) :
    Calls Try.prog 29 #[.pointer (some ⟨p.L, 0, none⟩), recV r] w fun e w' => e = .returned (.int .i64 (W.chk s.gs r)) ∧ Below w.heap.size w w' := by
  obtain ⟨dk, E, h⟩ := h
  have hgo : ∀ (m f : Bool), m = W.mayK r → (∀ g : Nat, r.group = (g : Int) → f = W.fits (s.gs g) r) → (if W.isGroup r.group && m then (if f then 0 else 50) else 1 : Int) = W.chk s.gs r := by
    intro m f hm hf
    unfold W.chk W.may
    rw [← hm]
    by_cases hg : W.isGroup r.group = true
    · have := W.isGroup_iff.1 hg
      rw [hf r.group.toNat (by omega)]
    · rw [show W.isGroup r.group = false by simpa using hg]
      rfl
  by_cases k1 : r.kind = 1
  · have hl : ∀ u, u.heap[p.K]? = some kindMap → (Instr.lookup 68 (.map (some p.K)) (.int .i64 r.kind) true).run Try.prog u = .ok (.tuple #[kindV 47 48 49, .bool true]) u :=
      fun u hu => look_run r.kind u p.K hu true _ true (by rw [k1]; exact ⟨rfl, rfl⟩)
    rw [← hgo (W.mayHard r) true (by unfold W.mayK; rw [if_pos k1]) (fun g _ => by unfold W.fits; rw [if_pos k1])]
    exact check_some h r _ _ _ _ _ hl (fun _ _ => by kernel_rfl) (fun _ _ => by kernel_rfl) (mayHard_c r) (fun g _ _ u _ => fitsHard_c _ r u)
  by_cases k2 : r.kind = 2
  · have hl : ∀ u, u.heap[p.K]? = some kindMap → (Instr.lookup 68 (.map (some p.K)) (.int .i64 r.kind) true).run Try.prog u = .ok (.tuple #[kindV 50 51 52, .bool true]) u :=
      fun u hu => look_run r.kind u p.K hu true _ true (by rw [k2]; exact ⟨rfl, rfl⟩)
    rw [← hgo (W.mayEntry r) (W.fitsEntry (s.gs r.group.toNat) r) (by unfold W.mayK; rw [if_neg k1, if_pos k2]) (fun g hg => by unfold W.fits; rw [if_neg k1, if_pos k2, hg, Int.toNat_natCast])]
    refine check_some h r _ _ _ _ _ hl (fun _ _ => by kernel_rfl) (fun _ _ => by kernel_rfl) (mayEntry_c r) (fun g hg g9 u hu => ?_)
    rw [hg, Int.toNat_natCast]
    exact fitsEntry_c ((below_old hu).svc (h.sv g g9)) ((below_old hu).ent (h.ent g g9)) (h.ok g) r
  by_cases k3 : r.kind = 3
  · have hl : ∀ u, u.heap[p.K]? = some kindMap → (Instr.lookup 68 (.map (some p.K)) (.int .i64 r.kind) true).run Try.prog u = .ok (.tuple #[kindV 53 54 55, .bool true]) u :=
      fun u hu => look_run r.kind u p.K hu true _ true (by rw [k3]; exact ⟨rfl, rfl⟩)
    rw [← hgo (W.mayCut r) (W.fitsCut (s.gs r.group.toNat) r) (by unfold W.mayK; rw [if_neg k1, if_neg k2, if_pos k3]) (fun g hg => by unfold W.fits; rw [if_neg k1, if_neg k2, if_pos k3, hg, Int.toNat_natCast])]
    refine check_some h r _ _ _ _ _ hl (fun _ _ => by kernel_rfl) (fun _ _ => by kernel_rfl) (mayCut_c r) (fun g hg g9 u hu => ?_)
    rw [hg, Int.toNat_natCast]
    exact fitsCut_c ((below_old hu).svc (h.sv g g9)) ((below_old hu).ent (h.ent g g9)) (h.ok g) r
  by_cases k4 : r.kind = 4
  · have hl : ∀ u, u.heap[p.K]? = some kindMap → (Instr.lookup 68 (.map (some p.K)) (.int .i64 r.kind) true).run Try.prog u = .ok (.tuple #[kindV 56 57 58, .bool true]) u :=
      fun u hu => look_run r.kind u p.K hu true _ true (by rw [k4]; exact ⟨rfl, rfl⟩)
    rw [← hgo (W.mayBase r) (W.fitsBase (s.gs r.group.toNat) r) (by unfold W.mayK; rw [if_neg k1, if_neg k2, if_neg k3, if_pos k4]) (fun g hg => by unfold W.fits; rw [if_neg k1, if_neg k2, if_neg k3, hg, Int.toNat_natCast])]
    refine check_some h r _ _ _ _ _ hl (fun _ _ => by kernel_rfl) (fun _ _ => by kernel_rfl) (mayBase_c r) (fun g hg g9 u hu => ?_)
    rw [hg, Int.toNat_natCast]
    exact fitsBase_c ((below_old hu).svc (h.sv g g9)) r
  · have hl : ∀ u, u.heap[p.K]? = some kindMap → (Instr.lookup 68 (.map (some p.K)) (.int .i64 r.kind) true).run Try.prog u = .ok (.tuple #[.agg #[.nilFunc, .nilFunc, .nilFunc], .bool false]) u :=
      fun u hu => look_run r.kind u p.K hu true _ false (by
        have e : Instr.findNow (.int .i64) (.int .i64 r.kind) kindList 0 = some none := by
          have b1 : (r.kind == 1) = false := by simpa using k1
          have b2 : (r.kind == 2) = false := by simpa using k2
          have b3 : (r.kind == 3) = false := by simpa using k3
          have b4 : (r.kind == 4) = false := by simpa using k4
          unfold kindList
          simp [Instr.findNow, Instr.sameNow, b1, b2, b3, b4]
        rw [e]
        exact ⟨rfl, rfl⟩)
    have e : W.chk s.gs r = 1 := by
      unfold W.chk W.may W.mayK
      rw [if_neg k1, if_neg k2, if_neg k3, if_neg k4]
      simp
    rw [e]
    exact check_none h r hl

end Go.Proofs.Ytpfnkjfbhcffiaa
