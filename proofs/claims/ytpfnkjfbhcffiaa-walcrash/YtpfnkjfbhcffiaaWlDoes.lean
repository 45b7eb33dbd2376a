/-
  What a record makes of its group: do.
-/
import Derived.Test.YtpfnkjfbhcffiaaWlChk
namespace Go.Proofs.Ytpfnkjfbhcffiaa
open Go.RowKit

/-- A group has turned. -/
theorem LgV.did {w u w' : World} {p : Pl} {s : St} {own dk : Nat → Prop} {E : Nat → Value} (h : LgV w p s own dk E) (hu : Below w.heap.size w u) {g : Nat} (g9 : g < 9) {s' : W.Sv} {v' : Value} (hd : Did u w' p.L (3 + g * 6) (E g) s' v') (hok : W.Ok s') :
    LgV w' p { s with gs := upd s.gs g s' } (sinceS own w w') dk (upd E g v') ∧ KeptS own w w' := by
  have hu' := h.below hu
  have hold : ∀ k, k < w.heap.size → k ≠ p.L → rowBlk (E g) ≠ some k → w'.heap[k]? = w.heap[k]? := fun k hk h1 h2 => (hd.block k (Nat.lt_of_lt_of_le hk hu.size) h1 h2).trans (hu.block k hk)
  have hsz : w.heap.size ≤ w'.heap.size := Nat.le_trans hu.size hd.size
  have hc : ∀ q, (q < 3 + g * 6 ∨ 3 + g * 6 + 6 ≤ q) → w'.cell? ⟨p.L, q, none⟩ = w.cell? ⟨p.L, q, none⟩ := fun q hq => (hd.cell q hq).trans (hu.cell (p := ⟨p.L, q, none⟩) h.lt)
  have hf : ∀ q, w'.frozen? ⟨p.L, q, none⟩ = w.frozen? ⟨p.L, q, none⟩ := fun q => (hd.froz q).trans (hu.frozen (p := ⟨p.L, q, none⟩) h.lt)
  have hbn : ∀ k, rowBlk (E g) = some k → own k ∧ k ≠ p.L ∧ k ≠ p.b ∧ k ≠ p.K ∧ ¬ dk k := h.blk g g9
  refine ⟨⟨Nat.lt_of_lt_of_le h.lt hsz, by rw [hc _ (by omega)]; exact h.c0, by rw [hc _ (by omega)]; exact h.c1, by rw [hc _ (by omega)]; exact h.c2, ?_, ?_, by rw [hc _ (by omega)]; exact h.cn, by rw [hc _ (by omega)]; exact h.ct, by rw [hf]; exact h.fn, by rw [hf]; exact h.ft, ?_, ?_, ?_, ?_, .inl h.oL, .inl h.ob, .inl h.oK, fun k hk => .inl (h.od k hk), h.dL, h.dK, h.Lb, h.LK, h.Kb, ?_, ?_, h.nn, h.tt, h.lim⟩, ?_⟩
  · rw [hold p.K (h.here _ h.oK) (fun e => h.LK e.symm) (fun e => (hbn _ e).2.2.2.1 rfl)]; exact h.kmap
  · intro i hi
    by_cases e : i = g
    · subst e
      show SvC w' p.L (3 + i * 6) (upd s.gs i s' i) (upd E i v' i)
      rw [upd_same, upd_same]
      exact hd.sv
    · show SvC w' p.L (3 + i * 6) (upd s.gs g s' i) (upd E g v' i)
      rw [upd_other _ _ e, upd_other _ _ e]
      have q := h.sv i hi
      refine ⟨by rw [hc _ (by omega)]; exact q.c0, by rw [hc _ (by omega)]; exact q.c1, by rw [hc _ (by omega)]; exact q.c2, by rw [hc _ (by omega)]; exact q.c3, by rw [hc _ (by omega)]; exact q.c4, by rw [hc _ (by omega)]; exact q.c5, fun j hj => by rw [hf]; exact q.fz j hj⟩
  · intro i hi
    by_cases e : i = g
    · subst e
      show EntV w' (upd E i v' i) (upd s.gs i s' i).ents
      rw [upd_same, upd_same]
      exact hd.ent
    · show EntV w' (upd E g v' i) (upd s.gs g s' i).ents
      rw [upd_other _ _ e, upd_other _ _ e]
      exact RowV.carry (h.ent i hi) (fun k hk => hold k (RowV.lt (h.ent i hi) hk) (h.blk i hi k hk).2.1 (fun q => h.apart i g hi g9 e k hk q))
  · intro i hi k hk
    by_cases e : i = g
    · subst e
      rw [upd_same] at hk
      rcases hd.loc k hk with q | q
      · have := hbn k q
        exact ⟨.inl this.1, this.2⟩
      · have hus := hu.size
        have h1 := h.here _ h.oL
        have h2 := h.here _ h.ob
        have h3 := h.here _ h.oK
        refine ⟨.inr ⟨by omega, RowV.lt hd.ent hk⟩, by omega, by omega, by omega, fun e => ?_⟩
        have := h.here _ (h.od k e)
        omega
    · rw [upd_other _ _ e] at hk
      have := h.blk i hi k hk
      exact ⟨.inl this.1, this.2⟩
  · have hx : ∀ j, j < 9 → j ≠ g → ∀ k, rowBlk (E j) = some k → rowBlk v' = some k → False := by
      intro j hj e k hk hk'
      rcases hd.loc k hk' with q | q
      · exact h.apart j g hj g9 e k hk q
      · have := RowV.lt (h.ent j hj) hk
        have := hu.size
        omega
    intro i j hi hj e k hk hk'
    by_cases e1 : i = g
    · subst e1
      rw [upd_same] at hk
      rw [upd_other _ _ (fun q => e q.symm)] at hk'
      exact hx j hj (fun q => e q.symm) k hk' hk
    · rw [upd_other _ _ e1] at hk
      by_cases e2 : j = g
      · subst e2
        rw [upd_same] at hk'
        exact hx i hi e1 k hk hk'
      · rw [upd_other _ _ e2] at hk'
        exact h.apart i j hi hj e k hk hk'
  · exact h.disk.carry hsz (hold p.b (h.here _ h.ob) (fun e => h.Lb e.symm) (fun e => (hbn _ e).2.2.1 rfl)) (fun k hk q => hold k hk (fun e => h.dL (e ▸ q)) (fun e => (hbn _ e).2.2.2.2 q))
  · intro k hk
    rcases hk with q | q
    · exact Nat.lt_of_lt_of_le (h.here k q) hsz
    · exact q.2
  · intro i
    show W.Ok (upd s.gs g s' i)
    unfold upd
    split
    · exact hok
    · exact h.ok i
  · exact ⟨hd.os.trans hu.os, hd.tape.trans hu.tape, hd.output.trans hu.output, hsz, fun k hk hn => hold k hk (fun e => hn (e ▸ h.oL)) (fun e => hn (hbn k e).1)⟩

set_option maxHeartbeats 800000 in
set_option maxRecDepth 20000 in
theorem do_some {w : World} {p : Pl} {s : St} {own dk : Nat → Prop} {E : Nat → Value} (h : LgV w p s own dk E) (r : W.Rec) (fm ff fd g : Nat) (hg : r.group = (g : Int)) (g9 : g < 9) (s' : W.Sv) (hok : W.Ok s')
    (hl : ∀ u, u.heap[p.K]? = some kindMap → (Instr.lookup 68 (.map (some p.K)) (.int .i64 r.kind) false).run Try.prog u = .ok (kindV fm ff fd) u)
    (hcd : ∀ (args : Array Value) (u : World), (callFunc fd args).run Try.prog u = .ok (.enter fd args) u)
    (hd : ∀ u, Below w.heap.size w u → Calls Try.prog fd #[.pointer (some ⟨p.L, 3 + g * 6, none⟩), recV r] u fun e w' => e = .returned (.tuple #[]) ∧ ∃ v', Did u w' p.L (3 + g * 6) (E g) s' v') :
    Calls Try.prog 33 #[.pointer (some ⟨p.L, 0, none⟩), recV r] w fun e w' => e = .returned (.tuple #[]) ∧ Lg w' p { s with gs := upd s.gs g s' } (sinceS own w w') ∧ KeptS own w w' := by
  have HLg : Hid (LgV w p s own dk E) := h
  have HOk : Hid (W.Ok s') := hok
  have HG9 : Hid (g < 9) := g9
  have hlt := h.lt
  have c2 := h.c2
  have hK := h.kmap
  have hKlt := h.here _ h.oK
  have HD : Hid _ := hd
  obtain ⟨L, hL⟩ : ∃ L, L = p.L := ⟨_, rfl⟩
  have HLe : Hid (L = p.L) := hL
  obtain ⟨K, hKe⟩ : ∃ K, K = p.K := ⟨_, rfl⟩
  rw [← hL] at c2 hlt HD ⊢
  rw [← hKe] at c2 hl hK hKlt
  obtain ⟨rg, rk, i, t, vv, d⟩ := r
  dsimp only at hg
  subst hg
  unfold recV at HD ⊢
  dsimp only at hl HD ⊢
  unfold kindV fnV at hl
  obtain ⟨u, hu⟩ : ∃ u, u = w.alloc (.cells #[.int .i64 (g : Int), .int .i64 rk, .int .i64 i, .int .i64 t, .int .i64 vv, .string d] 37) := ⟨_, rfl⟩
  obtain ⟨bx, hbx⟩ : ∃ bx, bx = w.heap.size := ⟨_, rfl⟩
  have hKu : u.heap[K]? = some kindMap := by rw [hu, Below.heap_alloc w _ K hKlt]; exact hK
  have l0 := hl u.drew hKu
  have HB : Hid (Below w.heap.size w u) := by rw [hu]; exact below_alloc _ _
  have ub : ∀ j, u.cell? ⟨bx, j, none⟩ = (#[.int .i64 (g : Int), .int .i64 rk, .int .i64 i, .int .i64 t, .int .i64 vv, .string d] : Array Value)[j]? := by intro j; rw [hu, hbx]; exact World.cell?_alloc_mark w _ _ _ j
  have u0 : u.cell? ⟨bx, 0, none⟩ = some (.int .i64 (g : Int)) := ub 0
  have u1 : u.cell? ⟨bx, 1, none⟩ = some (.int .i64 rk) := ub 1
  have u2 : u.cell? ⟨bx, 2, none⟩ = some (.int .i64 i) := ub 2
  have u3 : u.cell? ⟨bx, 3, none⟩ = some (.int .i64 t) := ub 3
  have u4 : u.cell? ⟨bx, 4, none⟩ = some (.int .i64 vv) := ub 4
  have u5 : u.cell? ⟨bx, 5, none⟩ = some (.string d) := ub 5
  have uL : u.cell? ⟨L, 2, none⟩ = some (.map (some K)) := by rw [hu, World.cell?_alloc_lt _ _ _ hlt]; exact c2
  have hg0 : (0 : Int) ≤ (g : Int) := by omega
  have hg9' : (g : Int) < 9 := by omega
  have hfld : ∀ (x y z : Nat) (u : World), (Instr.field 92 (.agg #[.func (.func x) #[] #[], .func (.func y) #[] #[], .func (.func z) #[] #[]]) 2).run Try.prog u = .ok (.func (.func z) #[] #[]) u := fun _ _ _ _ => by kernel_rfl
  clear h hd hl hK hKlt c2 hL hKe hKu ub hlt hok g9
  go_enter Try.func33, Try.ntmps33
  go_wp2
  rw [← hu, ← hbx]
  clear hu hbx
  refine wp_tail5 15 (by kernel_rfl) (by kernel_rfl) ?_
  simp only [List.take_succ_cons, List.take_zero, List.drop_succ_cons, List.drop_zero]
  repeat still_step
  try refine wpStill_nil ?_
  go_wp2_with fail
  refine Calls.mono (HD.out _ HB.out.drew) ?_
  rintro e w4 ⟨rfl, v', hdid⟩
  rw [HLe.out] at hdid
  have HX : Hid _ := HLg.out.did HB.out.drew HG9.out hdid HOk.out
  clear hdid
  go_wp2
  exact bodyPost_end (v := .tuple #[]) (by simp [results, Try.results33]) rfl ⟨rfl, ⟨_, _, HX.out.1⟩, HX.out.2⟩

theorem do_c {w : World} {p : Pl} {s : St} {own : Nat → Prop} (h : Lg w p s own) (r : W.Rec) (hc : W.chk s.gs r = 0) :
    Calls Try.prog 33 #[.pointer (some ⟨p.L, 0, none⟩), recV r] w fun e w' => e = .returned (.tuple #[]) ∧ Lg w' p { s with gs := W.doR s.gs r } (sinceS own w w') ∧ KeptS own w w' := by
  obtain ⟨dk, E, h⟩ := h
  obtain ⟨q1, q2, q3⟩ := W.chk_ok hc
  have hg := W.isGroup_iff.1 q1
  obtain ⟨g, hgr⟩ : ∃ g : Nat, r.group = (g : Int) := ⟨r.group.toNat, by omega⟩
  have g9 : g < 9 := by omega
  have hgn : r.group.toNat = g := by rw [hgr]; rfl
  rw [hgn] at q3
  have hok := W.ok_fold (h.ok g) q2 q3
  unfold W.doR
  rw [hgn]
  have hrow : rowBlk (E g) ≠ some p.L := fun e => (h.blk g g9 _ e).2.1 rfl
  have hlen : (s.gs g).ents.length ≤ 1099511627776 := by
    have := (h.ok g).last
    have := (h.ok g).base
    unfold W.last at *
    omega
  unfold W.fold at hok ⊢
  unfold W.fits at q3
  by_cases k1 : r.kind = 1
  · rw [if_pos k1] at hok ⊢
    refine do_some h r 47 48 49 g hgr g9 _ hok (fun u hu => look_run r.kind u p.K hu false _ true (by rw [k1]; exact ⟨rfl, rfl⟩)) (fun _ _ => by kernel_rfl) (fun u hu => ?_)
    exact doHard_c ((below_old hu).svc (h.sv g g9)) ((below_old hu).ent (h.ent g g9)) hrow r
  rw [if_neg k1] at hok q3 ⊢
  by_cases k2 : r.kind = 2
  · rw [if_pos k2] at hok q3 ⊢
    refine do_some h r 50 51 52 g hgr g9 _ hok (fun u hu => look_run r.kind u p.K hu false _ true (by rw [k2]; exact ⟨rfl, rfl⟩)) (fun _ _ => by kernel_rfl) (fun u hu => ?_)
    exact doEntry_c ((below_old hu).svc (h.sv g g9)) ((below_old hu).ent (h.ent g g9)) hrow hlen r
  rw [if_neg k2] at hok q3 ⊢
  by_cases k3 : r.kind = 3
  · rw [if_pos k3] at hok q3 ⊢
    refine do_some h r 53 54 55 g hgr g9 _ hok (fun u hu => look_run r.kind u p.K hu false _ true (by rw [k3]; exact ⟨rfl, rfl⟩)) (fun _ _ => by kernel_rfl) (fun u hu => ?_)
    exact doCut_c ((below_old hu).svc (h.sv g g9)) ((below_old hu).ent (h.ent g g9)) hrow (h.ok g) r q3
  rw [if_neg k3] at hok q3 ⊢
  have k4 : r.kind = 4 := by
    unfold W.mayK at q2
    rw [if_neg k1, if_neg k2, if_neg k3] at q2
    by_cases k4 : r.kind = 4
    · exact k4
    · rw [if_neg k4] at q2; cases q2
  refine do_some h r 56 57 58 g hgr g9 _ hok (fun u hu => look_run r.kind u p.K hu false _ true (by rw [k4]; exact ⟨rfl, rfl⟩)) (fun _ _ => by kernel_rfl) (fun u hu => ?_)
  by_cases hst : W.stays (s.gs g) r = true
  · exact doBase_yes ((below_old hu).svc (h.sv g g9)) ((below_old hu).ent (h.ent g g9)) hrow (h.ok g) r q3 hst
  · exact doBase_no ((below_old hu).svc (h.sv g g9)) ((below_old hu).ent (h.ent g g9)) hrow (h.ok g) r q3 (by simpa using hst)

end Go.Proofs.Ytpfnkjfbhcffiaa
