/-
  Segments: how many are closed; a record's bytes behind the others. A record's bytes behind the others: write. A record's bytes behind the others: write, where there is room.
-/
import Derived.Test.YtpfnkjfbhcffiaaWlDoes
import Derived.Test.YtpfnkjfbhcffiaaWlPut
import Derived.Test.YtpfnkjfbhcffiaaDkAdd
import Derived.Test.YtpfnkjfbhcffiaaDkSync
namespace Go.Proofs.Ytpfnkjfbhcffiaa
open Go.RowKit

/-- What a call leaves: the log as it is now, and all that it does not own as it was. -/
def Aft (own : Nat → Prop) (w w' : World) (p : Pl) (s : St) : Prop := Lg w' p s (sinceS own w w') ∧ KeptS own w w'

theorem Aft.trans {own : Nat → Prop} {w w1 w2 : World} {p : Pl} {s1 s2 : St} (h : Aft own w w1 p s1) (k : Aft (sinceS own w w1) w1 w2 p s2) : Aft own w w2 p s2 := by
  refine ⟨k.1.wider (fun q hq => ?_) (fun q hq => ?_), h.2.trans k.2 (fun q hq e => ?_)⟩
  · rcases hq with (e | e) | e
    · exact .inl e
    · exact .inr ⟨e.1, Nat.lt_of_lt_of_le e.2 k.2.size⟩
    · exact .inr ⟨Nat.le_trans h.2.size e.1, e.2⟩
  · rcases hq with e | e
    · exact Nat.lt_of_lt_of_le (h.1.here q (.inl e)) k.2.size
    · exact e.2
  · rcases e with e | e
    · exact e
    · omega

theorem Aft.same {own : Nat → Prop} {w w' : World} {p : Pl} {s : St} (h : Lg w p s own) (hb : Below w.heap.size w w') : Aft own w w' p s :=
  ⟨(h.below hb).wider (fun _ hq => .inl hq) (fun q hq => by
    rcases hq with e | e
    · exact Nat.lt_of_lt_of_le (h.here q e) hb.size
    · exact e.2), KeptS.ofBelow hb⟩

theorem below_drewN (w : World) (n : Nat) : Below w.heap.size w (w.drewN n) := ⟨rfl, rfl, rfl, Nat.le_refl _, fun _ _ => rfl⟩

theorem Aft.ofDid {own : Nat → Prop} {w w' : World} {p : Pl} {s : St} (h : Lg w' p s (sinceS own w w') ∧ KeptS own w w') : Aft own w w' p s := h
theorem Aft.lg {own : Nat → Prop} {w w' : World} {p : Pl} {s : St} (h : Aft own w w' p s) : Lg w' p s (sinceS own w w') := h.1

theorem Lg.disked {w w' : World} {p : Pl} {s : St} {own dk : Nat → Prop} {E : Nat → Value} (h : LgV w p s own dk E) {A' : Nat → List UInt8} {S' : Nat → Nat} (hd : Dk w' p.b p.room A' S' (since dk w)) (hk : Kept p.b dk w w') : Aft own w w' p { s with A := A', S := S' } :=
  ⟨⟨_, _, (h.disked hd hk).1⟩, (h.disked hd hk).2⟩

theorem made_c {w : World} {p : Pl} {s : St} {own : Nat → Prop} (h : Lg w p s own) : Calls Try.prog 28 #[.pointer (some ⟨p.L, 0, none⟩)] w fun e w' => e = .returned (.bool true) ∧ w' = w := by
  obtain ⟨dk, E, h⟩ := h
  have c0 := h.c0
  clear h
  go_enter Try.func28, Try.ntmps28
  go_wp2
  go_ret
  exact ⟨rfl, rfl⟩

/-- How many segments are closed. -/
def cl (limit : Nat) (s : St) : Nat := if s.n = 0 then 0 else if (s.A (s.n - 1)).length < limit then s.n - 1 else s.n

theorem cl_le (limit : Nat) (s : St) : cl limit s ≤ s.n := by unfold cl; split; omega; split <;> omega

set_option maxHeartbeats 400000 in
theorem closed_c {w : World} {p : Pl} {s : St} {own : Nat → Prop} (h : Lg w p s own) : Calls Try.prog 64 #[.pointer (some ⟨p.L, 0, none⟩)] w fun e w' => e = .returned (.int .i64 (cl p.limit s : Int)) ∧ ∃ m, w' = w.drewN m := by
  obtain ⟨dk, E, h⟩ := h
  have c0 := h.c0
  have c1 := h.c1
  have cn := h.cn
  have hn := h.nn
  have hD := h.disk
  unfold cl
  by_cases h0 : s.n = 0
  · have t0 : ((s.n : Int) == 0) = true := by rw [h0]; rfl
    rw [if_pos h0]
    clear h hD
    rw [h0] at cn
    go_enter Try.func64, Try.ntmps64
    go_wp2
    go_ret
    exact ⟨rfl, 0, rfl⟩
  · obtain ⟨n, hn1⟩ : ∃ n, s.n = n + 1 := ⟨s.n - 1, by omega⟩
    rw [if_neg h0, hn1, Nat.add_sub_cancel]
    rw [hn1] at cn hn
    have HS : Hid (∀ k, Calls Try.prog 59 #[.pointer (some ⟨p.b, 0, none⟩), .int .i64 (n : Int)] (w.drewN k) fun e w' => e = .returned (.tuple #[.int .i64 ((s.A n).length : Int), .int .i64 (s.S n : Int)]) ∧ ∃ m, w' = (w.drewN k).drewN m) := by
      intro k
      refine (Size_yes (hD.below (below_drewN w k)) n (by omega)).mono ?_
      rintro e w' ⟨rfl, hw⟩
      exact ⟨rfl, 1, hw⟩
    obtain ⟨len, hlen⟩ : ∃ len, len = (s.A n).length := ⟨_, rfl⟩
    rw [← hlen] at HS ⊢
    obtain ⟨L, hL⟩ : ∃ L, L = p.L := ⟨_, rfl⟩
    obtain ⟨lim, hlim⟩ : ∃ lim, lim = p.limit := ⟨_, rfl⟩
    obtain ⟨b, hb⟩ : ∃ b, b = p.b := ⟨_, rfl⟩
    rw [← hL] at c0 c1 cn ⊢
    rw [← hlim] at c1 ⊢
    rw [← hb] at c0 HS
    obtain ⟨su, hsu⟩ : ∃ su, su = s.S n := ⟨_, rfl⟩
    rw [← hsu] at HS
    have t0 : (((n + 1 : Nat) : Int) == 0) = false := by simp; omega
    have e1 : ((n + 1 : Nat) : Int) = (n : Int) + 1 := by omega
    rw [e1] at cn t0
    have hw : IntKind.i64.wrap ((n : Int) + 1 - 1) = (n : Int) := by rw [IntKind.wrap_i64]; omega
    clear h hD hlen hL hlim hb hsu h0 hn1
    by_cases hlt : len < lim
    · rw [if_pos hlt]
      go_enter Try.func64, Try.ntmps64
      go_wp2
      go_quiet (first | (go_at_call 59; exact Calls.quiet_of (HS.out _)))
      go_wp2
      go_ret
      exact ⟨by simp, _, rfl⟩
    · rw [if_neg hlt]
      have t1 : decide (len < lim) = false := decide_eq_false hlt
      go_enter Try.func64, Try.ntmps64
      go_wp2
      go_quiet (first | (go_at_call 59; exact Calls.quiet_of (HS.out _)))
      go_wp2
      go_ret
      exact ⟨by rw [e1]; rfl, _, rfl⟩

end Go.Proofs.Ytpfnkjfbhcffiaa

namespace Go.Proofs.Ytpfnkjfbhcffiaa
open Go.RowKit

/-- What is written of a record: a head ahead of it, where it begins a segment. -/
def wx (limit : Nat) (s : St) (x : ByteArray) : ByteArray := if cl limit s = s.n then W.head s.turn ++ x else x
/-- The bytes are there. -/
def wr1 (limit : Nat) (s : St) (x : ByteArray) : St := { s with A := upd s.A (cl limit s) (s.A (cl limit s) ++ (wx limit s x).data.toList), n := cl limit s + 1 }
def wr (limit : Nat) (s : St) (x : ByteArray) : St :=
  if cl limit (wr1 limit s x) = (wr1 limit s x).n then { wr1 limit s x with S := fun i => if i < 256 then ((wr1 limit s x).A i).length else s.S i } else wr1 limit s x

theorem head_size (t : Nat) (h : t ≤ 1) : (W.head t).size ≤ 18 := by
  unfold W.head
  rw [F.record_size]
  have := M.putVar_length9 (n := t) (by omega)
  show 9 + (M.putVar t).toArray.size ≤ 18
  simp; omega

theorem LgV.setN {w : World} {p : Pl} {s : St} {own dk : Nat → Prop} {E : Nat → Value} (h : LgV w p s own dk E) (n : Nat) (hn : n ≤ 200) : LgV (w.setCell ⟨p.L, 57, none⟩ (.int .i64 (n : Int))) p { s with n := n } own dk E := by
  have hg := grown_set w p.L 57 (.int .i64 (n : Int))
  have hc : ∀ q, q ≠ 57 → (w.setCell ⟨p.L, 57, none⟩ (.int .i64 (n : Int))).cell? ⟨p.L, q, none⟩ = w.cell? ⟨p.L, q, none⟩ := fun q hq => by rw [cell_set _ h.cn, if_neg hq]
  have hb : ∀ k, k < w.heap.size → k ≠ p.L → (w.setCell ⟨p.L, 57, none⟩ (.int .i64 (n : Int))).heap[k]? = w.heap[k]? := fun k hk hn => hg.block k hk (by intro e; injection e with e; exact hn e)
  refine ⟨by rw [size_set]; exact h.lt, by rw [hc _ (by omega)]; exact h.c0, by rw [hc _ (by omega)]; exact h.c1, by rw [hc _ (by omega)]; exact h.c2, by rw [hb _ (h.here _ h.oK) (fun e => h.LK e.symm)]; exact h.kmap, ?_, by rw [cell_set _ h.cn, if_pos rfl], by rw [hc _ (by omega)]; exact h.ct, by rw [World.frozen?_setCell]; exact h.fn, by rw [World.frozen?_setCell]; exact h.ft,
    fun i hi => RowV.carry (h.ent i hi) (fun k hk => hb k (RowV.lt (h.ent i hi) hk) (h.blk i hi k hk).2.1), h.blk, h.apart, ?_, h.oL, h.ob, h.oK, h.od, h.dL, h.dK, h.Lb, h.LK, h.Kb, fun k hk => by rw [size_set]; exact h.here k hk, h.ok, hn, h.tt, h.lim⟩
  · intro i hi
    have q := h.sv i hi
    exact ⟨by rw [hc _ (by omega)]; exact q.c0, by rw [hc _ (by omega)]; exact q.c1, by rw [hc _ (by omega)]; exact q.c2, by rw [hc _ (by omega)]; exact q.c3, by rw [hc _ (by omega)]; exact q.c4, by rw [hc _ (by omega)]; exact q.c5, fun j hj => by rw [World.frozen?_setCell]; exact q.fz j hj⟩
  · exact h.disk.setCell _ _ h.Lb h.dL

theorem LgV.setT {w : World} {p : Pl} {s : St} {own dk : Nat → Prop} {E : Nat → Value} (h : LgV w p s own dk E) (t : Nat) (ht : t ≤ 1) : LgV (w.setCell ⟨p.L, 58, none⟩ (.int .i64 (t : Int))) p { s with turn := t } own dk E := by
  have hg := grown_set w p.L 58 (.int .i64 (t : Int))
  have hc : ∀ q, q ≠ 58 → (w.setCell ⟨p.L, 58, none⟩ (.int .i64 (t : Int))).cell? ⟨p.L, q, none⟩ = w.cell? ⟨p.L, q, none⟩ := fun q hq => by rw [cell_set _ h.ct, if_neg hq]
  have hb : ∀ k, k < w.heap.size → k ≠ p.L → (w.setCell ⟨p.L, 58, none⟩ (.int .i64 (t : Int))).heap[k]? = w.heap[k]? := fun k hk hn => hg.block k hk (by intro e; injection e with e; exact hn e)
  refine ⟨by rw [size_set]; exact h.lt, by rw [hc _ (by omega)]; exact h.c0, by rw [hc _ (by omega)]; exact h.c1, by rw [hc _ (by omega)]; exact h.c2, by rw [hb _ (h.here _ h.oK) (fun e => h.LK e.symm)]; exact h.kmap, ?_, by rw [hc _ (by omega)]; exact h.cn, by rw [cell_set _ h.ct, if_pos rfl], by rw [World.frozen?_setCell]; exact h.fn, by rw [World.frozen?_setCell]; exact h.ft,
    fun i hi => RowV.carry (h.ent i hi) (fun k hk => hb k (RowV.lt (h.ent i hi) hk) (h.blk i hi k hk).2.1), h.blk, h.apart, ?_, h.oL, h.ob, h.oK, h.od, h.dL, h.dK, h.Lb, h.LK, h.Kb, fun k hk => by rw [size_set]; exact h.here k hk, h.ok, h.nn, ht, h.lim⟩
  · intro i hi
    have q := h.sv i hi
    exact ⟨by rw [hc _ (by omega)]; exact q.c0, by rw [hc _ (by omega)]; exact q.c1, by rw [hc _ (by omega)]; exact q.c2, by rw [hc _ (by omega)]; exact q.c3, by rw [hc _ (by omega)]; exact q.c4, by rw [hc _ (by omega)]; exact q.c5, fun j hj => by rw [World.frozen?_setCell]; exact q.fz j hj⟩
  · exact h.disk.setCell _ _ h.Lb h.dL

/-- The log's own cells, told of a world. -/
theorem Lg.cells {w : World} {p : Pl} {s : St} {own : Nat → Prop} (h : Lg w p s own) : w.cell? ⟨p.L, 0, none⟩ = some (.pointer (some ⟨p.b, 0, none⟩)) ∧ w.cell? ⟨p.L, 1, none⟩ = some (.int .i64 (p.limit : Int)) ∧ w.cell? ⟨p.L, 57, none⟩ = some (.int .i64 (s.n : Int)) ∧ w.cell? ⟨p.L, 58, none⟩ = some (.int .i64 (s.turn : Int)) ∧ w.frozen? ⟨p.L, 57, none⟩ = false ∧ w.frozen? ⟨p.L, 58, none⟩ = false := by
  obtain ⟨dk, E, h⟩ := h
  exact ⟨h.c0, h.c1, h.cn, h.ct, h.fn, h.ft⟩

/-- The disk's calls, told of a log. -/
theorem Lg.add {w : World} {p : Pl} {s : St} {own : Nat → Prop} (h : Lg w p s own) (i : Nat) (hi : i < 256) (x : ByteArray) (hfit : tot s.A + x.size ≤ p.room) :
    Calls Try.prog 66 #[.pointer (some ⟨p.b, 0, none⟩), .int .i64 (i : Int), .string x] w fun e w' => e = .returned (.int .i64 0) ∧ Aft own w w' p { s with A := upd s.A i (s.A i ++ x.data.toList) } := by
  obtain ⟨dk, E, h⟩ := h
  refine (Add_yes h.disk i hi x hfit).mono ?_
  rintro e w' ⟨rfl, h1, h2⟩
  exact ⟨rfl, Lg.disked h h1 h2⟩
theorem Lg.addFull {w : World} {p : Pl} {s : St} {own : Nat → Prop} (h : Lg w p s own) (i : Nat) (hi : i < 256) (x : ByteArray) (hfull : p.room < tot s.A + x.size) :
    Calls Try.prog 66 #[.pointer (some ⟨p.b, 0, none⟩), .int .i64 (i : Int), .string x] w fun e w' => e = .returned (.int .i64 30) ∧ w' = w.drew := by
  obtain ⟨dk, E, h⟩ := h
  exact Add_full h.disk i hi x hfull
theorem Lg.sync {w : World} {p : Pl} {s : St} {own : Nat → Prop} (h : Lg w p s own) :
    Calls Try.prog 25 #[.pointer (some ⟨p.b, 0, none⟩)] w fun e w' => e = .returned (.int .i64 0) ∧ Aft own w w' p { s with S := fun i => if i < 256 then (s.A i).length else s.S i } := by
  obtain ⟨dk, E, h⟩ := h
  refine (Sync_yes h.disk).mono ?_
  rintro e w' ⟨rfl, h1, h2⟩
  exact ⟨rfl, Lg.disked h (h1.wider (fun _ _ q => .inl q)) h2⟩
theorem Lg.setN {w : World} {p : Pl} {s : St} {own : Nat → Prop} (h : Lg w p s own) (n : Nat) (hn : n ≤ 200) : Aft own w (w.setCell ⟨p.L, 57, none⟩ (.int .i64 (n : Int))) p { s with n := n } := by
  obtain ⟨dk, E, h⟩ := h
  refine ⟨Lg.wider ⟨dk, E, h.setN n hn⟩ (fun _ q => .inl q) (fun k q => ?_), (KeptS.refl _ _).setCell _ h.oL _⟩
  rcases q with e | e
  · rw [size_set]; exact h.here k e
  · exact e.2
theorem Lg.setT {w : World} {p : Pl} {s : St} {own : Nat → Prop} (h : Lg w p s own) (t : Nat) (ht : t ≤ 1) : Aft own w (w.setCell ⟨p.L, 58, none⟩ (.int .i64 (t : Int))) p { s with turn := t } := by
  obtain ⟨dk, E, h⟩ := h
  refine ⟨Lg.wider ⟨dk, E, h.setT t ht⟩ (fun _ q => .inl q) (fun k q => ?_), (KeptS.refl _ _).setCell _ h.oL _⟩
  rcases q with e | e
  · rw [size_set]; exact h.here k e
  · exact e.2
theorem Lg.nn {w : World} {p : Pl} {s : St} {own : Nat → Prop} (h : Lg w p s own) : s.n ≤ 200 := by obtain ⟨_, _, h⟩ := h; exact h.nn
theorem Lg.tt {w : World} {p : Pl} {s : St} {own : Nat → Prop} (h : Lg w p s own) : s.turn ≤ 1 := by obtain ⟨_, _, h⟩ := h; exact h.tt
theorem Lg.ok {w : World} {p : Pl} {s : St} {own : Nat → Prop} (h : Lg w p s own) : ∀ i, W.Ok (s.gs i) := by obtain ⟨_, _, h⟩ := h; exact h.ok

/-- Up to Add: what is to be added, in which file. -/
theorem write_full {w : World} {p : Pl} {s : St} {own : Nat → Prop} (h : Lg w p s own) (x : ByteArray) (hx : x.size ≤ 1000000) (hfull : p.room < tot s.A + (wx p.limit s x).size) :
    Calls Try.prog 30 #[.pointer (some ⟨p.L, 0, none⟩), .string x] w fun e w' => e = .returned (.int .i64 30) ∧ Below w.heap.size w w' := by
  obtain ⟨c0, c1, cn, ct, _, _⟩ := h.cells
  have hn := h.nn
  have htt := h.tt
  have hcl := cl_le p.limit s
  have HC : Hid _ := closed_c h
  have HH : Hid _ := fun u => putHead_c s.turn u htt
  have hhs := head_size s.turn htt
  unfold wx at hfull
  have HA : Hid (∀ u, Below w.heap.size w u → Calls Try.prog 66 #[.pointer (some ⟨p.b, 0, none⟩), .int .i64 (cl p.limit s : Int), .string (if cl p.limit s = s.n then W.head s.turn ++ x else x)] u fun e w' => e = .returned (.int .i64 30) ∧ w' = u.drew) :=
    fun u hu => Lg.addFull (h.below hu) _ (by omega) _ hfull
  obtain ⟨f, hf⟩ : ∃ f, f = cl p.limit s := ⟨_, rfl⟩
  obtain ⟨n, hn'⟩ : ∃ n, n = s.n := ⟨_, rfl⟩
  obtain ⟨tr, htr⟩ : ∃ tr, tr = s.turn := ⟨_, rfl⟩
  obtain ⟨hd, hhd⟩ : ∃ hd, hd = W.head s.turn := ⟨_, rfl⟩
  rw [← hf, ← hn', ← hhd] at HA
  rw [← hf] at HC
  rw [← hhd] at HH hhs
  rw [← htr] at ct HH
  rw [← hn'] at cn
  obtain ⟨L, hL⟩ : ∃ L, L = p.L := ⟨_, rfl⟩
  obtain ⟨b, hb⟩ : ∃ b, b = p.b := ⟨_, rfl⟩
  rw [← hL] at c0 c1 cn ct HC ⊢
  rw [← hb] at c0 HA
  have hlt : L < w.heap.size := by obtain ⟨_, _, h⟩ := h; rw [hL]; exact h.lt
  have HB : Hid (∀ m, Below w.heap.size w (w.drewN m)) := below_drewN w
  clear h hf hn' htr hhd hL hb hfull hcl hn htt
  by_cases e : f = n
  · rw [if_pos e] at HA
    subst e
    have t0 : ((f : Int) == (f : Int)) = true := by simp
    go_enter Try.func30, Try.ntmps30
    go_wp2_with fail
    refine Calls.mono HC.out ?_
    rintro e w1 ⟨rfl, m, hw⟩
    subst hw
    go_wp2_with fail
    refine Calls.mono (HH.out _) ?_
    rintro e w2 ⟨rfl, hb2⟩
    have y0 := (hb2.cell (p := ⟨L, 0, none⟩) hlt).trans c0
    have HB2 : Hid (Below w.heap.size w w2) := (HB.out m).trans hb2
    clear hb2
    go_wp2_with fail
    refine Calls.mono (HA.out _ HB2.out) ?_
    rintro e w3 ⟨rfl, hw⟩
    subst hw
    go_wp2
    go_ret
    exact ⟨rfl, HB2.out.drew⟩
  · rw [if_neg e] at HA
    have t0 : ((f : Int) == (n : Int)) = false := by simp; omega
    clear HH hhs
    go_enter Try.func30, Try.ntmps30
    go_wp2_with fail
    refine Calls.mono HC.out ?_
    rintro e w1 ⟨rfl, m, hw⟩
    subst hw
    go_wp2_with fail
    refine Calls.mono (HA.out _ (HB.out m)) ?_
    rintro e w3 ⟨rfl, hw⟩
    subst hw
    go_wp2
    go_ret
    exact ⟨rfl, (HB.out m).drew⟩

end Go.Proofs.Ytpfnkjfbhcffiaa

namespace Go.Proofs.Ytpfnkjfbhcffiaa
open Go.RowKit

theorem quiet_closed {w : World} {p : Pl} {s : St} {own : Nat → Prop} (h : Lg w p s own) (k : Nat) : Calls Try.prog 64 #[.pointer (some ⟨p.L, 0, none⟩)] (w.drewN k) fun e w' => e = .returned (.int .i64 (cl p.limit s : Int)) ∧ ∃ m, w' = (w.drewN k).drewN m :=
  closed_c (h.below (below_drewN w k))

/-- Behind Add: the rest of write. -/
theorem write_tail {own : Nat → Prop} {w w3 : World} {p : Pl} {s : St} {x : ByteArray} (h3 : Aft own w w3 p { s with A := upd s.A (cl p.limit s) (s.A (cl p.limit s) ++ (wx p.limit s x).data.toList) }) (hf : cl p.limit s < 200) :
    Aft own w (w3.setCell ⟨p.L, 57, none⟩ (.int .i64 ((cl p.limit s : Int) + 1))) p (wr1 p.limit s x) := by
  have := h3.trans (h3.1.setN (cl p.limit s + 1) (by omega))
  rw [show ((cl p.limit s + 1 : Nat) : Int) = (cl p.limit s : Int) + 1 by omega] at this
  exact this

set_option maxHeartbeats 800000 in
set_option maxRecDepth 20000 in
theorem write_yes {w : World} {p : Pl} {s : St} {own : Nat → Prop} (h : Lg w p s own) (x : ByteArray) (hx : x.size ≤ 1000000) (hfit : tot s.A + (wx p.limit s x).size ≤ p.room) (hf200 : cl p.limit s < 200) :
    Calls Try.prog 30 #[.pointer (some ⟨p.L, 0, none⟩), .string x] w fun e w' => e = .returned (.int .i64 0) ∧ Aft own w w' p (wr p.limit s x) := by
  obtain ⟨c0, c1, cn, ct, _, _⟩ := h.cells
  have hn := h.nn
  have htt := h.tt
  have hcl := cl_le p.limit s
  have HC : Hid _ := closed_c h
  have HH : Hid _ := fun u => putHead_c s.turn u htt
  have hhs := head_size s.turn htt
  have hwx : wx p.limit s x = if cl p.limit s = s.n then W.head s.turn ++ x else x := rfl
  have HLg : Hid (Lg w p s own) := h
  have HA : Hid (∀ u, Below w.heap.size w u → Calls Try.prog 66 #[.pointer (some ⟨p.b, 0, none⟩), .int .i64 (cl p.limit s : Int), .string (wx p.limit s x)] u fun e w' => e = .returned (.int .i64 0) ∧ ∃ w4, w4 = w'.setCell ⟨p.L, 57, none⟩ (.int .i64 ((cl p.limit s : Int) + 1)) ∧ Aft own w w4 p (wr1 p.limit s x) ∧
      w'.cell? ⟨p.L, 57, none⟩ = some (.int .i64 (s.n : Int)) ∧ w'.frozen? ⟨p.L, 57, none⟩ = false ∧ w4.cell? ⟨p.L, 0, none⟩ = some (.pointer (some ⟨p.b, 0, none⟩)) ∧ w4.cell? ⟨p.L, 57, none⟩ = some (.int .i64 ((cl p.limit s : Int) + 1))) := by
    intro u hu
    refine (Lg.add (h.below hu) _ (by omega) _ hfit).mono ?_
    rintro e w' ⟨rfl, ha⟩
    have hb : Aft own w w' p { s with A := upd s.A (cl p.limit s) (s.A (cl p.limit s) ++ (wx p.limit s x).data.toList) } := by
      refine ⟨ha.1.wider (fun k q => ?_) (fun k q => ?_), (KeptS.ofBelow hu).trans ha.2 (fun _ _ q => q)⟩
      · rcases q with e | e
        · exact .inl e
        · exact .inr ⟨Nat.le_trans hu.size e.1, e.2⟩
      · rcases q with e | e
        · exact ha.1.here k (.inl e)
        · exact e.2
    have h4 := write_tail hb hf200
    obtain ⟨q0, _, q1, _, q2, _⟩ := hb.1.cells
    obtain ⟨r0, _, r1, _, _, _⟩ := h4.1.cells
    have e1 : (((wr1 p.limit s x).n : Nat) : Int) = (cl p.limit s : Int) + 1 := by show ((cl p.limit s + 1 : Nat) : Int) = _; omega
    rw [e1] at r1
    exact ⟨rfl, _, rfl, h4, q1, q2, r0, r1⟩
  have HK : Hid (∀ w4, Aft own w w4 p (wr1 p.limit s x) → ∀ k, Calls Try.prog 64 #[.pointer (some ⟨p.L, 0, none⟩)] (w4.drewN k) fun e w' => e = .returned (.int .i64 (cl p.limit (wr1 p.limit s x) : Int)) ∧ ∃ m, w' = (w4.drewN k).drewN m) := fun w4 h4 k => quiet_closed h4.1 k
  have HS : Hid (∀ w4, Aft own w w4 p (wr1 p.limit s x) → ∀ k, Calls Try.prog 25 #[.pointer (some ⟨p.b, 0, none⟩)] (w4.drewN k) fun e w' => e = .returned (.int .i64 0) ∧ Aft own w w' p { wr1 p.limit s x with S := fun i => if i < 256 then ((wr1 p.limit s x).A i).length else s.S i }) := by
    intro w4 h4 k
    refine (Lg.sync (h4.1.below (below_drewN w4 k))).mono ?_
    rintro e w' ⟨rfl, h5⟩
    exact ⟨rfl, h4.trans ((Aft.same h4.1 (below_drewN w4 k)).trans ⟨h5.1.wider (fun q hq => by rcases hq with e | e; exact .inl (.inl e); exact .inr e) (fun q hq => by
      rcases hq with (e | e) | e
      · exact h5.1.here q (.inl e)
      · exact Nat.lt_of_lt_of_le e.2 h5.2.size
      · exact e.2), h5.2.mono' (fun q hq => .inl hq)⟩)⟩
  have HQ : Hid (∀ w4, Aft own w w4 p (wr1 p.limit s x) → ∀ k, Aft own w (w4.drewN k) p (wr1 p.limit s x)) := fun w4 h4 k => h4.trans (Aft.same h4.1 (below_drewN w4 k))
  obtain ⟨R, hR⟩ : ∃ R, R = wr p.limit s x := ⟨_, rfl⟩
  have hR2 := hR
  unfold wr at hR2
  obtain ⟨S1, hS1⟩ : ∃ S1, S1 = ({ wr1 p.limit s x with S := fun i => if i < 256 then ((wr1 p.limit s x).A i).length else s.S i } : St) := ⟨_, rfl⟩
  rw [← hS1] at HS hR2
  obtain ⟨f2, hf2⟩ : ∃ f2, f2 = cl p.limit (wr1 p.limit s x) := ⟨_, rfl⟩
  rw [← hf2] at HK hR2
  obtain ⟨s1, hs1⟩ : ∃ s1, s1 = wr1 p.limit s x := ⟨_, rfl⟩
  have hn1 : s1.n = cl p.limit s + 1 := by rw [hs1]; rfl
  rw [← hs1] at HK HS HQ HA hR2
  obtain ⟨X, hX⟩ : ∃ X, X = wx p.limit s x := ⟨_, rfl⟩
  rw [← hX] at HA hwx
  rw [← hR]
  obtain ⟨f, hf⟩ : ∃ f, f = cl p.limit s := ⟨_, rfl⟩
  rw [← hf] at HA HC hwx hf200 hn1
  obtain ⟨n, hn'⟩ : ∃ n, n = s.n := ⟨_, rfl⟩
  obtain ⟨tr, htr⟩ : ∃ tr, tr = s.turn := ⟨_, rfl⟩
  obtain ⟨hd, hhd⟩ : ∃ hd, hd = W.head s.turn := ⟨_, rfl⟩
  rw [← hn', ← hhd] at hwx
  rw [← hn'] at HA
  rw [← hhd] at HH hhs
  rw [← htr] at ct HH
  rw [← hn'] at cn
  obtain ⟨L, hL⟩ : ∃ L, L = p.L := ⟨_, rfl⟩
  obtain ⟨b, hb⟩ : ∃ b, b = p.b := ⟨_, rfl⟩
  rw [← hL] at c0 c1 cn ct HC HA HK ⊢
  rw [← hb] at c0 HA HS
  have hlt : L < w.heap.size := by obtain ⟨_, _, h⟩ := h; rw [hL]; exact h.lt
  have HB : Hid (∀ m, Below w.heap.size w (w.drewN m)) := below_drewN w
  have HR : Hid (R = if f2 = f + 1 then S1 else s1) := by rw [hn1] at hR2; exact hR2
  clear h hf hn' htr hhd hL hb hfit hcl hn htt hX hf2 hS1 hR hR2 hs1 hn1
  by_cases e : f = n
  · rw [if_pos e] at hwx
    subst hwx e
    have t0 : ((f : Int) == (f : Int)) = true := by simp
    by_cases e2 : f2 = f + 1
    · have HE2 : Hid (f2 = f + 1) := e2
      have t2 : ((f2 : Int) == (f : Int) + 1) = true := by simp; omega
      clear e2
      go_enter Try.func30, Try.ntmps30
      go_wp2_with fail
      refine Calls.mono HC.out ?_
      rintro e w1 ⟨rfl, m, hw⟩
      subst hw
      go_wp2_with fail
      refine Calls.mono (HH.out _) ?_
      rintro e w2 ⟨rfl, hb2⟩
      have y0 := (hb2.cell (p := ⟨L, 0, none⟩) hlt).trans c0
      have HBu : Hid (Below w.heap.size w w2) := (HB.out m).trans hb2
      clear hb2 c0 c1 cn ct
      go_wp2_with fail
      refine Calls.mono (HA.out _ HBu.out) ?_
      rintro e w3 ⟨rfl, w4, hw4, h4, y1, y2, y3, y4⟩
      have H4 : Hid _ := h4
      have HX : Hid (∀ k, _) := HK.out w4 h4
      have HY : Hid (∀ k, _) := HS.out w4 h4
      clear h4
      have t200 : decide ((200 : Int) ≤ (f : Int)) = false := decide_eq_false (by omega)
      go_wp2
      rw [← hw4]
      clear hw4 y1 y2
      go_quiet (first | (go_at_call 64; exact Calls.quiet_of (HX.out _)))
      go_wp2_with fail
      refine Calls.mono (HY.out _) ?_
      rintro e w5 ⟨rfl, h5⟩
      have H5 : Hid _ := h5
      clear h5
      go_wp2
      go_ret
      exact ⟨rfl, by rw [HR.out, if_pos HE2.out]; exact H5.out⟩
    · have HE2 : Hid (¬ f2 = f + 1) := e2
      have t2 : ((f2 : Int) == (f : Int) + 1) = false := by simp; omega
      clear e2
      go_enter Try.func30, Try.ntmps30
      go_wp2_with fail
      refine Calls.mono HC.out ?_
      rintro e w1 ⟨rfl, m, hw⟩
      subst hw
      go_wp2_with fail
      refine Calls.mono (HH.out _) ?_
      rintro e w2 ⟨rfl, hb2⟩
      have y0 := (hb2.cell (p := ⟨L, 0, none⟩) hlt).trans c0
      have HBu : Hid (Below w.heap.size w w2) := (HB.out m).trans hb2
      clear hb2 c0 c1 cn ct
      go_wp2_with fail
      refine Calls.mono (HA.out _ HBu.out) ?_
      rintro e w3 ⟨rfl, w4, hw4, h4, y1, y2, y3, y4⟩
      have H4 : Hid _ := h4
      have HX : Hid (∀ k, _) := HK.out w4 h4
      have HY : Hid (∀ k, _) := HS.out w4 h4
      clear h4
      have t200 : decide ((200 : Int) ≤ (f : Int)) = false := decide_eq_false (by omega)
      go_wp2
      rw [← hw4]
      clear hw4 y1 y2
      go_quiet (first | (go_at_call 64; exact Calls.quiet_of (HX.out _)))
      go_wp2
      go_ret
      exact ⟨rfl, by rw [HR.out, if_neg HE2.out]; exact HQ.out _ H4.out _⟩
  · rw [if_neg e] at hwx
    subst hwx
    have t0 : ((f : Int) == (n : Int)) = false := by simp; omega
    clear HH hhs
    by_cases e2 : f2 = f + 1
    · have HE2 : Hid (f2 = f + 1) := e2
      have t2 : ((f2 : Int) == (f : Int) + 1) = true := by simp; omega
      clear e2
      go_enter Try.func30, Try.ntmps30
      go_wp2_with fail
      refine Calls.mono HC.out ?_
      rintro e w1 ⟨rfl, m, hw⟩
      subst hw
      have HBu : Hid (Below w.heap.size w (w.drewN m)) := HB.out m
      go_wp2_with fail
      refine Calls.mono (HA.out _ HBu.out) ?_
      rintro e w3 ⟨rfl, w4, hw4, h4, y1, y2, y3, y4⟩
      have H4 : Hid _ := h4
      have HX : Hid (∀ k, _) := HK.out w4 h4
      have HY : Hid (∀ k, _) := HS.out w4 h4
      clear h4
      have t200 : decide ((200 : Int) ≤ (f : Int)) = false := decide_eq_false (by omega)
      go_wp2
      rw [← hw4]
      clear hw4 y1 y2
      go_quiet (first | (go_at_call 64; exact Calls.quiet_of (HX.out _)))
      go_wp2_with fail
      refine Calls.mono (HY.out _) ?_
      rintro e w5 ⟨rfl, h5⟩
      have H5 : Hid _ := h5
      clear h5
      go_wp2
      go_ret
      exact ⟨rfl, by rw [HR.out, if_pos HE2.out]; exact H5.out⟩
    · have HE2 : Hid (¬ f2 = f + 1) := e2
      have t2 : ((f2 : Int) == (f : Int) + 1) = false := by simp; omega
      clear e2
      go_enter Try.func30, Try.ntmps30
      go_wp2_with fail
      refine Calls.mono HC.out ?_
      rintro e w1 ⟨rfl, m, hw⟩
      subst hw
      have HBu : Hid (Below w.heap.size w (w.drewN m)) := HB.out m
      go_wp2_with fail
      refine Calls.mono (HA.out _ HBu.out) ?_
      rintro e w3 ⟨rfl, w4, hw4, h4, y1, y2, y3, y4⟩
      have H4 : Hid _ := h4
      have HX : Hid (∀ k, _) := HK.out w4 h4
      have HY : Hid (∀ k, _) := HS.out w4 h4
      clear h4
      have t200 : decide ((200 : Int) ≤ (f : Int)) = false := decide_eq_false (by omega)
      go_wp2
      rw [← hw4]
      clear hw4 y1 y2
      go_quiet (first | (go_at_call 64; exact Calls.quiet_of (HX.out _)))
      go_wp2
      go_ret
      exact ⟨rfl, by rw [HR.out, if_neg HE2.out]; exact HQ.out _ H4.out _⟩

end Go.Proofs.Ytpfnkjfbhcffiaa
