/-
  The slots that an op is about: the document's.
-/
import Derived.Test.YtmdnegjpdedcnaaSlSlots
import Derived.Test.YtmdnegjpdedcnaaSlLab
namespace Go.Proofs.Ytmdnegjpdedcnaa
open Go.RowKit

def natCells (l : List Nat) : List Value := l.map fun (x : Nat) => Value.int .i64 (x : Int)
theorem natCells_snoc (l : List Nat) (x : Nat) : natCells (l ++ [x]) = natCells l ++ [.int .i64 (x : Int)] := by simp [natCells]

/-- A list that is being made. -/
structure Gl (w X : World) (v : Value) (l : List Nat) : Prop where
  row : RowC X 1 v l.length (natCells l)
  old : Below w.heap.size w X
  new : ∀ k, cBlk v = some k → w.heap.size ≤ k
theorem Gl.nil (w : World) : Gl w w (.slice none 0 0) [] := ⟨RowC.nil _ _ _, Below.refl _ _, fun k h => by simp [cBlk] at h⟩
theorem Gl.below {w X Y : World} {v : Value} {l : List Nat} (h : Gl w X v l) (hb : Below X.heap.size X Y) : Gl w Y v l :=
  ⟨h.row.carry (fun k hk => hb.block k (h.row.lt (by decide) hk)), h.old.trans (hb.mono h.old.size), h.new⟩
theorem Gl.down {w u X : World} {v : Value} {l : List Nat} (h : Gl u X v l) (hb : Below w.heap.size w u) : Gl w X v l :=
  ⟨h.row, hb.trans (h.old.mono hb.size), fun k hk => Nat.le_trans hb.size (h.new k hk)⟩
theorem Gl.snoc {w X Y : World} {v v' : Value} {l : List Nat} (h : Gl w X v l) (a : Nat) (h1 : RowC Y 1 v' (l.length + 1) (natCells l ++ [.int .i64 (a : Int)])) (h2 : X.grownBy Y (cBlk v)) (h3 : ∀ k, cBlk v' = some k → cBlk v = some k ∨ X.heap.size ≤ k) : Gl w Y v' (l ++ [a]) := by
  have hs := h.old.size
  refine ⟨?_, grown_below h.old h2 (fun q e => h.new q e), fun k hk => ?_⟩
  · rw [List.length_append, natCells_snoc]
    exact h1
  · rcases h3 k hk with e | e
    · exact h.new k e
    · omega

def gat (p : Nat → Bool) (n : Nat) : List Nat := (List.range n).filter p
theorem gat_yes {p : Nat → Bool} {n : Nat} (h : p n = true) : gat p (n + 1) = gat p n ++ [n] := by unfold gat; rw [List.range_succ, List.filter_append]; simp [h]
theorem gat_no {p : Nat → Bool} {n : Nat} (h : p n = false) : gat p (n + 1) = gat p n := by unfold gat; rw [List.range_succ, List.filter_append]; simp [h]
theorem gat_le (p : Nat → Bool) (n : Nat) : (gat p n).length ≤ n := by
  have := List.length_filter_le p (List.range n)
  simpa [gat] using this

/-- What the document's Slots answers. -/
def RSl (w : World) (l : List Nat) (e : Ending) (w' : World) : Prop := ∃ v, e = .returned v ∧ Gl w w' v l

set_option maxHeartbeats 1600000 in
set_option maxRecDepth 20000 in
theorem rSl_six (space channel user text toSpace to : ByteArray) (frm most : Int) (hsz : space.size ≤ 9223372036854775807 ∧ channel.size ≤ 9223372036854775807 ∧ user.size ≤ 9223372036854775807 ∧ text.size ≤ 9223372036854775807 ∧ toSpace.size ≤ 9223372036854775807 ∧ to.size ≤ 9223372036854775807) (w : World)
    (hm : ∀ X : World, Calls Try.prog 30 #[.agg #[.int .i64 6, .string space, .string channel, .string user, .string text, .string toSpace, .string to, .int .i64 frm, .int .i64 most]] X fun e w' => e = .returned (.bool true) ∧ Below X.heap.size X w') : Calls Try.prog 12 #[.agg #[.int .i64 6, .string space, .string channel, .string user, .string text, .string toSpace, .string to, .int .i64 frm, .int .i64 most]] w fun e w' => RSl w (gat (fun _ => true) 16) e w' := by
  obtain ⟨s1, s2, s3, s4, s5, s6⟩ := hsz
  obtain ⟨P, hPd⟩ : ∃ P : Nat → Bool, P = (fun _ => true) := ⟨_, rfl⟩
  rw [← hPd]
  obtain ⟨y, hy⟩ : ∃ y, y = w.alloc (.cells #[.int .i64 6, .string space, .string channel, .string user, .string text, .string toSpace, .string to, .int .i64 frm, .int .i64 most] 23) := ⟨_, rfl⟩
  obtain ⟨bx, hbx⟩ : ∃ bx, bx = w.heap.size := ⟨_, rfl⟩
  have hbu : Below w.heap.size w y := by rw [hy]; exact below_alloc w _
  have hlx : bx < y.heap.size := by rw [hy, hbx]; simp
  have hcu : ∀ j, y.cell? ⟨bx, j, none⟩ = (#[.int .i64 6, .string space, .string channel, .string user, .string text, .string toSpace, .string to, .int .i64 frm, .int .i64 most] : Array Value)[j]? := fun j => by rw [hy, hbx]; exact World.cell?_alloc_mark w _ _ _ j
  have HMy : Hid (Calls Try.prog 30 #[.agg #[.int .i64 6, .string space, .string channel, .string user, .string text, .string toSpace, .string to, .int .i64 frm, .int .i64 most]] y fun e X => e = .returned (.bool true) ∧ Below w.heap.size w X ∧ ∀ j, X.cell? ⟨bx, j, none⟩ = (#[.int .i64 6, .string space, .string channel, .string user, .string text, .string toSpace, .string to, .int .i64 frm, .int .i64 most] : Array Value)[j]?) := by
    refine (hm y).mono ?_
    rintro e X ⟨rfl, hX⟩
    exact ⟨rfl, hbu.trans (hX.mono hbu.size), fun j => (hX.cell (p := ⟨bx, j, none⟩) hlx).trans (hcu j)⟩
  obtain ⟨oA, nA, HOA⟩ : ∃ oA nA : Int, Hid (∀ X, Calls Try.prog 10 #[.string space, .string channel] X fun e w' => e = .returned (.tuple #[.int .i64 oA, .int .i64 nA]) ∧ w' = X) := ⟨_, _, fun X => rOf_c space channel s1 s2 X⟩
  obtain ⟨oB, nB, HOB⟩ : ∃ oB nB : Int, Hid (∀ X, Calls Try.prog 10 #[.string toSpace, .string to] X fun e w' => e = .returned (.tuple #[.int .i64 oB, .int .i64 nB]) ∧ w' = X) := ⟨_, _, fun X => rOf_c toSpace to s5 s6 X⟩
  have u0 := hcu 0
  have u1 := hcu 1
  have u2 := hcu 2
  have u3 := hcu 3
  have u4 := hcu 4
  have u5 := hcu 5
  have u6 := hcu 6
  have u7 := hcu 7
  have u8 := hcu 8
  have HPd : Hid (P = (fun _ => true)) := hPd
  have HLe : Hid (∀ n, (gat P n).length ≤ n) := gat_le P
  clear hcu hlx hbu hm s1 s2 s3 s4 s5 s6 hPd
  go_enter Try.func12, Try.ntmps12
  go_wp2_with fail
  rw [← hy]
  try rw [← hbx]
  clear hy hbx
  refine Calls.mono HMy.out ?_
  rintro e u ⟨rfl, hX, hc⟩
  have HBu : Hid (Below w.heap.size w u) := hX
  have x0 := hc 0
  have x1 := hc 1
  have x2 := hc 2
  have x5 := hc 5
  have x6 := hc 6
  have HK : Hid (∀ W, Below u.heap.size u W → W.cell? ⟨bx, 0, none⟩ = some (.int .i64 6)) := fun W hW => (hW.cell (p := ⟨bx, 0, none⟩) (World.block_lt_of_cell? u ⟨bx, 0, none⟩ (hc 0))).trans (hc 0)
  clear hX hc u0 u1 u2 u3 u4 u5 u6 u7 u8
  go_wp2_with fail
  refine (HOA.out u).mono ?_
  rintro e X2 ⟨rfl, h2⟩
  have h2 := h2.symm
  subst h2
  go_wp2_with fail
  refine (HOB.out u).mono ?_
  rintro e X2 ⟨rfl, h2⟩
  have h2 := h2.symm
  subst h2
  clear x1 x2 x5 x6
  go_wp2
  clear x0
  go_loopw [3, 8] (fun v x wr => ∃ (n m c : Nat) (q : Option Addr), x = .int .i64 (n : Int) ∧ n ≤ 16 ∧ v = .slice q m c ∧ m ≤ n ∧ Hid (m = (gat P n).length) ∧ Hid (Gl u wr (.slice q m c) (gat P n))) (fun _ x _ => 16 - (intOf x).toNat)
  case atStart => exact ⟨0, 0, 0, none, rfl, by omega, rfl, by omega, rfl, Gl.nil u⟩
  case round =>
    obtain ⟨n, m, c, q, rfl, hn, rfl, hmn, HM, HG⟩ := hrel
    by_cases hlt : n < 16
    · have x0 := HK.out wr HG.out.old
      have hP : P n = true := by rw [HPd.out]
      have HY : Hid (gat P (n + 1) = gat P n ++ [n]) := gat_yes hP
      obtain ⟨Z, hZ⟩ : ∃ Z, Z = wr.alloc (.cells #[.int .i64 (n : Int)] 3) := ⟨_, rfl⟩
      have HGZ : Hid (Gl u wr.drew (.slice q m c) (gat P n) ∧ Gl u Z (.slice q m c) (gat P n)) := ⟨HG.out.below (below_drew wr), HG.out.below (by rw [hZ]; exact below_alloc _ _)⟩
      have HRow : Hid (RowC Z 1 (.slice q m c) m (natCells (gat P n))) := by have := HGZ.out.2.row; rw [← HM.out] at this; exact this
      have HSrc : Hid (Src Try.prog 1 27 (.slice (some ⟨wr.heap.size, 0, none⟩) 1 1) 1 [.int .i64 (n : Int)] Z) := by rw [hZ]; exact src_int wr (n : Int)
      have HZs : Hid (Z.heap.size = wr.heap.size + 1) := by rw [hZ]; show _ = _; simp
      have hL : Hid ((m + 1) * 8 ≤ 140737488355328 ∧ m + 1 ≤ maxLen) := by unfold maxLen; exact ⟨by omega, by omega⟩
      clear hP
      go_wp2_with (at_builtin; rw [← hZ]; refine wpList_append_rowC rfl (.tmp 63) (.tmp 65) 27 27 3 rfl Try.underlying27 _ 1 8 infoInt10 rfl (.slice q m c) m (natCells (gat P n)) rfl HRow.out _ 1 _ rfl HSrc.out hL.out.1 hL.out.2 ?qnext)
      case qnext =>
        intro v' Y a1 a2 a3
        obtain ⟨p1, c1, hv', _⟩ := a1.form
        subst hv'
        try rw [← hZ] at a2
        have hN := Gl.snoc HGZ.out.2 n (by rw [← HM.out]; exact a1) a2 (fun j hj => Or.elim (a3 j hj) (fun e => .inl e) (fun e => .inr (by have := HZs.out; first | omega | (simp at e; omega))))
        rw [← HY.out] at hN
        have HN : Hid _ := hN
        clear a1 a2 a3 hN hZ
        go_wp2
        go_roundw
        case rel => exact ⟨n + 1, m + 1, c1, p1, by go_num, by omega, by go_num, by omega, by show m + 1 = _; rw [HY.out, List.length_append, ← HM.out]; rfl, HN⟩
        case measure => simp [intOf]; omega
    · obtain rfl : n = 16 := by omega
      go_wp2
      go_ret
      exact ⟨_, rfl, HG.out.down HBu.out⟩

set_option maxHeartbeats 1600000 in
set_option maxRecDepth 20000 in
theorem rSl_seven (space channel user text toSpace to : ByteArray) (frm most : Int) (hsz : space.size ≤ 9223372036854775807 ∧ channel.size ≤ 9223372036854775807 ∧ user.size ≤ 9223372036854775807 ∧ text.size ≤ 9223372036854775807 ∧ toSpace.size ≤ 9223372036854775807 ∧ to.size ≤ 9223372036854775807) (w : World)
    (hm : ∀ X : World, Calls Try.prog 30 #[.agg #[.int .i64 7, .string space, .string channel, .string user, .string text, .string toSpace, .string to, .int .i64 frm, .int .i64 most]] X fun e w' => e = .returned (.bool true) ∧ Below X.heap.size X w') : Calls Try.prog 12 #[.agg #[.int .i64 7, .string space, .string channel, .string user, .string text, .string toSpace, .string to, .int .i64 frm, .int .i64 most]] w fun e w' => RSl w (gat (fun _ => true) 16) e w' := by
  obtain ⟨s1, s2, s3, s4, s5, s6⟩ := hsz
  obtain ⟨P, hPd⟩ : ∃ P : Nat → Bool, P = (fun _ => true) := ⟨_, rfl⟩
  rw [← hPd]
  obtain ⟨y, hy⟩ : ∃ y, y = w.alloc (.cells #[.int .i64 7, .string space, .string channel, .string user, .string text, .string toSpace, .string to, .int .i64 frm, .int .i64 most] 23) := ⟨_, rfl⟩
  obtain ⟨bx, hbx⟩ : ∃ bx, bx = w.heap.size := ⟨_, rfl⟩
  have hbu : Below w.heap.size w y := by rw [hy]; exact below_alloc w _
  have hlx : bx < y.heap.size := by rw [hy, hbx]; simp
  have hcu : ∀ j, y.cell? ⟨bx, j, none⟩ = (#[.int .i64 7, .string space, .string channel, .string user, .string text, .string toSpace, .string to, .int .i64 frm, .int .i64 most] : Array Value)[j]? := fun j => by rw [hy, hbx]; exact World.cell?_alloc_mark w _ _ _ j
  have HMy : Hid (Calls Try.prog 30 #[.agg #[.int .i64 7, .string space, .string channel, .string user, .string text, .string toSpace, .string to, .int .i64 frm, .int .i64 most]] y fun e X => e = .returned (.bool true) ∧ Below w.heap.size w X ∧ ∀ j, X.cell? ⟨bx, j, none⟩ = (#[.int .i64 7, .string space, .string channel, .string user, .string text, .string toSpace, .string to, .int .i64 frm, .int .i64 most] : Array Value)[j]?) := by
    refine (hm y).mono ?_
    rintro e X ⟨rfl, hX⟩
    exact ⟨rfl, hbu.trans (hX.mono hbu.size), fun j => (hX.cell (p := ⟨bx, j, none⟩) hlx).trans (hcu j)⟩
  obtain ⟨oA, nA, HOA⟩ : ∃ oA nA : Int, Hid (∀ X, Calls Try.prog 10 #[.string space, .string channel] X fun e w' => e = .returned (.tuple #[.int .i64 oA, .int .i64 nA]) ∧ w' = X) := ⟨_, _, fun X => rOf_c space channel s1 s2 X⟩
  obtain ⟨oB, nB, HOB⟩ : ∃ oB nB : Int, Hid (∀ X, Calls Try.prog 10 #[.string toSpace, .string to] X fun e w' => e = .returned (.tuple #[.int .i64 oB, .int .i64 nB]) ∧ w' = X) := ⟨_, _, fun X => rOf_c toSpace to s5 s6 X⟩
  have u0 := hcu 0
  have u1 := hcu 1
  have u2 := hcu 2
  have u3 := hcu 3
  have u4 := hcu 4
  have u5 := hcu 5
  have u6 := hcu 6
  have u7 := hcu 7
  have u8 := hcu 8
  have HPd : Hid (P = (fun _ => true)) := hPd
  have HLe : Hid (∀ n, (gat P n).length ≤ n) := gat_le P
  clear hcu hlx hbu hm s1 s2 s3 s4 s5 s6 hPd
  go_enter Try.func12, Try.ntmps12
  go_wp2_with fail
  rw [← hy]
  try rw [← hbx]
  clear hy hbx
  refine Calls.mono HMy.out ?_
  rintro e u ⟨rfl, hX, hc⟩
  have HBu : Hid (Below w.heap.size w u) := hX
  have x0 := hc 0
  have x1 := hc 1
  have x2 := hc 2
  have x5 := hc 5
  have x6 := hc 6
  have HK : Hid (∀ W, Below u.heap.size u W → W.cell? ⟨bx, 0, none⟩ = some (.int .i64 7)) := fun W hW => (hW.cell (p := ⟨bx, 0, none⟩) (World.block_lt_of_cell? u ⟨bx, 0, none⟩ (hc 0))).trans (hc 0)
  clear hX hc u0 u1 u2 u3 u4 u5 u6 u7 u8
  go_wp2_with fail
  refine (HOA.out u).mono ?_
  rintro e X2 ⟨rfl, h2⟩
  have h2 := h2.symm
  subst h2
  go_wp2_with fail
  refine (HOB.out u).mono ?_
  rintro e X2 ⟨rfl, h2⟩
  have h2 := h2.symm
  subst h2
  clear x1 x2 x5 x6
  go_wp2
  clear x0
  go_loopw [3, 8] (fun v x wr => ∃ (n m c : Nat) (q : Option Addr), x = .int .i64 (n : Int) ∧ n ≤ 16 ∧ v = .slice q m c ∧ m ≤ n ∧ Hid (m = (gat P n).length) ∧ Hid (Gl u wr (.slice q m c) (gat P n))) (fun _ x _ => 16 - (intOf x).toNat)
  case atStart => exact ⟨0, 0, 0, none, rfl, by omega, rfl, by omega, rfl, Gl.nil u⟩
  case round =>
    obtain ⟨n, m, c, q, rfl, hn, rfl, hmn, HM, HG⟩ := hrel
    by_cases hlt : n < 16
    · have x0 := HK.out wr HG.out.old
      have hP : P n = true := by rw [HPd.out]
      have HY : Hid (gat P (n + 1) = gat P n ++ [n]) := gat_yes hP
      obtain ⟨Z, hZ⟩ : ∃ Z, Z = wr.alloc (.cells #[.int .i64 (n : Int)] 3) := ⟨_, rfl⟩
      have HGZ : Hid (Gl u wr.drew (.slice q m c) (gat P n) ∧ Gl u Z (.slice q m c) (gat P n)) := ⟨HG.out.below (below_drew wr), HG.out.below (by rw [hZ]; exact below_alloc _ _)⟩
      have HRow : Hid (RowC Z 1 (.slice q m c) m (natCells (gat P n))) := by have := HGZ.out.2.row; rw [← HM.out] at this; exact this
      have HSrc : Hid (Src Try.prog 1 27 (.slice (some ⟨wr.heap.size, 0, none⟩) 1 1) 1 [.int .i64 (n : Int)] Z) := by rw [hZ]; exact src_int wr (n : Int)
      have HZs : Hid (Z.heap.size = wr.heap.size + 1) := by rw [hZ]; show _ = _; simp
      have hL : Hid ((m + 1) * 8 ≤ 140737488355328 ∧ m + 1 ≤ maxLen) := by unfold maxLen; exact ⟨by omega, by omega⟩
      clear hP
      go_wp2_with (at_builtin; rw [← hZ]; refine wpList_append_rowC rfl (.tmp 63) (.tmp 65) 27 27 3 rfl Try.underlying27 _ 1 8 infoInt10 rfl (.slice q m c) m (natCells (gat P n)) rfl HRow.out _ 1 _ rfl HSrc.out hL.out.1 hL.out.2 ?qnext)
      case qnext =>
        intro v' Y a1 a2 a3
        obtain ⟨p1, c1, hv', _⟩ := a1.form
        subst hv'
        try rw [← hZ] at a2
        have hN := Gl.snoc HGZ.out.2 n (by rw [← HM.out]; exact a1) a2 (fun j hj => Or.elim (a3 j hj) (fun e => .inl e) (fun e => .inr (by have := HZs.out; first | omega | (simp at e; omega))))
        rw [← HY.out] at hN
        have HN : Hid _ := hN
        clear a1 a2 a3 hN hZ
        go_wp2
        go_roundw
        case rel => exact ⟨n + 1, m + 1, c1, p1, by go_num, by omega, by go_num, by omega, by show m + 1 = _; rw [HY.out, List.length_append, ← HM.out]; rfl, HN⟩
        case measure => simp [intOf]; omega
    · obtain rfl : n = 16 := by omega
      go_wp2
      go_ret
      exact ⟨_, rfl, HG.out.down HBu.out⟩

set_option maxHeartbeats 1600000 in
set_option maxRecDepth 20000 in
theorem rSl_five (space channel user text toSpace to : ByteArray) (frm most : Int) (a b : Nat) (ha : ofE space channel = true) (hb : ofE toSpace to = true) (hav : a = slotOf space channel) (hbv : b = slotOf toSpace to) (hsz : space.size ≤ 9223372036854775807 ∧ channel.size ≤ 9223372036854775807 ∧ user.size ≤ 9223372036854775807 ∧ text.size ≤ 9223372036854775807 ∧ toSpace.size ≤ 9223372036854775807 ∧ to.size ≤ 9223372036854775807) (w : World)
    (hm : ∀ X : World, Calls Try.prog 30 #[.agg #[.int .i64 5, .string space, .string channel, .string user, .string text, .string toSpace, .string to, .int .i64 frm, .int .i64 most]] X fun e w' => e = .returned (.bool true) ∧ Below X.heap.size X w') : Calls Try.prog 12 #[.agg #[.int .i64 5, .string space, .string channel, .string user, .string text, .string toSpace, .string to, .int .i64 frm, .int .i64 most]] w fun e w' => RSl w (gat (fun i => decide (i = a) || decide (i = b)) 16) e w' := by
  obtain ⟨s1, s2, s3, s4, s5, s6⟩ := hsz
  obtain ⟨P, hPd⟩ : ∃ P : Nat → Bool, P = (fun i => decide (i = a) || decide (i = b)) := ⟨_, rfl⟩
  rw [← hPd]
  obtain ⟨y, hy⟩ : ∃ y, y = w.alloc (.cells #[.int .i64 5, .string space, .string channel, .string user, .string text, .string toSpace, .string to, .int .i64 frm, .int .i64 most] 23) := ⟨_, rfl⟩
  obtain ⟨bx, hbx⟩ : ∃ bx, bx = w.heap.size := ⟨_, rfl⟩
  have hbu : Below w.heap.size w y := by rw [hy]; exact below_alloc w _
  have hlx : bx < y.heap.size := by rw [hy, hbx]; simp
  have hcu : ∀ j, y.cell? ⟨bx, j, none⟩ = (#[.int .i64 5, .string space, .string channel, .string user, .string text, .string toSpace, .string to, .int .i64 frm, .int .i64 most] : Array Value)[j]? := fun j => by rw [hy, hbx]; exact World.cell?_alloc_mark w _ _ _ j
  have HMy : Hid (Calls Try.prog 30 #[.agg #[.int .i64 5, .string space, .string channel, .string user, .string text, .string toSpace, .string to, .int .i64 frm, .int .i64 most]] y fun e X => e = .returned (.bool true) ∧ Below w.heap.size w X ∧ ∀ j, X.cell? ⟨bx, j, none⟩ = (#[.int .i64 5, .string space, .string channel, .string user, .string text, .string toSpace, .string to, .int .i64 frm, .int .i64 most] : Array Value)[j]?) := by
    refine (hm y).mono ?_
    rintro e X ⟨rfl, hX⟩
    exact ⟨rfl, hbu.trans (hX.mono hbu.size), fun j => (hX.cell (p := ⟨bx, j, none⟩) hlx).trans (hcu j)⟩
  have HOA : Hid (∀ X, Calls Try.prog 10 #[.string space, .string channel] X fun e w' => e = .returned (.tuple #[.int .i64 (a : Int), .int .i64 0]) ∧ w' = X) := fun X => by
    have := rOf_c space channel s1 s2 X
    rw [ha] at this
    rw [hav]
    exact this
  have HOB : Hid (∀ X, Calls Try.prog 10 #[.string toSpace, .string to] X fun e w' => e = .returned (.tuple #[.int .i64 (b : Int), .int .i64 0]) ∧ w' = X) := fun X => by
    have := rOf_c toSpace to s5 s6 X
    rw [hb] at this
    rw [hbv]
    exact this
  have u0 := hcu 0
  have u1 := hcu 1
  have u2 := hcu 2
  have u3 := hcu 3
  have u4 := hcu 4
  have u5 := hcu 5
  have u6 := hcu 6
  have u7 := hcu 7
  have u8 := hcu 8
  have HPd : Hid (P = (fun i => decide (i = a) || decide (i = b))) := hPd
  have HLe : Hid (∀ n, (gat P n).length ≤ n) := gat_le P
  clear hcu hlx hbu hm s1 s2 s3 s4 s5 s6 ha hb hav hbv hPd
  go_enter Try.func12, Try.ntmps12
  go_wp2_with fail
  rw [← hy]
  try rw [← hbx]
  clear hy hbx
  refine Calls.mono HMy.out ?_
  rintro e u ⟨rfl, hX, hc⟩
  have HBu : Hid (Below w.heap.size w u) := hX
  have x0 := hc 0
  have x1 := hc 1
  have x2 := hc 2
  have x5 := hc 5
  have x6 := hc 6
  have HK : Hid (∀ W, Below u.heap.size u W → W.cell? ⟨bx, 0, none⟩ = some (.int .i64 5)) := fun W hW => (hW.cell (p := ⟨bx, 0, none⟩) (World.block_lt_of_cell? u ⟨bx, 0, none⟩ (hc 0))).trans (hc 0)
  clear hX hc u0 u1 u2 u3 u4 u5 u6 u7 u8
  go_wp2_with fail
  refine (HOA.out u).mono ?_
  rintro e X2 ⟨rfl, h2⟩
  have h2 := h2.symm
  subst h2
  go_wp2_with fail
  refine (HOB.out u).mono ?_
  rintro e X2 ⟨rfl, h2⟩
  have h2 := h2.symm
  subst h2
  clear x1 x2 x5 x6
  go_wp2
  clear x0
  go_loopw [3, 8] (fun v x wr => ∃ (n m c : Nat) (q : Option Addr), x = .int .i64 (n : Int) ∧ n ≤ 16 ∧ v = .slice q m c ∧ m ≤ n ∧ Hid (m = (gat P n).length) ∧ Hid (Gl u wr (.slice q m c) (gat P n))) (fun _ x _ => 16 - (intOf x).toNat)
  case atStart => exact ⟨0, 0, 0, none, rfl, by omega, rfl, by omega, rfl, Gl.nil u⟩
  case round =>
    obtain ⟨n, m, c, q, rfl, hn, rfl, hmn, HM, HG⟩ := hrel
    by_cases hlt : n < 16
    · have x0 := HK.out wr HG.out.old
      by_cases e1 : n = a
      · have hP : P n = true := by rw [HPd.out]; simp [e1]
        clear HPd
        subst e1
        have HY : Hid (gat P (n + 1) = gat P n ++ [n]) := gat_yes hP
        obtain ⟨Z, hZ⟩ : ∃ Z, Z = wr.alloc (.cells #[.int .i64 (n : Int)] 3) := ⟨_, rfl⟩
        have HGZ : Hid (Gl u wr.drew (.slice q m c) (gat P n) ∧ Gl u Z (.slice q m c) (gat P n)) := ⟨HG.out.below (below_drew wr), HG.out.below (by rw [hZ]; exact below_alloc _ _)⟩
        have HRow : Hid (RowC Z 1 (.slice q m c) m (natCells (gat P n))) := by have := HGZ.out.2.row; rw [← HM.out] at this; exact this
        have HSrc : Hid (Src Try.prog 1 27 (.slice (some ⟨wr.heap.size, 0, none⟩) 1 1) 1 [.int .i64 (n : Int)] Z) := by rw [hZ]; exact src_int wr (n : Int)
        have HZs : Hid (Z.heap.size = wr.heap.size + 1) := by rw [hZ]; show _ = _; simp
        have hL : Hid ((m + 1) * 8 ≤ 140737488355328 ∧ m + 1 ≤ maxLen) := by unfold maxLen; exact ⟨by omega, by omega⟩
        clear hP
        go_wp2_with (at_builtin; rw [← hZ]; refine wpList_append_rowC rfl (.tmp 63) (.tmp 65) 27 27 3 rfl Try.underlying27 _ 1 8 infoInt10 rfl (.slice q m c) m (natCells (gat P n)) rfl HRow.out _ 1 _ rfl HSrc.out hL.out.1 hL.out.2 ?qnext)
        case qnext =>
          intro v' Y a1 a2 a3
          obtain ⟨p1, c1, hv', _⟩ := a1.form
          subst hv'
          try rw [← hZ] at a2
          have hN := Gl.snoc HGZ.out.2 n (by rw [← HM.out]; exact a1) a2 (fun j hj => Or.elim (a3 j hj) (fun e => .inl e) (fun e => .inr (by have := HZs.out; first | omega | (simp at e; omega))))
          rw [← HY.out] at hN
          have HN : Hid _ := hN
          clear a1 a2 a3 hN hZ
          go_wp2
          go_roundw
          case rel => exact ⟨n + 1, m + 1, c1, p1, by go_num, by omega, by go_num, by omega, by show m + 1 = _; rw [HY.out, List.length_append, ← HM.out]; rfl, HN⟩
          case measure => simp [intOf]; omega
      · have e1' : ((n : Int) == (a : Int)) = false := by simp; omega
        by_cases e2 : n = b
        · have hP : P n = true := by rw [HPd.out]; simp [e2]
          clear HPd e1
          subst e2
          have HY : Hid (gat P (n + 1) = gat P n ++ [n]) := gat_yes hP
          obtain ⟨Z, hZ⟩ : ∃ Z, Z = wr.alloc (.cells #[.int .i64 (n : Int)] 3) := ⟨_, rfl⟩
          have HGZ : Hid (Gl u wr.drew (.slice q m c) (gat P n) ∧ Gl u Z (.slice q m c) (gat P n)) := ⟨HG.out.below (below_drew wr), HG.out.below (by rw [hZ]; exact below_alloc _ _)⟩
          have HRow : Hid (RowC Z 1 (.slice q m c) m (natCells (gat P n))) := by have := HGZ.out.2.row; rw [← HM.out] at this; exact this
          have HSrc : Hid (Src Try.prog 1 27 (.slice (some ⟨wr.heap.size, 0, none⟩) 1 1) 1 [.int .i64 (n : Int)] Z) := by rw [hZ]; exact src_int wr (n : Int)
          have HZs : Hid (Z.heap.size = wr.heap.size + 1) := by rw [hZ]; show _ = _; simp
          have hL : Hid ((m + 1) * 8 ≤ 140737488355328 ∧ m + 1 ≤ maxLen) := by unfold maxLen; exact ⟨by omega, by omega⟩
          clear hP
          go_wp2_with (at_builtin; rw [← hZ]; refine wpList_append_rowC rfl (.tmp 63) (.tmp 65) 27 27 3 rfl Try.underlying27 _ 1 8 infoInt10 rfl (.slice q m c) m (natCells (gat P n)) rfl HRow.out _ 1 _ rfl HSrc.out hL.out.1 hL.out.2 ?qnext)
          case qnext =>
            intro v' Y a1 a2 a3
            obtain ⟨p1, c1, hv', _⟩ := a1.form
            subst hv'
            try rw [← hZ] at a2
            have hN := Gl.snoc HGZ.out.2 n (by rw [← HM.out]; exact a1) a2 (fun j hj => Or.elim (a3 j hj) (fun e => .inl e) (fun e => .inr (by have := HZs.out; first | omega | (simp at e; omega))))
            rw [← HY.out] at hN
            have HN : Hid _ := hN
            clear a1 a2 a3 hN hZ
            go_wp2
            go_roundw
            case rel => exact ⟨n + 1, m + 1, c1, p1, by go_num, by omega, by go_num, by omega, by show m + 1 = _; rw [HY.out, List.length_append, ← HM.out]; rfl, HN⟩
            case measure => simp [intOf]; omega
        · have hP : P n = false := by rw [HPd.out]; simp [e1, e2]
          have e2' : ((n : Int) == (b : Int)) = false := by simp; omega
          clear e1 e2
          have HY : Hid (gat P (n + 1) = gat P n) := gat_no hP
          clear hP
          go_wp2
          go_roundw
          case rel => exact ⟨n + 1, m, c, q, by go_num, by omega, rfl, by omega, by rw [HY.out]; exact HM, by rw [HY.out]; exact HG⟩
          case measure => simp [intOf]; omega
    · obtain rfl : n = 16 := by omega
      go_wp2
      go_ret
      exact ⟨_, rfl, HG.out.down HBu.out⟩

set_option maxHeartbeats 1600000 in
set_option maxRecDepth 20000 in
theorem rSl_low (space channel user text toSpace to : ByteArray) (frm most : Int) (kind : Int) (k5 : (kind == 5) = false) (k6 : (kind == 6) = false) (k7 : (kind == 7) = false) (a : Nat) (ha : ofE space channel = true) (hav : a = slotOf space channel) (hsz : space.size ≤ 9223372036854775807 ∧ channel.size ≤ 9223372036854775807 ∧ user.size ≤ 9223372036854775807 ∧ text.size ≤ 9223372036854775807 ∧ toSpace.size ≤ 9223372036854775807 ∧ to.size ≤ 9223372036854775807) (w : World)
    (hm : ∀ X : World, Calls Try.prog 30 #[.agg #[.int .i64 kind, .string space, .string channel, .string user, .string text, .string toSpace, .string to, .int .i64 frm, .int .i64 most]] X fun e w' => e = .returned (.bool true) ∧ Below X.heap.size X w') : Calls Try.prog 12 #[.agg #[.int .i64 kind, .string space, .string channel, .string user, .string text, .string toSpace, .string to, .int .i64 frm, .int .i64 most]] w fun e w' => RSl w (gat (fun i => decide (i = a)) 16) e w' := by
  obtain ⟨s1, s2, s3, s4, s5, s6⟩ := hsz
  obtain ⟨P, hPd⟩ : ∃ P : Nat → Bool, P = (fun i => decide (i = a)) := ⟨_, rfl⟩
  rw [← hPd]
  obtain ⟨y, hy⟩ : ∃ y, y = w.alloc (.cells #[.int .i64 kind, .string space, .string channel, .string user, .string text, .string toSpace, .string to, .int .i64 frm, .int .i64 most] 23) := ⟨_, rfl⟩
  obtain ⟨bx, hbx⟩ : ∃ bx, bx = w.heap.size := ⟨_, rfl⟩
  have hbu : Below w.heap.size w y := by rw [hy]; exact below_alloc w _
  have hlx : bx < y.heap.size := by rw [hy, hbx]; simp
  have hcu : ∀ j, y.cell? ⟨bx, j, none⟩ = (#[.int .i64 kind, .string space, .string channel, .string user, .string text, .string toSpace, .string to, .int .i64 frm, .int .i64 most] : Array Value)[j]? := fun j => by rw [hy, hbx]; exact World.cell?_alloc_mark w _ _ _ j
  have HMy : Hid (Calls Try.prog 30 #[.agg #[.int .i64 kind, .string space, .string channel, .string user, .string text, .string toSpace, .string to, .int .i64 frm, .int .i64 most]] y fun e X => e = .returned (.bool true) ∧ Below w.heap.size w X ∧ ∀ j, X.cell? ⟨bx, j, none⟩ = (#[.int .i64 kind, .string space, .string channel, .string user, .string text, .string toSpace, .string to, .int .i64 frm, .int .i64 most] : Array Value)[j]?) := by
    refine (hm y).mono ?_
    rintro e X ⟨rfl, hX⟩
    exact ⟨rfl, hbu.trans (hX.mono hbu.size), fun j => (hX.cell (p := ⟨bx, j, none⟩) hlx).trans (hcu j)⟩
  have HOA : Hid (∀ X, Calls Try.prog 10 #[.string space, .string channel] X fun e w' => e = .returned (.tuple #[.int .i64 (a : Int), .int .i64 0]) ∧ w' = X) := fun X => by
    have := rOf_c space channel s1 s2 X
    rw [ha] at this
    rw [hav]
    exact this
  obtain ⟨oB, nB, HOB⟩ : ∃ oB nB : Int, Hid (∀ X, Calls Try.prog 10 #[.string toSpace, .string to] X fun e w' => e = .returned (.tuple #[.int .i64 oB, .int .i64 nB]) ∧ w' = X) := ⟨_, _, fun X => rOf_c toSpace to s5 s6 X⟩
  have u0 := hcu 0
  have u1 := hcu 1
  have u2 := hcu 2
  have u3 := hcu 3
  have u4 := hcu 4
  have u5 := hcu 5
  have u6 := hcu 6
  have u7 := hcu 7
  have u8 := hcu 8
  have HPd : Hid (P = (fun i => decide (i = a))) := hPd
  have HLe : Hid (∀ n, (gat P n).length ≤ n) := gat_le P
  clear hcu hlx hbu hm s1 s2 s3 s4 s5 s6 ha hav hPd
  go_enter Try.func12, Try.ntmps12
  go_wp2_with fail
  rw [← hy]
  try rw [← hbx]
  clear hy hbx
  refine Calls.mono HMy.out ?_
  rintro e u ⟨rfl, hX, hc⟩
  have HBu : Hid (Below w.heap.size w u) := hX
  have x0 := hc 0
  have x1 := hc 1
  have x2 := hc 2
  have x5 := hc 5
  have x6 := hc 6
  have HK : Hid (∀ W, Below u.heap.size u W → W.cell? ⟨bx, 0, none⟩ = some (.int .i64 kind)) := fun W hW => (hW.cell (p := ⟨bx, 0, none⟩) (World.block_lt_of_cell? u ⟨bx, 0, none⟩ (hc 0))).trans (hc 0)
  clear hX hc u0 u1 u2 u3 u4 u5 u6 u7 u8
  go_wp2_with fail
  refine (HOA.out u).mono ?_
  rintro e X2 ⟨rfl, h2⟩
  have h2 := h2.symm
  subst h2
  go_wp2_with fail
  refine (HOB.out u).mono ?_
  rintro e X2 ⟨rfl, h2⟩
  have h2 := h2.symm
  subst h2
  clear x1 x2 x5 x6
  go_wp2
  clear x0
  go_loopw [3, 8] (fun v x wr => ∃ (n m c : Nat) (q : Option Addr), x = .int .i64 (n : Int) ∧ n ≤ 16 ∧ v = .slice q m c ∧ m ≤ n ∧ Hid (m = (gat P n).length) ∧ Hid (Gl u wr (.slice q m c) (gat P n))) (fun _ x _ => 16 - (intOf x).toNat)
  case atStart => exact ⟨0, 0, 0, none, rfl, by omega, rfl, by omega, rfl, Gl.nil u⟩
  case round =>
    obtain ⟨n, m, c, q, rfl, hn, rfl, hmn, HM, HG⟩ := hrel
    by_cases hlt : n < 16
    · have x0 := HK.out wr HG.out.old
      by_cases e1 : n = a
      · have hP : P n = true := by rw [HPd.out]; simp [e1]
        clear HPd
        subst e1
        have HY : Hid (gat P (n + 1) = gat P n ++ [n]) := gat_yes hP
        obtain ⟨Z, hZ⟩ : ∃ Z, Z = wr.alloc (.cells #[.int .i64 (n : Int)] 3) := ⟨_, rfl⟩
        have HGZ : Hid (Gl u wr.drew (.slice q m c) (gat P n) ∧ Gl u Z (.slice q m c) (gat P n)) := ⟨HG.out.below (below_drew wr), HG.out.below (by rw [hZ]; exact below_alloc _ _)⟩
        have HRow : Hid (RowC Z 1 (.slice q m c) m (natCells (gat P n))) := by have := HGZ.out.2.row; rw [← HM.out] at this; exact this
        have HSrc : Hid (Src Try.prog 1 27 (.slice (some ⟨wr.heap.size, 0, none⟩) 1 1) 1 [.int .i64 (n : Int)] Z) := by rw [hZ]; exact src_int wr (n : Int)
        have HZs : Hid (Z.heap.size = wr.heap.size + 1) := by rw [hZ]; show _ = _; simp
        have hL : Hid ((m + 1) * 8 ≤ 140737488355328 ∧ m + 1 ≤ maxLen) := by unfold maxLen; exact ⟨by omega, by omega⟩
        clear hP
        go_wp2_with (at_builtin; rw [← hZ]; refine wpList_append_rowC rfl (.tmp 63) (.tmp 65) 27 27 3 rfl Try.underlying27 _ 1 8 infoInt10 rfl (.slice q m c) m (natCells (gat P n)) rfl HRow.out _ 1 _ rfl HSrc.out hL.out.1 hL.out.2 ?qnext)
        case qnext =>
          intro v' Y a1 a2 a3
          obtain ⟨p1, c1, hv', _⟩ := a1.form
          subst hv'
          try rw [← hZ] at a2
          have hN := Gl.snoc HGZ.out.2 n (by rw [← HM.out]; exact a1) a2 (fun j hj => Or.elim (a3 j hj) (fun e => .inl e) (fun e => .inr (by have := HZs.out; first | omega | (simp at e; omega))))
          rw [← HY.out] at hN
          have HN : Hid _ := hN
          clear a1 a2 a3 hN hZ
          go_wp2
          go_roundw
          case rel => exact ⟨n + 1, m + 1, c1, p1, by go_num, by omega, by go_num, by omega, by show m + 1 = _; rw [HY.out, List.length_append, ← HM.out]; rfl, HN⟩
          case measure => simp [intOf]; omega
      · have hP : P n = false := by rw [HPd.out]; simp [e1]
        have e1' : ((n : Int) == (a : Int)) = false := by simp; omega
        clear e1
        have HY : Hid (gat P (n + 1) = gat P n) := gat_no hP
        clear hP
        go_wp2
        go_roundw
        case rel => exact ⟨n + 1, m, c, q, by go_num, by omega, rfl, by omega, by rw [HY.out]; exact HM, by rw [HY.out]; exact HG⟩
        case measure => simp [intOf]; omega
    · obtain rfl : n = 16 := by omega
      go_wp2
      go_ret
      exact ⟨_, rfl, HG.out.down HBu.out⟩

end Go.Proofs.Ytmdnegjpdedcnaa
