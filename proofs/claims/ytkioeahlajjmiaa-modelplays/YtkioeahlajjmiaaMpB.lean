import Derived.Test.YtkioeahlajjmiaaMpA

/-
  The document's Put: the channels with one in the place of one of its name.
-/
namespace Go.Proofs.Ytkioeahlajjmiaa
open Go.RowKit

/-- A box of four values. -/
def B4 (b : Nat) (x y z v : Value) (X : World) : Prop := X.cell? ⟨b, 0, none⟩ = some x ∧ X.cell? ⟨b, 1, none⟩ = some y ∧ X.cell? ⟨b, 2, none⟩ = some z ∧ X.cell? ⟨b, 3, none⟩ = some v
theorem B4.keep {b : Nat} {x y z v : Value} {X Y : World} (h : B4 b x y z v X) (hb : Y.heap[b]? = X.heap[b]?) : B4 b x y z v Y :=
  ⟨(World.cell?_of_block (a := ⟨b, 0, none⟩) hb).trans h.1, (World.cell?_of_block (a := ⟨b, 1, none⟩) hb).trans h.2.1, (World.cell?_of_block (a := ⟨b, 2, none⟩) hb).trans h.2.2.1, (World.cell?_of_block (a := ⟨b, 3, none⟩) hb).trans h.2.2.2⟩
theorem B4.lt {b : Nat} {x y z v : Value} {X : World} (h : B4 b x y z v X) : b < X.heap.size := World.block_lt_of_cell? _ _ h.1
theorem B4.below {b : Nat} {x y z v : Value} {X Y : World} (h : B4 b x y z v X) (hb : Below X.heap.size X Y) : B4 b x y z v Y := h.keep (hb.block b h.lt)
theorem B4.start (w : World) (x y z v : Value) (t : TypeId) : B4 w.heap.size x y z v (w.alloc (.cells #[x, y, z, v] t)) :=
  ⟨World.cell?_alloc_mark w _ _ _ 0, World.cell?_alloc_mark w _ _ _ 1, World.cell?_alloc_mark w _ _ _ 2, World.cell?_alloc_mark w _ _ _ 3⟩
section
variable {w : World} {pl : Option Addr} {cl : Nat} {t : List Rw}

set_option maxHeartbeats 6400000 in
set_option maxRecDepth 20000 in
theorem rPut_c (h : Ls9 w (.slice pl t.length cl) t) (hn : t.length ≤ 1000000) (po : Option Addr) (no co : Nat) (r : Rw) (hso : Mp.Sorted Rw.key Mp.ltK t) :
    Calls Try.prog 40 #[.agg #[.slice pl t.length cl, .slice po no co], .agg #[.string r.cn.space, .string r.cn.name, .slice r.pm r.cn.mems.length r.cm, .slice r.pp r.cn.posts.length r.cp]] w fun e w' => ∃ p' c', e = .returned (.agg #[.slice p' (Mp.ins Rw.key Mp.ltK r t).length c', .slice po no co]) ∧ Mk w w' 4 (.slice p' (Mp.ins Rw.key Mp.ltK r t).length c') (Mp.ins Rw.key Mp.ltK r t).length (lsC (Mp.ins Rw.key Mp.ltK r t)) := by
  obtain ⟨u0, hu0⟩ : ∃ u0, u0 = w.alloc (.cells #[.slice pl t.length cl, .slice po no co] 54) := ⟨_, rfl⟩
  obtain ⟨u1, hu1⟩ : ∃ u1, u1 = u0.alloc (.cells #[.string r.cn.space, .string r.cn.name, .slice r.pm r.cn.mems.length r.cm, .slice r.pp r.cn.posts.length r.cp] 84) := ⟨_, rfl⟩
  obtain ⟨u, hu⟩ : ∃ u, u = u1.alloc (.cells #[.slice none 0 0, .slice none 0 0] 54) := ⟨_, rfl⟩
  have s0 : u0.heap.size = w.heap.size + 1 := by rw [hu0]; simp
  have s1 : u1.heap.size = w.heap.size + 1 + 1 := by rw [hu1]; simp [s0]
  have b0 : Below w.heap.size w u0 := by rw [hu0]; exact below_alloc _ _
  have b1 : Below u0.heap.size u0 u1 := by rw [hu1]; exact below_alloc _ _
  have b2 : Below u1.heap.size u1 u := by rw [hu]; exact below_alloc _ _
  have hbu : Below w.heap.size w u := (b0.trans (b1.mono b0.size)).trans (b2.mono (b0.trans (b1.mono b0.size)).size)
  have hB : Bq w.heap.size (.slice pl t.length cl) (.slice po no co) u := by
    have : Bq w.heap.size (.slice pl t.length cl) (.slice po no co) u0 := by rw [hu0]; exact Bq.start _ _ _ _
    exact (this.below b1).below b2
  have hC : B4 (w.heap.size + 1) (.string r.cn.space) (.string r.cn.name) (.slice r.pm r.cn.mems.length r.cm) (.slice r.pp r.cn.posts.length r.cp) u := by
    have : B4 u0.heap.size (.string r.cn.space) (.string r.cn.name) (.slice r.pm r.cn.mems.length r.cm) (.slice r.pp r.cn.posts.length r.cp) u1 := by rw [hu1]; exact B4.start _ _ _ _ _ _
    rw [s0] at this
    exact this.below b2
  have hR : Bq (w.heap.size + 1 + 1) (.slice none 0 0) (.slice none 0 0) u := by
    have : Bq u1.heap.size (.slice none 0 0) (.slice none 0 0) u := by rw [hu]; exact Bq.start _ _ _ _
    rw [s1] at this
    exact this
  obtain ⟨bn, hbn⟩ : ∃ bn, bn = w.heap.size := ⟨_, rfl⟩
  obtain ⟨bc, hbc⟩ : ∃ bc, bc = w.heap.size + 1 := ⟨_, rfl⟩
  obtain ⟨br, hbr⟩ : ∃ br, br = w.heap.size + 1 + 1 := ⟨_, rfl⟩
  rw [← hbn] at hB
  rw [← hbr] at hR
  rw [← hbc] at hC
  have hRl := hR.lt
  have hBl := hB.lt
  obtain ⟨m, hm⟩ : ∃ m, m = t.length := ⟨_, rfl⟩
  have HI : Hid (∀ X, Below u.heap.size u X → ∀ k, k < m → ∃ p g off, t[k]? = some p ∧ pl = some ⟨g, off, none⟩ ∧ X.cell? ⟨g, off + k * 4, none⟩ = some (.string p.cn.space) ∧ X.cell? ⟨g, off + k * 4 + 1, none⟩ = some (.string p.cn.name) ∧ X.cell? ⟨g, off + k * 4 + 2, none⟩ = some (.slice p.pm p.cn.mems.length p.cm) ∧ X.cell? ⟨g, off + k * 4 + 3, none⟩ = some (.slice p.pp p.cn.posts.length p.cp)) := by
    intro X hX k hk
    have hx : t[k]? = some (t[k]'(by omega)) := List.getElem?_eq_getElem (by omega)
    obtain ⟨g, off, h1, h2, h3, h4, h5⟩ := ((h.below hbu).below hX).at hx
    exact ⟨_, g, off, hx, h1, h2, h3, h4, h5⟩
  have HX : Hid (∀ X, Below u.heap.size u X → Bq bn (.slice pl m cl) (.slice po no co) X ∧ Bq br (.slice none 0 0) (.slice none 0 0) X) := fun X hX => by rw [hm]; exact ⟨hB.below hX, hR.below hX⟩
  have HC : Hid (∀ X, Below u.heap.size u X → B4 bc (.string r.cn.space) (.string r.cn.name) (.slice r.pm r.cn.mems.length r.cm) (.slice r.pp r.cn.posts.length r.cp) X) := fun X hX => hC.below hX
  have HM : Hid (m = t.length ∧ m ≤ 1000000) := ⟨hm, by omega⟩
  have HU : Hid (Below w.heap.size w u ∧ w.heap.size ≤ bn ∧ bn < u.heap.size ∧ w.heap.size ≤ br ∧ br < u.heap.size ∧ br ≠ bn) := ⟨hbu, by omega, hBl, by omega, hRl, by omega⟩
  have HFi : Hid (Mp.fin r (t.foldl (Mp.st Rw.key Mp.ltK r) ([], false)) = (Mp.ins Rw.key Mp.ltK r t)) := by show _ = _; rw [Mp.st_all Mp.linK t [] hso]; rfl
  have HQ : Hid (∀ X p' c', Mk w X 4 (.slice p' (Mp.ins Rw.key Mp.ltK r t).length c') (Mp.ins Rw.key Mp.ltK r t).length (lsC (Mp.ins Rw.key Mp.ltK r t)) → (fun (e : Ending) w' => ∃ p' c', e = .returned (.agg #[.slice p' (Mp.ins Rw.key Mp.ltK r t).length c', .slice po no co]) ∧ Mk w w' 4 (.slice p' (Mp.ins Rw.key Mp.ltK r t).length c') (Mp.ins Rw.key Mp.ltK r t).length (lsC (Mp.ins Rw.key Mp.ltK r t))) (.returned (.agg #[.slice p' (Mp.ins Rw.key Mp.ltK r t).length c', .slice po no co])) X) := fun X p' c' h1 => ⟨p', c', rfl, h1⟩
  generalize (fun (e : Ending) w' => ∃ p' c', e = .returned (.agg #[.slice p' (Mp.ins Rw.key Mp.ltK r t).length c', .slice po no co]) ∧ Mk w w' 4 (.slice p' (Mp.ins Rw.key Mp.ltK r t).length c') (Mp.ins Rw.key Mp.ltK r t).length (lsC (Mp.ins Rw.key Mp.ltK r t))) = Q at HQ ⊢
  have hcl : t.length ≤ cl ∧ cl ≤ maxLen := by
    obtain ⟨_, _, e, h1, h2⟩ := RowC.form h
    injection e with _ _ e
    rw [e]
    exact ⟨h1, h2⟩
  rw [← hm] at hu0 hn hcl ⊢
  obtain ⟨hcl1, hcl2⟩ := hcl
  unfold maxLen at hcl2
  rw [hu0] at hu1
  rw [hu1] at hu
  clear h hbu hB hm hR hRl hBl hC b0 b1 b2 s0 s1 hso hu0 hu1 u0 u1
  go_enter Try.func40, Try.ntmps40
  go_wp2
  rw [← hu, ← hbr, ← hbc, ← hbn]
  clear hu hbn hbr hbc
  go_loopw [5, 6, 7] (fun lv dv iv wr => ∃ (i n c' : Nat) (q : Option Addr) (d : Bool), iv = .int .i64 (i : Int) ∧ i ≤ m ∧ dv = .bool d ∧ lv = .slice q n c' ∧ Hid (n = ((t.take (i)).foldl (Mp.st Rw.key Mp.ltK r) ([], false)).1.length ∧ d = ((t.take (i)).foldl (Mp.st Rw.key Mp.ltK r) ([], false)).2 ∧ Mk u wr 4 (.slice q n c') n (lsC ((t.take (i)).foldl (Mp.st Rw.key Mp.ltK r) ([], false)).1))) (fun _ _ iv _ => m - (intOf iv).toNat)
  case atStart => exact ⟨0, 0, 0, none, false, rfl, Nat.zero_le _, rfl, rfl, rfl, rfl, Mk.nil _ _ _ (Below.refl _ _)⟩
  case round =>
    obtain ⟨i, n, c', q, d, rfl, him, rfl, rfl, HS0⟩ := hrel
    obtain ⟨hbq, hbr⟩ := HX.out wr HS0.out.2.2.1
    by_cases hlt : i < m
    · obtain ⟨p, g, off, hl, hp, y0, y1, y2, y3⟩ := HI.out wr HS0.out.2.2.1 i hlt
      subst hp
      have hi0 : (0 : Int) ≤ (i : Int) := Int.natCast_nonneg i
      have hi1 : (i : Int) < (m : Int) := by omega
      obtain ⟨n0, n1, _, _⟩ := hbq
      obtain ⟨W, hW⟩ : ∃ W, W = wr.alloc (.cells #[.string p.cn.space, .string p.cn.name, .slice p.pm p.cn.mems.length p.cm, .slice p.pp p.cn.posts.length p.cp] 84) := ⟨_, rfl⟩
      obtain ⟨bx, hbx⟩ : ∃ bx, bx = wr.heap.size := ⟨_, rfl⟩
      have hbW : Below wr.heap.size wr W := by rw [hW]; exact below_alloc _ _
      have hxb : B4 bx (.string p.cn.space) (.string p.cn.name) (.slice p.pm p.cn.mems.length p.cm) (.slice p.pp p.cn.posts.length p.cp) W := by rw [hW, hbx]; exact B4.start _ _ _ _ _ _
      have HS : Hid (n = ((t.take (i)).foldl (Mp.st Rw.key Mp.ltK r) ([], false)).1.length ∧ d = ((t.take (i)).foldl (Mp.st Rw.key Mp.ltK r) ([], false)).2 ∧ Mk u W 4 (.slice q n c') n (lsC ((t.take (i)).foldl (Mp.st Rw.key Mp.ltK r) ([], false)).1)) := ⟨HS0.out.1, HS0.out.2.1, HS0.out.2.2.below (by decide) hbW⟩
      have HNb : Hid (bx < W.heap.size ∧ cBlk (.slice q n c') ≠ some bx) := ⟨hxb.lt, fun e => by have := RowC.lt HS0.out.2.2.2.1 (by decide) e; omega⟩
      have HXb : Hid (∀ Y, Y.heap[bx]? = W.heap[bx]? → B4 bx (.string p.cn.space) (.string p.cn.name) (.slice p.pm p.cn.mems.length p.cm) (.slice p.pp p.cn.posts.length p.cp) Y) := fun Y hY => hxb.keep hY
      have HT0 := fold_take (Mp.st Rw.key Mp.ltK r) ([], false) hl
      have hd := HS0.out.2.1
      have hkp : p.key = (p.cn.space, p.cn.name) := rfl
      have hkr : r.key = (r.cn.space, r.cn.name) := rfl
      clear hbr hl hbW HS0
      go_upto_region 7 with fail
      rw [← hW, ← hbx]
      clear hW hbx y0 y1 y2 y3 n0 n1
      obtain ⟨x0, x1, x2, x3⟩ := hxb
      obtain ⟨k0, k1, k2, k3⟩ := HC.out W HS.out.2.2.1
      by_cases q1 : p.cn.space = r.cn.space
      · have hb1 : (p.cn.space.toList == r.cn.space.toList) = true := by rw [beqB]; exact decide_eq_true q1
        by_cases q2 : p.cn.name = r.cn.name
        · have hb2 : (p.cn.name.toList == r.cn.name.toList) = true := by rw [beqB]; exact decide_eq_true q2
          have HN : Hid (n = ((t.take (i + 1)).foldl (Mp.st Rw.key Mp.ltK r) ([], false)).1.length ∧ d = ((t.take (i + 1)).foldl (Mp.st Rw.key Mp.ltK r) ([], false)).2 ∧ Mk u W 4 (.slice q n c') n (lsC ((t.take (i + 1)).foldl (Mp.st Rw.key Mp.ltK r) ([], false)).1)) := by
            rw [HT0, st_skip (key := Rw.key) (lt := Mp.ltK) _ (by rw [hkp, hkr, q1, q2])]
            exact HS.out
          clear HT0 hd hkp hkr q1 q2
          go_wp2
          go_roundw
          case rel => exact ⟨i + 1, n, c', q, d, by go_num, by omega, rfl, rfl, HN⟩
          case measure => simp [intOf]; omega
        · have hb2 : (p.cn.name.toList == r.cn.name.toList) = false := by rw [beqB]; exact decide_eq_false q2
          have hne : ¬ p.key = r.key := by rw [hkp, hkr]; intro e; injection e with _ e; exact q2 e
          cases d with
          | true =>
            have HT : Hid (((t.take (i + 1)).foldl (Mp.st Rw.key Mp.ltK r) ([], false)) = (((t.take (i)).foldl (Mp.st Rw.key Mp.ltK r) ([], false)).1 ++ [p], true)) := by
              show _ = _
              rw [HT0, st_on (key := Rw.key) (lt := Mp.ltK) _ hne (.inl hd.symm), ← hd]
            clear HT0 hd hkp hkr hne q1 q2
            obtain ⟨r1, r2, r3⟩ := (HS.out.2.2).app (by decide) (t := 52) (e := 84) Try.underlying52 #[.string p.cn.space, .string p.cn.name, .slice p.pm p.cn.mems.length p.cm, .slice p.pp p.cn.posts.length p.cp] rfl (fun u hu => by simp at hu; rcases hu with rfl | rfl | rfl | rfl <;> rfl)
            have HRowA : Hid (RowC (W.alloc (.cells #[.string p.cn.space, .string p.cn.name, .slice p.pm p.cn.mems.length p.cm, .slice p.pp p.cn.posts.length p.cp] 84)) 4 (.slice q n c') n (lsC ((t.take (i)).foldl (Mp.st Rw.key Mp.ltK r) ([], false)).1)) := r1
            have HSrcA : Hid (Src Try.prog 4 52 (.slice (some ⟨W.heap.size, 0, none⟩) 1 1) 1 [.string p.cn.space, .string p.cn.name, .slice p.pm p.cn.mems.length p.cm, .slice p.pp p.cn.posts.length p.cp] (W.alloc (.cells #[.string p.cn.space, .string p.cn.name, .slice p.pm p.cn.mems.length p.cm, .slice p.pp p.cn.posts.length p.cp] 84))) := r2
            have HEndA : Hid (∀ Y L', RowC Y 4 L' (n + 1) (lsC ((t.take (i)).foldl (Mp.st Rw.key Mp.ltK r) ([], false)).1 ++ [.string p.cn.space, .string p.cn.name, .slice p.pm p.cn.mems.length p.cm, .slice p.pp p.cn.posts.length p.cp]) → (W.alloc (.cells #[.string p.cn.space, .string p.cn.name, .slice p.pm p.cn.mems.length p.cm, .slice p.pp p.cn.posts.length p.cp] 84)).grownBy Y (cBlk (.slice q n c')) → (∀ j, cBlk L' = some j → cBlk (.slice q n c') = some j ∨ W.heap.size + 1 ≤ j) → ∃ p' c2, L' = .slice p' (n + 1) c2 ∧ Hid (Mk u Y 4 (.slice p' (n + 1) c2) (n + 1) (lsC ((t.take (i)).foldl (Mp.st Rw.key Mp.ltK r) ([], false)).1 ++ [.string p.cn.space, .string p.cn.name, .slice p.pm p.cn.mems.length p.cm, .slice p.pp p.cn.posts.length p.cp])) ∧ Hid (∀ k, k < W.heap.size → cBlk (.slice q n c') ≠ some k → Y.heap[k]? = W.heap[k]?)) := fun Y L' a1 a2 a3 => r3 Y L' a1 a2 a3
            have hLA : Hid ((n + 1) * 80 ≤ 140737488355328 ∧ n + 1 ≤ maxLen) := by have h1 := st_len Mp.ltK Rw.key r (t.take i) ([], false); have h2 := HS.out.1; have h3 : (t.take i).length ≤ t.length := (by rw [List.length_take]; exact Nat.min_le_right _ _); have h4 := HM.out; simp at h1; unfold maxLen; exact ⟨by omega, by omega⟩
            clear r1 r2 r3 
            go_wp2_with (at_builtin; refine wpList_append_rowC rfl (.tmp 60) (.tmp 62) 52 52 84 rfl Try.underlying52 _ 4 80 infoCn rfl (.slice q n c') n (lsC ((t.take (i)).foldl (Mp.st Rw.key Mp.ltK r) ([], false)).1) rfl HRowA.out _ 1 _ rfl HSrcA.out hLA.out.1 hLA.out.2 ?qnextA)
            case qnextA =>
              intro L' YA a1 a2 a3
              obtain ⟨pA, cA, rfl, HCA, HKpA⟩ := HEndA.out YA L' a1 a2 a3
              clear a1 a2 a3 HRowA HSrcA HEndA hLA
              have HN : Hid (n + 1 = ((t.take (i + 1)).foldl (Mp.st Rw.key Mp.ltK r) ([], false)).1.length ∧ true = ((t.take (i + 1)).foldl (Mp.st Rw.key Mp.ltK r) ([], false)).2 ∧ Mk u YA 4 (.slice pA (n + 1) cA) (n + 1) (lsC ((t.take (i + 1)).foldl (Mp.st Rw.key Mp.ltK r) ([], false)).1)) := by
                have e1 := HT.out
                refine ⟨?_, ?_, ?_⟩
                · rw [e1]; have := HS.out.1; simp; omega
                · rw [e1]
                · rw [e1]; rw [lsC_snoc]; exact HCA.out
              go_wp2
              go_roundw
              case rel => exact ⟨i + 1, n + 1, cA, pA, true, by go_num, by omega, rfl, rfl, HN⟩
              case measure => simp [intOf]; omega
          | false =>
            by_cases q3 : Mp.ltB r.cn.name p.cn.name
            · have hl2 := less_not q3
              have HT : Hid (((t.take (i + 1)).foldl (Mp.st Rw.key Mp.ltK r) ([], false)) = (((t.take (i)).foldl (Mp.st Rw.key Mp.ltK r) ([], false)).1 ++ [r] ++ [p], true)) := by
                show _ = _
                rw [HT0, st_gt (key := Rw.key) (lt := Mp.ltK) _ hne hd.symm (.inr ⟨q1.symm, q3⟩)]
              clear HT0 hd hkp hkr hne q1 q2 q3
              obtain ⟨r1, r2, r3⟩ := (HS.out.2.2).app (by decide) (t := 52) (e := 84) Try.underlying52 #[.string r.cn.space, .string r.cn.name, .slice r.pm r.cn.mems.length r.cm, .slice r.pp r.cn.posts.length r.cp] rfl (fun u hu => by simp at hu; rcases hu with rfl | rfl | rfl | rfl <;> rfl)
              have HRowA : Hid (RowC (W.alloc (.cells #[.string r.cn.space, .string r.cn.name, .slice r.pm r.cn.mems.length r.cm, .slice r.pp r.cn.posts.length r.cp] 84)) 4 (.slice q n c') n (lsC ((t.take (i)).foldl (Mp.st Rw.key Mp.ltK r) ([], false)).1)) := r1
              have HSrcA : Hid (Src Try.prog 4 52 (.slice (some ⟨W.heap.size, 0, none⟩) 1 1) 1 [.string r.cn.space, .string r.cn.name, .slice r.pm r.cn.mems.length r.cm, .slice r.pp r.cn.posts.length r.cp] (W.alloc (.cells #[.string r.cn.space, .string r.cn.name, .slice r.pm r.cn.mems.length r.cm, .slice r.pp r.cn.posts.length r.cp] 84))) := r2
              have HEndA : Hid (∀ Y L', RowC Y 4 L' (n + 1) (lsC ((t.take (i)).foldl (Mp.st Rw.key Mp.ltK r) ([], false)).1 ++ [.string r.cn.space, .string r.cn.name, .slice r.pm r.cn.mems.length r.cm, .slice r.pp r.cn.posts.length r.cp]) → (W.alloc (.cells #[.string r.cn.space, .string r.cn.name, .slice r.pm r.cn.mems.length r.cm, .slice r.pp r.cn.posts.length r.cp] 84)).grownBy Y (cBlk (.slice q n c')) → (∀ j, cBlk L' = some j → cBlk (.slice q n c') = some j ∨ W.heap.size + 1 ≤ j) → ∃ p' c2, L' = .slice p' (n + 1) c2 ∧ Hid (Mk u Y 4 (.slice p' (n + 1) c2) (n + 1) (lsC ((t.take (i)).foldl (Mp.st Rw.key Mp.ltK r) ([], false)).1 ++ [.string r.cn.space, .string r.cn.name, .slice r.pm r.cn.mems.length r.cm, .slice r.pp r.cn.posts.length r.cp])) ∧ Hid (∀ k, k < W.heap.size → cBlk (.slice q n c') ≠ some k → Y.heap[k]? = W.heap[k]?)) := fun Y L' a1 a2 a3 => r3 Y L' a1 a2 a3
              have hLA : Hid ((n + 1) * 80 ≤ 140737488355328 ∧ n + 1 ≤ maxLen) := by have h1 := st_len Mp.ltK Rw.key r (t.take i) ([], false); have h2 := HS.out.1; have h3 : (t.take i).length ≤ t.length := (by rw [List.length_take]; exact Nat.min_le_right _ _); have h4 := HM.out; simp at h1; unfold maxLen; exact ⟨by omega, by omega⟩
              clear r1 r2 r3 
              go_wp2_with (at_builtin; refine wpList_append_rowC rfl (.tmp 56) (.tmp 58) 52 52 84 rfl Try.underlying52 _ 4 80 infoCn rfl (.slice q n c') n (lsC ((t.take (i)).foldl (Mp.st Rw.key Mp.ltK r) ([], false)).1) rfl HRowA.out _ 1 _ rfl HSrcA.out hLA.out.1 hLA.out.2 ?qnextA)
              case qnextA =>
                intro L' YA a1 a2 a3
                obtain ⟨pA, cA, rfl, HCA, HKpA⟩ := HEndA.out YA L' a1 a2 a3
                clear a1 a2 a3 HRowA HSrcA HEndA hLA
                obtain ⟨xs1, hxs1⟩ : ∃ z, z = lsC ((t.take (i)).foldl (Mp.st Rw.key Mp.ltK r) ([], false)).1 ++ [.string r.cn.space, .string r.cn.name, .slice r.pm r.cn.mems.length r.cm, .slice r.pp r.cn.posts.length r.cp] := ⟨_, rfl⟩
                rw [← hxs1] at HCA
                have HX1 : Hid (xs1 = lsC ((t.take (i)).foldl (Mp.st Rw.key Mp.ltK r) ([], false)).1 ++ [.string r.cn.space, .string r.cn.name, .slice r.pm r.cn.mems.length r.cm, .slice r.pp r.cn.posts.length r.cp]) := hxs1
                clear hxs1 x0 x1 x2 x3 k0 k1 k2 k3
                obtain ⟨x0, x1, x2, x3⟩ := HXb.out YA (HKpA.out bx HNb.out.1 HNb.out.2)
                obtain ⟨r1, r2, r3⟩ := (HCA.out).app (by decide) (t := 52) (e := 84) Try.underlying52 #[.string p.cn.space, .string p.cn.name, .slice p.pm p.cn.mems.length p.cm, .slice p.pp p.cn.posts.length p.cp] rfl (fun u hu => by simp at hu; rcases hu with rfl | rfl | rfl | rfl <;> rfl)
                have HRowB : Hid (RowC (YA.alloc (.cells #[.string p.cn.space, .string p.cn.name, .slice p.pm p.cn.mems.length p.cm, .slice p.pp p.cn.posts.length p.cp] 84)) 4 (.slice pA (n + 1) cA) (n + 1) (xs1)) := r1
                have HSrcB : Hid (Src Try.prog 4 52 (.slice (some ⟨YA.heap.size, 0, none⟩) 1 1) 1 [.string p.cn.space, .string p.cn.name, .slice p.pm p.cn.mems.length p.cm, .slice p.pp p.cn.posts.length p.cp] (YA.alloc (.cells #[.string p.cn.space, .string p.cn.name, .slice p.pm p.cn.mems.length p.cm, .slice p.pp p.cn.posts.length p.cp] 84))) := r2
                have HEndB : Hid (∀ Y L', RowC Y 4 L' ((n + 1) + 1) (xs1 ++ [.string p.cn.space, .string p.cn.name, .slice p.pm p.cn.mems.length p.cm, .slice p.pp p.cn.posts.length p.cp]) → (YA.alloc (.cells #[.string p.cn.space, .string p.cn.name, .slice p.pm p.cn.mems.length p.cm, .slice p.pp p.cn.posts.length p.cp] 84)).grownBy Y (cBlk (.slice pA (n + 1) cA)) → (∀ j, cBlk L' = some j → cBlk (.slice pA (n + 1) cA) = some j ∨ YA.heap.size + 1 ≤ j) → ∃ p' c2, L' = .slice p' ((n + 1) + 1) c2 ∧ Hid (Mk u Y 4 (.slice p' ((n + 1) + 1) c2) ((n + 1) + 1) (xs1 ++ [.string p.cn.space, .string p.cn.name, .slice p.pm p.cn.mems.length p.cm, .slice p.pp p.cn.posts.length p.cp])) ∧ Hid (∀ k, k < YA.heap.size → cBlk (.slice pA (n + 1) cA) ≠ some k → Y.heap[k]? = YA.heap[k]?)) := fun Y L' a1 a2 a3 => r3 Y L' a1 a2 a3
                have hLB : Hid (((n + 1) + 1) * 80 ≤ 140737488355328 ∧ (n + 1) + 1 ≤ maxLen) := by have h1 := st_len Mp.ltK Rw.key r (t.take i) ([], false); have h2 := HS.out.1; have h3 : (t.take i).length ≤ t.length := (by rw [List.length_take]; exact Nat.min_le_right _ _); have h4 := HM.out; simp at h1; unfold maxLen; exact ⟨by omega, by omega⟩
                clear r1 r2 r3 
                go_wp2_with (at_builtin; refine wpList_append_rowC rfl (.tmp 60) (.tmp 62) 52 52 84 rfl Try.underlying52 _ 4 80 infoCn rfl (.slice pA (n + 1) cA) (n + 1) (xs1) rfl HRowB.out _ 1 _ rfl HSrcB.out hLB.out.1 hLB.out.2 ?qnextB)
                case qnextB =>
                  intro L' YB a1 a2 a3
                  obtain ⟨pB, cB, rfl, HCB, HKpB⟩ := HEndB.out YB L' a1 a2 a3
                  clear a1 a2 a3 HRowB HSrcB HEndB hLB
                  have HN : Hid (n + 1 + 1 = ((t.take (i + 1)).foldl (Mp.st Rw.key Mp.ltK r) ([], false)).1.length ∧ true = ((t.take (i + 1)).foldl (Mp.st Rw.key Mp.ltK r) ([], false)).2 ∧ Mk u YB 4 (.slice pB (n + 1 + 1) cB) (n + 1 + 1) (lsC ((t.take (i + 1)).foldl (Mp.st Rw.key Mp.ltK r) ([], false)).1)) := by
                    have e1 := HT.out
                    refine ⟨?_, ?_, ?_⟩
                    · rw [e1]; have := HS.out.1; simp; omega
                    · rw [e1]
                    · rw [e1]; rw [lsC_snoc, lsC_snoc, ← HX1.out]; exact HCB.out
                  go_wp2
                  go_roundw
                  case rel => exact ⟨i + 1, n + 1 + 1, cB, pB, true, by go_num, by omega, rfl, rfl, HN⟩
                  case measure => simp [intOf]; omega
            · have hl2 := less_of q3 q2
              have HT : Hid (((t.take (i + 1)).foldl (Mp.st Rw.key Mp.ltK r) ([], false)) = (((t.take (i)).foldl (Mp.st Rw.key Mp.ltK r) ([], false)).1 ++ [p], false)) := by
                show _ = _
                rw [HT0, st_on (key := Rw.key) (lt := Mp.ltK) _ hne (.inr (fun e => by rcases e with e | e; exact Mp.linB.irr _ (by rw [hkp, hkr, q1] at e; exact e); exact q3 e.2)), ← hd]
              clear HT0 hd hkp hkr hne q1 q2 q3
              obtain ⟨r1, r2, r3⟩ := (HS.out.2.2).app (by decide) (t := 52) (e := 84) Try.underlying52 #[.string p.cn.space, .string p.cn.name, .slice p.pm p.cn.mems.length p.cm, .slice p.pp p.cn.posts.length p.cp] rfl (fun u hu => by simp at hu; rcases hu with rfl | rfl | rfl | rfl <;> rfl)
              have HRowA : Hid (RowC (W.alloc (.cells #[.string p.cn.space, .string p.cn.name, .slice p.pm p.cn.mems.length p.cm, .slice p.pp p.cn.posts.length p.cp] 84)) 4 (.slice q n c') n (lsC ((t.take (i)).foldl (Mp.st Rw.key Mp.ltK r) ([], false)).1)) := r1
              have HSrcA : Hid (Src Try.prog 4 52 (.slice (some ⟨W.heap.size, 0, none⟩) 1 1) 1 [.string p.cn.space, .string p.cn.name, .slice p.pm p.cn.mems.length p.cm, .slice p.pp p.cn.posts.length p.cp] (W.alloc (.cells #[.string p.cn.space, .string p.cn.name, .slice p.pm p.cn.mems.length p.cm, .slice p.pp p.cn.posts.length p.cp] 84))) := r2
              have HEndA : Hid (∀ Y L', RowC Y 4 L' (n + 1) (lsC ((t.take (i)).foldl (Mp.st Rw.key Mp.ltK r) ([], false)).1 ++ [.string p.cn.space, .string p.cn.name, .slice p.pm p.cn.mems.length p.cm, .slice p.pp p.cn.posts.length p.cp]) → (W.alloc (.cells #[.string p.cn.space, .string p.cn.name, .slice p.pm p.cn.mems.length p.cm, .slice p.pp p.cn.posts.length p.cp] 84)).grownBy Y (cBlk (.slice q n c')) → (∀ j, cBlk L' = some j → cBlk (.slice q n c') = some j ∨ W.heap.size + 1 ≤ j) → ∃ p' c2, L' = .slice p' (n + 1) c2 ∧ Hid (Mk u Y 4 (.slice p' (n + 1) c2) (n + 1) (lsC ((t.take (i)).foldl (Mp.st Rw.key Mp.ltK r) ([], false)).1 ++ [.string p.cn.space, .string p.cn.name, .slice p.pm p.cn.mems.length p.cm, .slice p.pp p.cn.posts.length p.cp])) ∧ Hid (∀ k, k < W.heap.size → cBlk (.slice q n c') ≠ some k → Y.heap[k]? = W.heap[k]?)) := fun Y L' a1 a2 a3 => r3 Y L' a1 a2 a3
              have hLA : Hid ((n + 1) * 80 ≤ 140737488355328 ∧ n + 1 ≤ maxLen) := by have h1 := st_len Mp.ltK Rw.key r (t.take i) ([], false); have h2 := HS.out.1; have h3 : (t.take i).length ≤ t.length := (by rw [List.length_take]; exact Nat.min_le_right _ _); have h4 := HM.out; simp at h1; unfold maxLen; exact ⟨by omega, by omega⟩
              clear r1 r2 r3 
              go_wp2_with (at_builtin; refine wpList_append_rowC rfl (.tmp 60) (.tmp 62) 52 52 84 rfl Try.underlying52 _ 4 80 infoCn rfl (.slice q n c') n (lsC ((t.take (i)).foldl (Mp.st Rw.key Mp.ltK r) ([], false)).1) rfl HRowA.out _ 1 _ rfl HSrcA.out hLA.out.1 hLA.out.2 ?qnextA)
              case qnextA =>
                intro L' YA a1 a2 a3
                obtain ⟨pA, cA, rfl, HCA, HKpA⟩ := HEndA.out YA L' a1 a2 a3
                clear a1 a2 a3 HRowA HSrcA HEndA hLA
                have HN : Hid (n + 1 = ((t.take (i + 1)).foldl (Mp.st Rw.key Mp.ltK r) ([], false)).1.length ∧ false = ((t.take (i + 1)).foldl (Mp.st Rw.key Mp.ltK r) ([], false)).2 ∧ Mk u YA 4 (.slice pA (n + 1) cA) (n + 1) (lsC ((t.take (i + 1)).foldl (Mp.st Rw.key Mp.ltK r) ([], false)).1)) := by
                  have e1 := HT.out
                  refine ⟨?_, ?_, ?_⟩
                  · rw [e1]; have := HS.out.1; simp; omega
                  · rw [e1]
                  · rw [e1]; rw [lsC_snoc]; exact HCA.out
                go_wp2
                go_roundw
                case rel => exact ⟨i + 1, n + 1, cA, pA, false, by go_num, by omega, rfl, rfl, HN⟩
                case measure => simp [intOf]; omega
      · have hb1 : (p.cn.space.toList == r.cn.space.toList) = false := by rw [beqB]; exact decide_eq_false q1
        have hne : ¬ p.key = r.key := by rw [hkp, hkr]; intro e; injection e with e _; exact q1 e
        cases d with
        | true =>
          have HT : Hid (((t.take (i + 1)).foldl (Mp.st Rw.key Mp.ltK r) ([], false)) = (((t.take (i)).foldl (Mp.st Rw.key Mp.ltK r) ([], false)).1 ++ [p], true)) := by
            show _ = _
            rw [HT0, st_on (key := Rw.key) (lt := Mp.ltK) _ hne (.inl hd.symm), ← hd]
          clear HT0 hd hkp hkr hne q1 
          obtain ⟨r1, r2, r3⟩ := (HS.out.2.2).app (by decide) (t := 52) (e := 84) Try.underlying52 #[.string p.cn.space, .string p.cn.name, .slice p.pm p.cn.mems.length p.cm, .slice p.pp p.cn.posts.length p.cp] rfl (fun u hu => by simp at hu; rcases hu with rfl | rfl | rfl | rfl <;> rfl)
          have HRowA : Hid (RowC (W.alloc (.cells #[.string p.cn.space, .string p.cn.name, .slice p.pm p.cn.mems.length p.cm, .slice p.pp p.cn.posts.length p.cp] 84)) 4 (.slice q n c') n (lsC ((t.take (i)).foldl (Mp.st Rw.key Mp.ltK r) ([], false)).1)) := r1
          have HSrcA : Hid (Src Try.prog 4 52 (.slice (some ⟨W.heap.size, 0, none⟩) 1 1) 1 [.string p.cn.space, .string p.cn.name, .slice p.pm p.cn.mems.length p.cm, .slice p.pp p.cn.posts.length p.cp] (W.alloc (.cells #[.string p.cn.space, .string p.cn.name, .slice p.pm p.cn.mems.length p.cm, .slice p.pp p.cn.posts.length p.cp] 84))) := r2
          have HEndA : Hid (∀ Y L', RowC Y 4 L' (n + 1) (lsC ((t.take (i)).foldl (Mp.st Rw.key Mp.ltK r) ([], false)).1 ++ [.string p.cn.space, .string p.cn.name, .slice p.pm p.cn.mems.length p.cm, .slice p.pp p.cn.posts.length p.cp]) → (W.alloc (.cells #[.string p.cn.space, .string p.cn.name, .slice p.pm p.cn.mems.length p.cm, .slice p.pp p.cn.posts.length p.cp] 84)).grownBy Y (cBlk (.slice q n c')) → (∀ j, cBlk L' = some j → cBlk (.slice q n c') = some j ∨ W.heap.size + 1 ≤ j) → ∃ p' c2, L' = .slice p' (n + 1) c2 ∧ Hid (Mk u Y 4 (.slice p' (n + 1) c2) (n + 1) (lsC ((t.take (i)).foldl (Mp.st Rw.key Mp.ltK r) ([], false)).1 ++ [.string p.cn.space, .string p.cn.name, .slice p.pm p.cn.mems.length p.cm, .slice p.pp p.cn.posts.length p.cp])) ∧ Hid (∀ k, k < W.heap.size → cBlk (.slice q n c') ≠ some k → Y.heap[k]? = W.heap[k]?)) := fun Y L' a1 a2 a3 => r3 Y L' a1 a2 a3
          have hLA : Hid ((n + 1) * 80 ≤ 140737488355328 ∧ n + 1 ≤ maxLen) := by have h1 := st_len Mp.ltK Rw.key r (t.take i) ([], false); have h2 := HS.out.1; have h3 : (t.take i).length ≤ t.length := (by rw [List.length_take]; exact Nat.min_le_right _ _); have h4 := HM.out; simp at h1; unfold maxLen; exact ⟨by omega, by omega⟩
          clear r1 r2 r3 
          go_wp2_with (at_builtin; refine wpList_append_rowC rfl (.tmp 60) (.tmp 62) 52 52 84 rfl Try.underlying52 _ 4 80 infoCn rfl (.slice q n c') n (lsC ((t.take (i)).foldl (Mp.st Rw.key Mp.ltK r) ([], false)).1) rfl HRowA.out _ 1 _ rfl HSrcA.out hLA.out.1 hLA.out.2 ?qnextA)
          case qnextA =>
            intro L' YA a1 a2 a3
            obtain ⟨pA, cA, rfl, HCA, HKpA⟩ := HEndA.out YA L' a1 a2 a3
            clear a1 a2 a3 HRowA HSrcA HEndA hLA
            have HN : Hid (n + 1 = ((t.take (i + 1)).foldl (Mp.st Rw.key Mp.ltK r) ([], false)).1.length ∧ true = ((t.take (i + 1)).foldl (Mp.st Rw.key Mp.ltK r) ([], false)).2 ∧ Mk u YA 4 (.slice pA (n + 1) cA) (n + 1) (lsC ((t.take (i + 1)).foldl (Mp.st Rw.key Mp.ltK r) ([], false)).1)) := by
              have e1 := HT.out
              refine ⟨?_, ?_, ?_⟩
              · rw [e1]; have := HS.out.1; simp; omega
              · rw [e1]
              · rw [e1]; rw [lsC_snoc]; exact HCA.out
            go_wp2
            go_roundw
            case rel => exact ⟨i + 1, n + 1, cA, pA, true, by go_num, by omega, rfl, rfl, HN⟩
            case measure => simp [intOf]; omega
        | false =>
          by_cases q3 : Mp.ltB r.cn.space p.cn.space
          · have hl1 := less_not q3
            have HT : Hid (((t.take (i + 1)).foldl (Mp.st Rw.key Mp.ltK r) ([], false)) = (((t.take (i)).foldl (Mp.st Rw.key Mp.ltK r) ([], false)).1 ++ [r] ++ [p], true)) := by
              show _ = _
              rw [HT0, st_gt (key := Rw.key) (lt := Mp.ltK) _ hne hd.symm (.inl q3)]
            clear HT0 hd hkp hkr hne q1 q3
            obtain ⟨r1, r2, r3⟩ := (HS.out.2.2).app (by decide) (t := 52) (e := 84) Try.underlying52 #[.string r.cn.space, .string r.cn.name, .slice r.pm r.cn.mems.length r.cm, .slice r.pp r.cn.posts.length r.cp] rfl (fun u hu => by simp at hu; rcases hu with rfl | rfl | rfl | rfl <;> rfl)
            have HRowA : Hid (RowC (W.alloc (.cells #[.string r.cn.space, .string r.cn.name, .slice r.pm r.cn.mems.length r.cm, .slice r.pp r.cn.posts.length r.cp] 84)) 4 (.slice q n c') n (lsC ((t.take (i)).foldl (Mp.st Rw.key Mp.ltK r) ([], false)).1)) := r1
            have HSrcA : Hid (Src Try.prog 4 52 (.slice (some ⟨W.heap.size, 0, none⟩) 1 1) 1 [.string r.cn.space, .string r.cn.name, .slice r.pm r.cn.mems.length r.cm, .slice r.pp r.cn.posts.length r.cp] (W.alloc (.cells #[.string r.cn.space, .string r.cn.name, .slice r.pm r.cn.mems.length r.cm, .slice r.pp r.cn.posts.length r.cp] 84))) := r2
            have HEndA : Hid (∀ Y L', RowC Y 4 L' (n + 1) (lsC ((t.take (i)).foldl (Mp.st Rw.key Mp.ltK r) ([], false)).1 ++ [.string r.cn.space, .string r.cn.name, .slice r.pm r.cn.mems.length r.cm, .slice r.pp r.cn.posts.length r.cp]) → (W.alloc (.cells #[.string r.cn.space, .string r.cn.name, .slice r.pm r.cn.mems.length r.cm, .slice r.pp r.cn.posts.length r.cp] 84)).grownBy Y (cBlk (.slice q n c')) → (∀ j, cBlk L' = some j → cBlk (.slice q n c') = some j ∨ W.heap.size + 1 ≤ j) → ∃ p' c2, L' = .slice p' (n + 1) c2 ∧ Hid (Mk u Y 4 (.slice p' (n + 1) c2) (n + 1) (lsC ((t.take (i)).foldl (Mp.st Rw.key Mp.ltK r) ([], false)).1 ++ [.string r.cn.space, .string r.cn.name, .slice r.pm r.cn.mems.length r.cm, .slice r.pp r.cn.posts.length r.cp])) ∧ Hid (∀ k, k < W.heap.size → cBlk (.slice q n c') ≠ some k → Y.heap[k]? = W.heap[k]?)) := fun Y L' a1 a2 a3 => r3 Y L' a1 a2 a3
            have hLA : Hid ((n + 1) * 80 ≤ 140737488355328 ∧ n + 1 ≤ maxLen) := by have h1 := st_len Mp.ltK Rw.key r (t.take i) ([], false); have h2 := HS.out.1; have h3 : (t.take i).length ≤ t.length := (by rw [List.length_take]; exact Nat.min_le_right _ _); have h4 := HM.out; simp at h1; unfold maxLen; exact ⟨by omega, by omega⟩
            clear r1 r2 r3 
            go_wp2_with (at_builtin; refine wpList_append_rowC rfl (.tmp 56) (.tmp 58) 52 52 84 rfl Try.underlying52 _ 4 80 infoCn rfl (.slice q n c') n (lsC ((t.take (i)).foldl (Mp.st Rw.key Mp.ltK r) ([], false)).1) rfl HRowA.out _ 1 _ rfl HSrcA.out hLA.out.1 hLA.out.2 ?qnextA)
            case qnextA =>
              intro L' YA a1 a2 a3
              obtain ⟨pA, cA, rfl, HCA, HKpA⟩ := HEndA.out YA L' a1 a2 a3
              clear a1 a2 a3 HRowA HSrcA HEndA hLA
              obtain ⟨xs1, hxs1⟩ : ∃ z, z = lsC ((t.take (i)).foldl (Mp.st Rw.key Mp.ltK r) ([], false)).1 ++ [.string r.cn.space, .string r.cn.name, .slice r.pm r.cn.mems.length r.cm, .slice r.pp r.cn.posts.length r.cp] := ⟨_, rfl⟩
              rw [← hxs1] at HCA
              have HX1 : Hid (xs1 = lsC ((t.take (i)).foldl (Mp.st Rw.key Mp.ltK r) ([], false)).1 ++ [.string r.cn.space, .string r.cn.name, .slice r.pm r.cn.mems.length r.cm, .slice r.pp r.cn.posts.length r.cp]) := hxs1
              clear hxs1 x0 x1 x2 x3 k0 k1 k2 k3
              obtain ⟨x0, x1, x2, x3⟩ := HXb.out YA (HKpA.out bx HNb.out.1 HNb.out.2)
              obtain ⟨r1, r2, r3⟩ := (HCA.out).app (by decide) (t := 52) (e := 84) Try.underlying52 #[.string p.cn.space, .string p.cn.name, .slice p.pm p.cn.mems.length p.cm, .slice p.pp p.cn.posts.length p.cp] rfl (fun u hu => by simp at hu; rcases hu with rfl | rfl | rfl | rfl <;> rfl)
              have HRowB : Hid (RowC (YA.alloc (.cells #[.string p.cn.space, .string p.cn.name, .slice p.pm p.cn.mems.length p.cm, .slice p.pp p.cn.posts.length p.cp] 84)) 4 (.slice pA (n + 1) cA) (n + 1) (xs1)) := r1
              have HSrcB : Hid (Src Try.prog 4 52 (.slice (some ⟨YA.heap.size, 0, none⟩) 1 1) 1 [.string p.cn.space, .string p.cn.name, .slice p.pm p.cn.mems.length p.cm, .slice p.pp p.cn.posts.length p.cp] (YA.alloc (.cells #[.string p.cn.space, .string p.cn.name, .slice p.pm p.cn.mems.length p.cm, .slice p.pp p.cn.posts.length p.cp] 84))) := r2
              have HEndB : Hid (∀ Y L', RowC Y 4 L' ((n + 1) + 1) (xs1 ++ [.string p.cn.space, .string p.cn.name, .slice p.pm p.cn.mems.length p.cm, .slice p.pp p.cn.posts.length p.cp]) → (YA.alloc (.cells #[.string p.cn.space, .string p.cn.name, .slice p.pm p.cn.mems.length p.cm, .slice p.pp p.cn.posts.length p.cp] 84)).grownBy Y (cBlk (.slice pA (n + 1) cA)) → (∀ j, cBlk L' = some j → cBlk (.slice pA (n + 1) cA) = some j ∨ YA.heap.size + 1 ≤ j) → ∃ p' c2, L' = .slice p' ((n + 1) + 1) c2 ∧ Hid (Mk u Y 4 (.slice p' ((n + 1) + 1) c2) ((n + 1) + 1) (xs1 ++ [.string p.cn.space, .string p.cn.name, .slice p.pm p.cn.mems.length p.cm, .slice p.pp p.cn.posts.length p.cp])) ∧ Hid (∀ k, k < YA.heap.size → cBlk (.slice pA (n + 1) cA) ≠ some k → Y.heap[k]? = YA.heap[k]?)) := fun Y L' a1 a2 a3 => r3 Y L' a1 a2 a3
              have hLB : Hid (((n + 1) + 1) * 80 ≤ 140737488355328 ∧ (n + 1) + 1 ≤ maxLen) := by have h1 := st_len Mp.ltK Rw.key r (t.take i) ([], false); have h2 := HS.out.1; have h3 : (t.take i).length ≤ t.length := (by rw [List.length_take]; exact Nat.min_le_right _ _); have h4 := HM.out; simp at h1; unfold maxLen; exact ⟨by omega, by omega⟩
              clear r1 r2 r3 
              go_wp2_with (at_builtin; refine wpList_append_rowC rfl (.tmp 60) (.tmp 62) 52 52 84 rfl Try.underlying52 _ 4 80 infoCn rfl (.slice pA (n + 1) cA) (n + 1) (xs1) rfl HRowB.out _ 1 _ rfl HSrcB.out hLB.out.1 hLB.out.2 ?qnextB)
              case qnextB =>
                intro L' YB a1 a2 a3
                obtain ⟨pB, cB, rfl, HCB, HKpB⟩ := HEndB.out YB L' a1 a2 a3
                clear a1 a2 a3 HRowB HSrcB HEndB hLB
                have HN : Hid (n + 1 + 1 = ((t.take (i + 1)).foldl (Mp.st Rw.key Mp.ltK r) ([], false)).1.length ∧ true = ((t.take (i + 1)).foldl (Mp.st Rw.key Mp.ltK r) ([], false)).2 ∧ Mk u YB 4 (.slice pB (n + 1 + 1) cB) (n + 1 + 1) (lsC ((t.take (i + 1)).foldl (Mp.st Rw.key Mp.ltK r) ([], false)).1)) := by
                  have e1 := HT.out
                  refine ⟨?_, ?_, ?_⟩
                  · rw [e1]; have := HS.out.1; simp; omega
                  · rw [e1]
                  · rw [e1]; rw [lsC_snoc, lsC_snoc, ← HX1.out]; exact HCB.out
                go_wp2
                go_roundw
                case rel => exact ⟨i + 1, n + 1 + 1, cB, pB, true, by go_num, by omega, rfl, rfl, HN⟩
                case measure => simp [intOf]; omega
          · have hl1 := less_of q3 q1
            have HT : Hid (((t.take (i + 1)).foldl (Mp.st Rw.key Mp.ltK r) ([], false)) = (((t.take (i)).foldl (Mp.st Rw.key Mp.ltK r) ([], false)).1 ++ [p], false)) := by
              show _ = _
              rw [HT0, st_on (key := Rw.key) (lt := Mp.ltK) _ hne (.inr (fun e => e.elim q3 (fun e => q1 e.1.symm))), ← hd]
            clear HT0 hd hkp hkr hne q1 q3
            obtain ⟨r1, r2, r3⟩ := (HS.out.2.2).app (by decide) (t := 52) (e := 84) Try.underlying52 #[.string p.cn.space, .string p.cn.name, .slice p.pm p.cn.mems.length p.cm, .slice p.pp p.cn.posts.length p.cp] rfl (fun u hu => by simp at hu; rcases hu with rfl | rfl | rfl | rfl <;> rfl)
            have HRowA : Hid (RowC (W.alloc (.cells #[.string p.cn.space, .string p.cn.name, .slice p.pm p.cn.mems.length p.cm, .slice p.pp p.cn.posts.length p.cp] 84)) 4 (.slice q n c') n (lsC ((t.take (i)).foldl (Mp.st Rw.key Mp.ltK r) ([], false)).1)) := r1
            have HSrcA : Hid (Src Try.prog 4 52 (.slice (some ⟨W.heap.size, 0, none⟩) 1 1) 1 [.string p.cn.space, .string p.cn.name, .slice p.pm p.cn.mems.length p.cm, .slice p.pp p.cn.posts.length p.cp] (W.alloc (.cells #[.string p.cn.space, .string p.cn.name, .slice p.pm p.cn.mems.length p.cm, .slice p.pp p.cn.posts.length p.cp] 84))) := r2
            have HEndA : Hid (∀ Y L', RowC Y 4 L' (n + 1) (lsC ((t.take (i)).foldl (Mp.st Rw.key Mp.ltK r) ([], false)).1 ++ [.string p.cn.space, .string p.cn.name, .slice p.pm p.cn.mems.length p.cm, .slice p.pp p.cn.posts.length p.cp]) → (W.alloc (.cells #[.string p.cn.space, .string p.cn.name, .slice p.pm p.cn.mems.length p.cm, .slice p.pp p.cn.posts.length p.cp] 84)).grownBy Y (cBlk (.slice q n c')) → (∀ j, cBlk L' = some j → cBlk (.slice q n c') = some j ∨ W.heap.size + 1 ≤ j) → ∃ p' c2, L' = .slice p' (n + 1) c2 ∧ Hid (Mk u Y 4 (.slice p' (n + 1) c2) (n + 1) (lsC ((t.take (i)).foldl (Mp.st Rw.key Mp.ltK r) ([], false)).1 ++ [.string p.cn.space, .string p.cn.name, .slice p.pm p.cn.mems.length p.cm, .slice p.pp p.cn.posts.length p.cp])) ∧ Hid (∀ k, k < W.heap.size → cBlk (.slice q n c') ≠ some k → Y.heap[k]? = W.heap[k]?)) := fun Y L' a1 a2 a3 => r3 Y L' a1 a2 a3
            have hLA : Hid ((n + 1) * 80 ≤ 140737488355328 ∧ n + 1 ≤ maxLen) := by have h1 := st_len Mp.ltK Rw.key r (t.take i) ([], false); have h2 := HS.out.1; have h3 : (t.take i).length ≤ t.length := (by rw [List.length_take]; exact Nat.min_le_right _ _); have h4 := HM.out; simp at h1; unfold maxLen; exact ⟨by omega, by omega⟩
            clear r1 r2 r3 
            go_wp2_with (at_builtin; refine wpList_append_rowC rfl (.tmp 60) (.tmp 62) 52 52 84 rfl Try.underlying52 _ 4 80 infoCn rfl (.slice q n c') n (lsC ((t.take (i)).foldl (Mp.st Rw.key Mp.ltK r) ([], false)).1) rfl HRowA.out _ 1 _ rfl HSrcA.out hLA.out.1 hLA.out.2 ?qnextA)
            case qnextA =>
              intro L' YA a1 a2 a3
              obtain ⟨pA, cA, rfl, HCA, HKpA⟩ := HEndA.out YA L' a1 a2 a3
              clear a1 a2 a3 HRowA HSrcA HEndA hLA
              have HN : Hid (n + 1 = ((t.take (i + 1)).foldl (Mp.st Rw.key Mp.ltK r) ([], false)).1.length ∧ false = ((t.take (i + 1)).foldl (Mp.st Rw.key Mp.ltK r) ([], false)).2 ∧ Mk u YA 4 (.slice pA (n + 1) cA) (n + 1) (lsC ((t.take (i + 1)).foldl (Mp.st Rw.key Mp.ltK r) ([], false)).1)) := by
                have e1 := HT.out
                refine ⟨?_, ?_, ?_⟩
                · rw [e1]; have := HS.out.1; simp; omega
                · rw [e1]
                · rw [e1]; rw [lsC_snoc]; exact HCA.out
              go_wp2
              go_roundw
              case rel => exact ⟨i + 1, n + 1, cA, pA, false, by go_num, by omega, rfl, rfl, HN⟩
              case measure => simp [intOf]; omega
    · obtain rfl : i = m := by omega
      have HF : Hid (n = (t.foldl (Mp.st Rw.key Mp.ltK r) ([], false)).1.length ∧ d = (t.foldl (Mp.st Rw.key Mp.ltK r) ([], false)).2 ∧ Mk u wr 4 (.slice q n c') n (lsC (t.foldl (Mp.st Rw.key Mp.ltK r) ([], false)).1)) := by
        have h1 := HS0.out
        rw [List.take_of_length_le (Nat.le_of_eq HM.out.1.symm)] at h1
        exact h1
      clear hlt him
      cases d with
      | true =>
        have HE : Hid (n = (Mp.ins Rw.key Mp.ltK r t).length ∧ lsC (t.foldl (Mp.st Rw.key Mp.ltK r) ([], false)).1 = lsC (Mp.ins Rw.key Mp.ltK r t)) := by
          rw [← HFi.out]
          unfold Mp.fin
          rw [if_pos HF.out.2.1.symm]
          exact ⟨HF.out.1, rfl⟩
        obtain ⟨g1, g2, g3, g4⟩ := tail2 HU.out.1 HU.out.2.1 HU.out.2.2.1 HU.out.2.2.2.1 HU.out.2.2.2.2.1 HU.out.2.2.2.2.2 hbq hbr HF.out.2.2
        have HOut : Hid (Mk w (fn2 (wr.setCell ⟨bn, 0, none⟩ (.slice q n c')) br (.slice q n c') (.slice po no co)) 4 (.slice q (Mp.ins Rw.key Mp.ltK r t).length c') (Mp.ins Rw.key Mp.ltK r t).length (lsC (Mp.ins Rw.key Mp.ltK r t))) := by
          have e := HE.out
          rw [← e.1, ← e.2]
          exact g4
        obtain ⟨n0, n1, fn, _⟩ := hbq
        obtain ⟨m0, m1, _, _⟩ := g1
        obtain ⟨z0, z1, h0, h1⟩ := g2
        obtain ⟨x0, x1, _, _⟩ := g3
        obtain ⟨F, hF⟩ : ∃ F, F = fn2 (wr.setCell ⟨bn, 0, none⟩ (.slice q n c')) br (.slice q n c') (.slice po no co) := ⟨_, rfl⟩
        rw [← hF] at HOut x0 x1
        unfold fn2 at hF
        clear g4 hbr
        go_wp2
        rw [← hF]
        clear hF
        refine bodyPost_ret (v := .agg #[.slice q n c', .slice po no co]) ?qres rfl ?qpost
        case qres => simp [results, Try.results40, go_sem, x0, x1]
        case qpost =>
          have e := HQ.out _ _ _ HOut.out
          rw [← HE.out.1] at e
          exact e
      | false =>
        obtain ⟨k0, k1, k2, k3⟩ := HC.out wr HF.out.2.2.1
        have n0 := hbq.c0
        obtain ⟨r1, r2, r3⟩ := (HF.out.2.2).app (by decide) (t := 52) (e := 84) Try.underlying52 #[.string r.cn.space, .string r.cn.name, .slice r.pm r.cn.mems.length r.cm, .slice r.pp r.cn.posts.length r.cp] rfl (fun u hu => by simp at hu; rcases hu with rfl | rfl | rfl | rfl <;> rfl)
        have HRowA : Hid (RowC (wr.alloc (.cells #[.string r.cn.space, .string r.cn.name, .slice r.pm r.cn.mems.length r.cm, .slice r.pp r.cn.posts.length r.cp] 84)) 4 (.slice q n c') n (lsC (t.foldl (Mp.st Rw.key Mp.ltK r) ([], false)).1)) := r1
        have HSrcA : Hid (Src Try.prog 4 52 (.slice (some ⟨wr.heap.size, 0, none⟩) 1 1) 1 [.string r.cn.space, .string r.cn.name, .slice r.pm r.cn.mems.length r.cm, .slice r.pp r.cn.posts.length r.cp] (wr.alloc (.cells #[.string r.cn.space, .string r.cn.name, .slice r.pm r.cn.mems.length r.cm, .slice r.pp r.cn.posts.length r.cp] 84))) := r2
        have HEndA : Hid (∀ Y L', RowC Y 4 L' (n + 1) (lsC (t.foldl (Mp.st Rw.key Mp.ltK r) ([], false)).1 ++ [.string r.cn.space, .string r.cn.name, .slice r.pm r.cn.mems.length r.cm, .slice r.pp r.cn.posts.length r.cp]) → (wr.alloc (.cells #[.string r.cn.space, .string r.cn.name, .slice r.pm r.cn.mems.length r.cm, .slice r.pp r.cn.posts.length r.cp] 84)).grownBy Y (cBlk (.slice q n c')) → (∀ j, cBlk L' = some j → cBlk (.slice q n c') = some j ∨ wr.heap.size + 1 ≤ j) → ∃ p' c2, L' = .slice p' (n + 1) c2 ∧ Hid (Mk u Y 4 (.slice p' (n + 1) c2) (n + 1) (lsC (t.foldl (Mp.st Rw.key Mp.ltK r) ([], false)).1 ++ [.string r.cn.space, .string r.cn.name, .slice r.pm r.cn.mems.length r.cm, .slice r.pp r.cn.posts.length r.cp])) ∧ Hid (∀ k, k < wr.heap.size → cBlk (.slice q n c') ≠ some k → Y.heap[k]? = wr.heap[k]?)) := fun Y L' a1 a2 a3 => r3 Y L' a1 a2 a3
        have hLA : Hid ((n + 1) * 80 ≤ 140737488355328 ∧ n + 1 ≤ maxLen) := by have h1 := st_len Mp.ltK Rw.key r t ([], false); have h2 := HF.out.1; have h4 := HM.out; simp at h1; unfold maxLen; exact ⟨by omega, by omega⟩
        clear r1 r2 r3 
        go_wp2_with (at_builtin; refine wpList_append_rowC rfl (.tmp 66) (.tmp 68) 52 52 84 rfl Try.underlying52 _ 4 80 infoCn rfl (.slice q n c') n (lsC (t.foldl (Mp.st Rw.key Mp.ltK r) ([], false)).1) rfl HRowA.out _ 1 _ rfl HSrcA.out hLA.out.1 hLA.out.2 ?qnextA)
        case qnextA =>
          intro L' YA a1 a2 a3
          obtain ⟨pA, cA, rfl, HCA, HKpA⟩ := HEndA.out YA L' a1 a2 a3
          clear a1 a2 a3 HRowA HSrcA HEndA hLA
          have HE : Hid (n + 1 = (Mp.ins Rw.key Mp.ltK r t).length ∧ lsC (t.foldl (Mp.st Rw.key Mp.ltK r) ([], false)).1 ++ [.string r.cn.space, .string r.cn.name, .slice r.pm r.cn.mems.length r.cm, .slice r.pp r.cn.posts.length r.cp] = lsC (Mp.ins Rw.key Mp.ltK r t)) := by
            rw [← HFi.out]
            unfold Mp.fin
            rw [if_neg (by rw [← HF.out.2.1]; simp), lsC_snoc, List.length_append, ← HF.out.1]
            exact ⟨rfl, rfl⟩
          clear hbq hbr k0 k1 k2 k3 n0
          obtain ⟨hbq, hbr⟩ := HX.out YA HCA.out.1

          obtain ⟨g1, g2, g3, g4⟩ := tail2 HU.out.1 HU.out.2.1 HU.out.2.2.1 HU.out.2.2.2.1 HU.out.2.2.2.2.1 HU.out.2.2.2.2.2 hbq hbr HCA.out
          have HOut : Hid (Mk w (fn2 (YA.setCell ⟨bn, 0, none⟩ (.slice pA (n + 1) cA)) br (.slice pA (n + 1) cA) (.slice po no co)) 4 (.slice pA (Mp.ins Rw.key Mp.ltK r t).length cA) (Mp.ins Rw.key Mp.ltK r t).length (lsC (Mp.ins Rw.key Mp.ltK r t))) := by
            have e := HE.out
            rw [← e.1, ← e.2]
            exact g4
          obtain ⟨n0, n1, fn, _⟩ := hbq
          obtain ⟨m0, m1, _, _⟩ := g1
          obtain ⟨z0, z1, h0, h1⟩ := g2
          obtain ⟨x0, x1, _, _⟩ := g3
          obtain ⟨F, hF⟩ : ∃ F, F = fn2 (YA.setCell ⟨bn, 0, none⟩ (.slice pA (n + 1) cA)) br (.slice pA (n + 1) cA) (.slice po no co) := ⟨_, rfl⟩
          rw [← hF] at HOut x0 x1
          unfold fn2 at hF
          clear g4 hbr
          go_wp2
          rw [← hF]
          clear hF
          refine bodyPost_ret (v := .agg #[.slice pA (n + 1) cA, .slice po no co]) ?qres rfl ?qpost
          case qres => simp [results, Try.results40, go_sem, x0, x1]
          case qpost =>
            have e := HQ.out _ _ _ HOut.out
            rw [← HE.out.1] at e
            exact e

end
end Go.Proofs.Ytkioeahlajjmiaa

/-
  The document's Off: a user who is no member of any channel.
-/
namespace Go.Proofs.Ytkioeahlajjmiaa
open Go.RowKit

/-- Each channel without a member. -/
def ROff (s : ByteArray) (t t' : List Rw) : Prop := t'.map (·.cn) = t.map (fun p => Mp.lessC s p.cn) ∧ ∀ p' ∈ t', ∃ p ∈ t, p'.pp = p.pp ∧ p'.cp = p.cp ∧ p'.cn.posts = p.cn.posts
/-- The list under way, and the members' lists that were made. -/
def OffS (u X : World) (l : Value) (n : Nat) (t' : List Rw) : Prop := Mk u X 4 l n (lsC t') ∧ ∀ p ∈ t', Tx X p.vm p.cn.mems ∧ ∀ g, cBlk p.vm = some g → u.heap.size ≤ g ∧ cBlk l ≠ some g
theorem B4.set2 {b : Nat} {x y z v : Value} {X : World} (h : B4 b x y z v X) (a : Value) : B4 b x y a v (X.setCell ⟨b, 2, none⟩ a) :=
  ⟨by rw [cell_set9 _ h.2.2.1, if_neg (by omega)]; exact h.1, by rw [cell_set9 _ h.2.2.1, if_neg (by omega)]; exact h.2.1, by rw [cell_set9 _ h.2.2.1, if_pos rfl], by rw [cell_set9 _ h.2.2.1, if_neg (by omega)]; exact h.2.2.2⟩
theorem Tx.keep {w w' : World} {v : Value} {l : List ByteArray} (h : Tx w v l) (hb : ∀ g, cBlk v = some g → w'.heap[g]? = w.heap[g]?) : Tx w' v l := RowC.carry h hb
theorem OffS.box {u wr W X2 : World} {l : Value} {n bx : Nat} {t' : List Rw} {v' : Value} {ms : List ByteArray} (h : OffS u wr l n t') (hW : Below wr.heap.size wr W) (hbx : bx = wr.heap.size) (hs : W.heap.size = wr.heap.size + 1) (h2 : Mk W X2 1 v' ms.length (tx ms)) :
    OffS u (X2.setCell ⟨bx, 2, none⟩ v') l n t' ∧ Tx (X2.setCell ⟨bx, 2, none⟩ v') v' ms ∧ (∀ g, cBlk v' = some g → u.heap.size ≤ g ∧ cBlk l ≠ some g) := by
  have hu := h.1.1.size
  have hk : ∀ k, k < wr.heap.size → (X2.setCell ⟨bx, 2, none⟩ v').heap[k]? = wr.heap[k]? := fun k hk => by
    rw [Below.heap_setCell _ _ _ _ (by show k ≠ bx; omega), h2.1.block k (by omega), hW.block k hk]
  have hlt : ∀ g, cBlk l = some g → g < wr.heap.size := fun g hg => RowC.lt h.1.2.1 (by decide) hg
  have hWu : Below u.heap.size u W := h.1.1.trans (hW.mono hu)
  refine ⟨⟨⟨(hWu.trans (h2.1.mono hWu.size)).setCell (p := ⟨bx, 2, none⟩) (by show _ ≤ bx; omega) _, RowC.carry h.1.2.1 (fun k e => hk k (hlt k e)), h.1.2.2⟩, fun p hp => ⟨(h.2 p hp).1.keep (fun g hg => hk g (RowC.lt (h.2 p hp).1 (by decide) hg)), (h.2 p hp).2⟩⟩, ?_, fun g hg => ?_⟩
  · refine Tx.keep h2.2.1 (fun g hg => Below.heap_setCell _ _ _ _ ?_)
    have := h2.2.2 g hg
    show g ≠ bx
    omega
  · have := h2.2.2 g hg
    refine ⟨by omega, fun e => ?_⟩
    have := hlt g e
    omega
theorem OffS.snoc {u X Y : World} {q p' : Option Addr} {c c2 n : Nat} {t' : List Rw} {r : Rw} (h : OffS u X (.slice q n c) n t') (hM : Mk u Y 4 (.slice p' (n + 1) c2) (n + 1) (lsC (t' ++ [r]))) (hk : ∀ k, k < X.heap.size → cBlk (.slice q n c) ≠ some k → Y.heap[k]? = X.heap[k]?) (hL : ∀ j, cBlk (.slice p' (n + 1) c2) = some j → cBlk (.slice q n c) = some j ∨ X.heap.size + 1 ≤ j) (hr : Tx X r.vm r.cn.mems) (hg : ∀ g, cBlk r.vm = some g → u.heap.size ≤ g ∧ cBlk (.slice q n c) ≠ some g) : OffS u Y (.slice p' (n + 1) c2) (n + 1) (t' ++ [r]) := by
  have one : ∀ p : Rw, Tx X p.vm p.cn.mems → (∀ g, cBlk p.vm = some g → u.heap.size ≤ g ∧ cBlk (.slice q n c) ≠ some g) → Tx Y p.vm p.cn.mems ∧ ∀ g, cBlk p.vm = some g → u.heap.size ≤ g ∧ cBlk (.slice p' (n + 1) c2) ≠ some g := fun p h1 h2 => by
    refine ⟨h1.keep (fun g hg => hk g (RowC.lt h1 (by decide) hg) (h2 g hg).2), fun g hg => ⟨(h2 g hg).1, fun e => ?_⟩⟩
    rcases hL g e with e | e
    · exact (h2 g hg).2 e
    · have := RowC.lt h1 (by decide) hg
      omega
  refine ⟨hM, fun p hp => ?_⟩
  rcases List.mem_append.1 hp with e | e
  · exact one p (h.2 p e).1 (h.2 p e).2
  · rw [List.mem_singleton.1 e]
    exact one r hr hg
theorem ROff.snoc {s : ByteArray} {t t' : List Rw} {i : Nat} {p : Rw} (h : ROff s (t.take i) t') (hl : t[i]? = some p) (pv : Option Addr) (cv : Nat) : ROff s (t.take (i + 1)) (t' ++ [Rw.mk (Mp.lessC s p.cn) pv cv p.pp p.cp]) := by
  rw [List.take_add_one, hl, Option.toList_some]
  refine ⟨by rw [List.map_append, List.map_append, h.1]; rfl, fun p' hp => ?_⟩
  rcases List.mem_append.1 hp with e | e
  · obtain ⟨a, ha, h2⟩ := h.2 p' e
    exact ⟨a, List.mem_append_left _ ha, h2⟩
  · rw [List.mem_singleton.1 e]
    exact ⟨p, by simp, rfl, rfl, rfl⟩

/-- What Off leaves. -/
def OffOut (w : World) (t : List Rw) (off : List ByteArray) (s : ByteArray) (e : Ending) (w' : World) : Prop := ∃ p' c' p2 c2 t', e = .returned (.agg #[.slice p' t'.length c', .slice p2 (Mp.insS s off).length c2]) ∧ Below w.heap.size w w' ∧ Ls9 w' (.slice p' t'.length c') t' ∧ Tx w' (.slice p2 (Mp.insS s off).length c2) (Mp.insS s off) ∧ (∀ g, cBlk (.slice p' t'.length c') = some g → w.heap.size ≤ g) ∧ (∀ g, cBlk (.slice p2 (Mp.insS s off).length c2) = some g → w.heap.size ≤ g) ∧ ROff s t t' ∧ ∀ p ∈ t', Tx w' p.vm p.cn.mems ∧ ∀ g, cBlk p.vm = some g → w.heap.size ≤ g
section
variable {w : World} {pl po : Option Addr} {cl co : Nat} {t : List Rw} {off : List ByteArray}
set_option maxHeartbeats 6400000 in
set_option maxRecDepth 20000 in
theorem rOff_c (h : Ls9 w (.slice pl t.length cl) t) (hn : t.length ≤ 1000000) (hmem : ∀ p ∈ t, Tx w p.vm p.cn.mems ∧ p.cn.mems.length ≤ 1000000) (ho : Tx w (.slice po off.length co) off) (hno : off.length ≤ 1000000) (s : ByteArray) (hs : s ∉ off) (hso : Mp.Sorted id Mp.ltB off) :
    Calls Try.prog 42 #[.agg #[.slice pl t.length cl, .slice po off.length co], .string s] w (OffOut w t off s) := by
  obtain ⟨no, hnoo⟩ : ∃ no, no = off.length := ⟨_, rfl⟩
  obtain ⟨u, hu⟩ : ∃ u, u = (w.alloc (.cells #[.slice pl t.length cl, .slice po no co] 54)).alloc (.cells #[.slice none 0 0, .slice none 0 0] 54) := ⟨_, rfl⟩
  have hb1 := below_alloc w (.cells #[.slice pl t.length cl, .slice po no co] 54)
  have hbu : Below w.heap.size w u := by rw [hu]; exact hb1.trans ((below_alloc _ _).mono (by simp))
  have hB : Bq w.heap.size (.slice pl t.length cl) (.slice po no co) u := by rw [hu]; exact (Bq.start _ _ _ _).below (below_alloc _ _)
  have hR : Bq (w.heap.size + 1) (.slice none 0 0) (.slice none 0 0) u := by
    rw [hu]
    have := Bq.start (w.alloc (.cells #[.slice pl t.length cl, .slice po no co] 54)) (.slice none 0 0) (.slice none 0 0) 54
    rw [show (w.alloc (.cells #[.slice pl t.length cl, .slice po no co] 54)).heap.size = w.heap.size + 1 by simp] at this
    exact this
  obtain ⟨bn, hbn⟩ : ∃ bn, bn = w.heap.size := ⟨_, rfl⟩
  obtain ⟨br, hbr⟩ : ∃ br, br = w.heap.size + 1 := ⟨_, rfl⟩
  rw [← hbn] at hB
  rw [← hbr] at hR
  have hRl := hR.lt
  have hBl := hB.lt
  obtain ⟨m, hm⟩ : ∃ m, m = t.length := ⟨_, rfl⟩
  have HI : Hid (∀ X, Below u.heap.size u X → ∀ k, k < m → ∃ p g off, t[k]? = some p ∧ pl = some ⟨g, off, none⟩ ∧ X.cell? ⟨g, off + k * 4, none⟩ = some (.string p.cn.space) ∧ X.cell? ⟨g, off + k * 4 + 1, none⟩ = some (.string p.cn.name) ∧ X.cell? ⟨g, off + k * 4 + 2, none⟩ = some (.slice p.pm p.cn.mems.length p.cm) ∧ X.cell? ⟨g, off + k * 4 + 3, none⟩ = some (.slice p.pp p.cn.posts.length p.cp) ∧ Tx X (.slice p.pm p.cn.mems.length p.cm) p.cn.mems ∧ p.cn.mems.length ≤ 1000000) := by
    intro X hX k hk
    have hx : t[k]? = some (t[k]'(by omega)) := List.getElem?_eq_getElem (by omega)
    obtain ⟨g, off, h1, h2, h3, h4, h5⟩ := ((h.below hbu).below hX).at hx
    obtain ⟨h6, h7⟩ := hmem _ (List.mem_of_getElem? hx)
    exact ⟨_, g, off, hx, h1, h2, h3, h4, h5, (h6.below hbu).below hX, h7⟩
  have HX : Hid (∀ X, Below u.heap.size u X → Bq bn (.slice pl m cl) (.slice po no co) X ∧ Bq br (.slice none 0 0) (.slice none 0 0) X) := fun X hX => by rw [hm]; exact ⟨hB.below hX, hR.below hX⟩
  have HM : Hid (m = t.length ∧ m ≤ 1000000) := ⟨hm, by omega⟩
  have HU : Hid (Below w.heap.size w u ∧ w.heap.size ≤ bn ∧ bn < u.heap.size ∧ w.heap.size ≤ br ∧ br < u.heap.size ∧ br ≠ bn) := ⟨hbu, by omega, hBl, by omega, hRl, by omega⟩
  have HO : Hid (∀ X, Below w.heap.size w X → Calls Try.prog 64 #[.slice po no co, .string s] X fun e w' => ∃ p2 c2, e = .returned (.slice p2 (Mp.insS s off).length c2) ∧ Mk X w' 1 (.slice p2 (Mp.insS s off).length c2) (Mp.insS s off).length (tx (Mp.insS s off))) := fun X hX => by
    rw [hnoo]
    refine (rWith_c (ho.below hX) hno s hs hso).mono ?_
    rintro e w' ⟨v', rfl, hM⟩
    obtain ⟨p2, c2, hv, _⟩ := RowC.form hM.2.1
    subst hv
    exact ⟨p2, c2, rfl, hM⟩
  have hcl : t.length ≤ cl ∧ cl ≤ maxLen := by
    obtain ⟨_, _, e, h1, h2⟩ := RowC.form h
    injection e with _ _ e
    rw [e]
    exact ⟨h1, h2⟩
  have HQ : Hid (∀ e w', OffOut w t off s e w' → OffOut w t off s e w') := fun e w' h => h
  rw [← hm] at hu hn hcl
  rw [← hm, ← hnoo]
  generalize hQ : OffOut w t off s = Q at HQ ⊢
  have HQ : Hid (∀ e w', OffOut w t off s e w' → Q e w') := fun e w' h => by rw [← hQ]; exact h
  obtain ⟨hcl1, hcl2⟩ := hcl
  unfold maxLen at hcl2
  clear h hbu hB hm hR hRl hBl hb1 hQ hmem ho hno hs hso hnoo
  go_enter Try.func42, Try.ntmps42
  go_wp2
  rw [← hu, ← hbr, ← hbn]
  clear hu hbn hbr
  go_loopw [5, 6] (fun lv iv wr => ∃ (i c' : Nat) (q : Option Addr) (t' : List Rw), iv = .int .i64 (i : Int) ∧ i ≤ m ∧ lv = .slice q i c' ∧ Hid (i = t'.length ∧ ROff s (t.take i) t' ∧ OffS u wr (.slice q i c') i t')) (fun _ iv _ => m - (intOf iv).toNat)
  case atStart => exact ⟨0, 0, none, [], rfl, Nat.zero_le _, rfl, rfl, ⟨rfl, fun p hp => by cases hp⟩, Mk.nil _ _ _ (Below.refl _ _), fun p hp => by cases hp⟩
  case round =>
    obtain ⟨i, c', q, t', rfl, him, rfl, HS⟩ := hrel
    obtain ⟨hbq, hbr⟩ := HX.out wr HS.out.2.2.1.1
    by_cases hlt : i < m
    · obtain ⟨p, g, off', hl, hp, y0, y1, y2, y3, y4, y5⟩ := HI.out wr HS.out.2.2.1.1 i hlt
      subst hp
      have hi0 : (0 : Int) ≤ (i : Int) := Int.natCast_nonneg i
      have hi1 : (i : Int) < (m : Int) := by omega
      obtain ⟨n0, n1, _, _⟩ := hbq
      obtain ⟨W, hW⟩ : ∃ W, W = wr.alloc (.cells #[.string p.cn.space, .string p.cn.name, .slice p.pm p.cn.mems.length p.cm, .slice p.pp p.cn.posts.length p.cp] 84) := ⟨_, rfl⟩
      obtain ⟨bx, hbx⟩ : ∃ bx, bx = wr.heap.size := ⟨_, rfl⟩
      have hbW : Below wr.heap.size wr W := by rw [hW]; exact below_alloc _ _
      have hsW : W.heap.size = wr.heap.size + 1 := by rw [hW]; simp
      have hxb : B4 bx (.string p.cn.space) (.string p.cn.name) (.slice p.pm p.cn.mems.length p.cm) (.slice p.pp p.cn.posts.length p.cp) W := by rw [hW, hbx]; exact B4.start _ _ _ _ _ _
      have hfb : W.frozen? ⟨bx, 2, none⟩ = false := by rw [hW, hbx, World.frozen?_alloc_mark]; simp
      have HRo : Hid (∀ pv cv, ROff s (t.take (i + 1)) (t' ++ [Rw.mk (Mp.lessC s p.cn) pv cv p.pp p.cp])) := fun pv cv => HS.out.2.1.snoc hl pv cv
      have HCl : Hid (Calls Try.prog 63 #[.slice p.pm p.cn.mems.length p.cm, .string s] W fun e X => ∃ pv cv, e = .returned (.slice pv (Mp.lessS s p.cn.mems).length cv) ∧ X.frozen? ⟨bx, 2, none⟩ = false ∧ B4 bx (.string p.cn.space) (.string p.cn.name) (.slice p.pm p.cn.mems.length p.cm) (.slice p.pp p.cn.posts.length p.cp) X ∧ B4 bx (.string p.cn.space) (.string p.cn.name) (.slice pv (Mp.lessS s p.cn.mems).length cv) (.slice p.pp p.cn.posts.length p.cp) (X.setCell ⟨bx, 2, none⟩ (.slice pv (Mp.lessS s p.cn.mems).length cv)) ∧ OffS u (X.setCell ⟨bx, 2, none⟩ (.slice pv (Mp.lessS s p.cn.mems).length cv)) (.slice q i c') i t' ∧ Tx (X.setCell ⟨bx, 2, none⟩ (.slice pv (Mp.lessS s p.cn.mems).length cv)) (.slice pv (Mp.lessS s p.cn.mems).length cv) (Mp.lessS s p.cn.mems) ∧ ∀ g, cBlk (.slice pv (Mp.lessS s p.cn.mems).length cv) = some g → u.heap.size ≤ g ∧ cBlk (.slice q i c') ≠ some g) := by
        refine (rWithout_c (y4.below hbW) y5 s).mono ?_
        rintro e X ⟨v', rfl, hM⟩
        obtain ⟨pv, cv, hv, _⟩ := RowC.form hM.2.1
        subst hv
        have hxX := hxb.below hM.1
        obtain ⟨o1, o2, o3⟩ := HS.out.2.2.box hbW hbx hsW hM
        exact ⟨pv, cv, rfl, (hM.1.frozen (p := ⟨bx, 2, none⟩) hxb.lt).trans hfb, hxX, hxX.set2 _, o1, o2, o3⟩
      clear hbr hl hbW hsW y4 y5 hfb
      go_upto_region 6 with fail
      rw [← hW, ← hbx]
      clear hW hbx y0 y1 y2 y3 n0 n1
      obtain ⟨x0, x1, x2, x3⟩ := hxb
      go_wp2_with fail
      refine Calls.mono HCl.out ?_
      rintro e X ⟨pv, cv, rfl, hf2, ⟨a0, a1, a2, a3⟩, ⟨d0, d1, d2, d3⟩, o1, o2, o3⟩
      have HO1 : Hid (OffS u (X.setCell ⟨bx, 2, none⟩ (.slice pv (Mp.lessS s p.cn.mems).length cv)) (.slice q i c') i t' ∧ Tx (X.setCell ⟨bx, 2, none⟩ (.slice pv (Mp.lessS s p.cn.mems).length cv)) (.slice pv (Mp.lessS s p.cn.mems).length cv) (Mp.lessS s p.cn.mems) ∧ ∀ g, cBlk (.slice pv (Mp.lessS s p.cn.mems).length cv) = some g → u.heap.size ≤ g ∧ cBlk (.slice q i c') ≠ some g) := ⟨o1, o2, o3⟩
      clear o1 o2 o3 x0 x1 x2 x3 HCl
      go_upto_region 7 with fail
      obtain ⟨Z, hZ⟩ : ∃ Z, Z = X.setCell ⟨bx, 2, none⟩ (.slice pv (Mp.lessS s p.cn.mems).length cv) := ⟨_, rfl⟩
      rw [← hZ] at HO1 d0 d1 d2 d3 ⊢
      clear hZ a0 a1 a2 a3 hf2
      have HMk : Hid (Mk u Z 4 (.slice q i c') i (lsC t')) := HO1.out.1.1
      obtain ⟨r1, r2, r3⟩ := (HMk.out).app (by decide) (t := 52) (e := 84) Try.underlying52 #[.string p.cn.space, .string p.cn.name, .slice pv (Mp.lessS s p.cn.mems).length cv, .slice p.pp p.cn.posts.length p.cp] rfl (fun u hu => by simp at hu; rcases hu with rfl | rfl | rfl | rfl <;> rfl)
      have HRowA : Hid (RowC (Z.alloc (.cells #[.string p.cn.space, .string p.cn.name, .slice pv (Mp.lessS s p.cn.mems).length cv, .slice p.pp p.cn.posts.length p.cp] 84)) 4 (.slice q i c') i (lsC t')) := r1
      have HSrcA : Hid (Src Try.prog 4 52 (.slice (some ⟨Z.heap.size, 0, none⟩) 1 1) 1 [.string p.cn.space, .string p.cn.name, .slice pv (Mp.lessS s p.cn.mems).length cv, .slice p.pp p.cn.posts.length p.cp] (Z.alloc (.cells #[.string p.cn.space, .string p.cn.name, .slice pv (Mp.lessS s p.cn.mems).length cv, .slice p.pp p.cn.posts.length p.cp] 84))) := r2
      have HEndA : Hid (∀ Y L', RowC Y 4 L' (i + 1) (lsC t' ++ [.string p.cn.space, .string p.cn.name, .slice pv (Mp.lessS s p.cn.mems).length cv, .slice p.pp p.cn.posts.length p.cp]) → (Z.alloc (.cells #[.string p.cn.space, .string p.cn.name, .slice pv (Mp.lessS s p.cn.mems).length cv, .slice p.pp p.cn.posts.length p.cp] 84)).grownBy Y (cBlk (.slice q i c')) → (∀ j, cBlk L' = some j → cBlk (.slice q i c') = some j ∨ Z.heap.size + 1 ≤ j) → ∃ p' c2, L' = .slice p' (i + 1) c2 ∧ Hid (Mk u Y 4 (.slice p' (i + 1) c2) (i + 1) (lsC t' ++ [.string p.cn.space, .string p.cn.name, .slice pv (Mp.lessS s p.cn.mems).length cv, .slice p.pp p.cn.posts.length p.cp])) ∧ Hid (∀ k, k < Z.heap.size → cBlk (.slice q i c') ≠ some k → Y.heap[k]? = Z.heap[k]?)) := fun Y L' a1 a2 a3 => r3 Y L' a1 a2 a3
      have hLA : Hid ((i + 1) * 80 ≤ 140737488355328 ∧ i + 1 ≤ maxLen) := by have h3 := HM.out; have h4 := him; unfold maxLen; exact ⟨by omega, by omega⟩
      clear r1 r2 r3 
      go_wp2_with (at_builtin; refine wpList_append_rowC rfl (.tmp 25) (.tmp 27) 52 52 84 rfl Try.underlying52 _ 4 80 infoCn rfl (.slice q i c') i (lsC t') rfl HRowA.out _ 1 _ rfl HSrcA.out hLA.out.1 hLA.out.2 ?qnextA)
      case qnextA =>
        intro L' YA a1 a2 a3
        obtain ⟨pA, cA, rfl, HCA, HKpA⟩ := HEndA.out YA L' a1 a2 a3
        have HBkA : Hid (∀ j, cBlk (.slice pA (i + 1) cA) = some j → cBlk (.slice q i c') = some j ∨ Z.heap.size + 1 ≤ j) := a3
        clear a1 a2 a3 HRowA HSrcA HEndA hLA
        have HN : Hid (i + 1 = (t' ++ [Rw.mk (Mp.lessC s p.cn) pv cv p.pp p.cp]).length ∧ ROff s (t.take (i + 1)) (t' ++ [Rw.mk (Mp.lessC s p.cn) pv cv p.pp p.cp]) ∧ OffS u YA (.slice pA (i + 1) cA) (i + 1) (t' ++ [Rw.mk (Mp.lessC s p.cn) pv cv p.pp p.cp])) := by
          refine ⟨by rw [List.length_append, ← HS.out.1]; rfl, HRo.out pv cv, HO1.out.1.snoc ?_ HKpA.out HBkA.out HO1.out.2.1 HO1.out.2.2⟩
          rw [lsC_snoc]
          exact HCA.out
        go_wp2
        go_roundw
        case rel => exact ⟨i + 1, cA, pA, _, by go_num, by omega, rfl, HN⟩
        case measure => simp [intOf]; omega
    · obtain rfl : i = m := by omega
      have HF : Hid (i = t'.length ∧ ROff s t t' ∧ OffS u wr (.slice q i c') i t') := by
        have h1 := HS.out
        rw [List.take_of_length_le (Nat.le_of_eq HM.out.1.symm)] at h1
        exact h1
      clear HS him hlt
      obtain ⟨hU1, hU2, hU3, hU4, hU5, hU6⟩ := HU.out
      have hsu := hU1.size
      have hbwX : Below w.heap.size w wr := hU1.trans (HF.out.2.2.1.1.mono hsu)
      obtain ⟨Z, hZ⟩ : ∃ Z, Z = wr.setCell ⟨bn, 0, none⟩ (.slice q i c') := ⟨_, rfl⟩
      have hZw : Below w.heap.size w Z := by rw [hZ]; exact hbwX.setCell (p := ⟨bn, 0, none⟩) hU2 _
      have hZn : Bq bn (.slice q i c') (.slice po no co) Z := by rw [hZ]; exact hbq.set0 _
      have hZr : Bq br (.slice none 0 0) (.slice none 0 0) Z := by rw [hZ]; exact hbr.keep (Below.heap_setCell _ _ _ _ hU6)
      have hZk : ∀ k, u.heap.size ≤ k → Z.heap[k]? = wr.heap[k]? := fun k hk => by rw [hZ]; exact Below.heap_setCell _ _ _ _ (by show k ≠ bn; omega)
      have HCl : Hid (Calls Try.prog 64 #[.slice po no co, .string s] Z fun e X => ∃ p2 c2, e = .returned (.slice p2 (Mp.insS s off).length c2) ∧ Bq bn (.slice q i c') (.slice po no co) X ∧ Bq bn (.slice q i c') (.slice p2 (Mp.insS s off).length c2) (X.setCell ⟨bn, 1, none⟩ (.slice p2 (Mp.insS s off).length c2)) ∧ Bq br (.slice none 0 0) (.slice none 0 0) (X.setCell ⟨bn, 1, none⟩ (.slice p2 (Mp.insS s off).length c2)) ∧ Bq br (.slice q i c') (.slice p2 (Mp.insS s off).length c2) (fn2 (X.setCell ⟨bn, 1, none⟩ (.slice p2 (Mp.insS s off).length c2)) br (.slice q i c') (.slice p2 (Mp.insS s off).length c2)) ∧ OffOut w t off s (.returned (.agg #[.slice q i c', .slice p2 (Mp.insS s off).length c2])) (fn2 (X.setCell ⟨bn, 1, none⟩ (.slice p2 (Mp.insS s off).length c2)) br (.slice q i c') (.slice p2 (Mp.insS s off).length c2))) := by
        refine (HO.out Z hZw).mono ?_
        rintro e X ⟨p2, c2, rfl, hM⟩
        have hzs : Z.heap.size = wr.heap.size := by rw [hZ]; exact size_set9 _ _ _
        have hnX := hZn.below hM.1
        have hrX := (hZr.below hM.1).keep (Y := X.setCell ⟨bn, 1, none⟩ (.slice p2 (Mp.insS s off).length c2)) (Below.heap_setCell _ _ _ _ hU6)
        have hXw : Below w.heap.size w X := hZw.trans (hM.1.mono hZw.size)
        have hwu := HF.out.2.2.1.1.size
        have hkp : ∀ k, u.heap.size ≤ k → k < wr.heap.size → (fn2 (X.setCell ⟨bn, 1, none⟩ (.slice p2 (Mp.insS s off).length c2)) br (.slice q i c') (.slice p2 (Mp.insS s off).length c2)).heap[k]? = wr.heap[k]? := fun k h1 h2 => by
          rw [fn2_other (by omega), Below.heap_setCell _ _ _ _ (by show k ≠ bn; omega), hM.1.block k (by omega), hZk k h1]
        refine ⟨p2, c2, rfl, hnX, hnX.set1 _, hrX, hrX.fin _ _, q, c', p2, c2, t', by rw [← HF.out.1], fn2_below (hXw.setCell (p := ⟨bn, 1, none⟩) hU2 _) hU4 _ _, ?_, ?_, fun g hg => ?_, fun g hg => ?_, HF.out.2.1, fun p hp => ⟨(HF.out.2.2.2 p hp).1.keep (fun g hg => hkp g ((HF.out.2.2.2 p hp).2 g hg).1 (RowC.lt (HF.out.2.2.2 p hp).1 (by decide) hg)), fun g hg => Nat.le_trans hsu ((HF.out.2.2.2 p hp).2 g hg).1⟩⟩
        · have h1 := HF.out.2.2.1.2.1
          have h2 := RowC.carry h1 (w' := fn2 (X.setCell ⟨bn, 1, none⟩ (.slice p2 (Mp.insS s off).length c2)) br (.slice q i c') (.slice p2 (Mp.insS s off).length c2)) (fun g hg => hkp g (HF.out.2.2.1.2.2 g hg) (RowC.lt h1 (by decide) hg))
          unfold Ls9
          rw [← HF.out.1]
          exact h2
        · refine Tx.keep hM.2.1 (fun g hg => ?_)
          have := hM.2.2 g hg
          rw [fn2_other (by omega), Below.heap_setCell _ _ _ _ (by show g ≠ bn; omega)]
        · rw [← HF.out.1] at hg
          exact Nat.le_trans hsu (HF.out.2.2.1.2.2 g hg)
        · have := hM.2.2 g hg
          omega
      obtain ⟨n0, n1, f0, f1⟩ := hbq
      clear hZw hZr hZk hbwX hsu hU1 hU2 hU3 hU4 hU5 hU6 hbr
      go_upto_region 9 with fail
      rw [← hZ]
      clear hZ n0 n1 f0 f1
      obtain ⟨n0, n1, f0, f1⟩ := hZn
      go_wp2_with fail
      refine Calls.mono HCl.out ?_
      rintro e X ⟨p2, c2, rfl, ⟨a0, a1, a2, a3⟩, ⟨b0, b1, _, _⟩, ⟨z0, z1, h0, h1⟩, ⟨x0, x1, _, _⟩, hout⟩
      have HOut : Hid _ := HQ.out _ _ hout
      obtain ⟨F, hF⟩ : ∃ F, F = fn2 (X.setCell ⟨bn, 1, none⟩ (.slice p2 (Mp.insS s off).length c2)) br (.slice q i c') (.slice p2 (Mp.insS s off).length c2) := ⟨_, rfl⟩
      rw [← hF] at HOut x0 x1
      unfold fn2 at hF
      clear hout n0 n1 f0 f1 HCl
      go_wp2
      rw [← hF]
      clear hF
      refine bodyPost_ret (v := .agg #[.slice q i c', .slice p2 (Mp.insS s off).length c2]) ?qres rfl ?qpost
      case qres => simp [results, Try.results42, go_sem, x0, x1]
      case qpost => exact HOut.out

end
end Go.Proofs.Ytkioeahlajjmiaa

/-
  The document's model in memory; In; no.
-/
namespace Go.Proofs.Ytkioeahlajjmiaa
open Go.RowKit

/-- The parts of a document's model; its lists lie in blocks that L tells. -/
structure DvT (L : Nat → Prop) (w : World) (pl : Option Addr) (cl : Nat) (po : Option Addr) (co : Nat) (t : List Rw) (off : List ByteArray) : Prop where
  ls : Ls9 w (.slice pl t.length cl) t
  os : Tx w (.slice po off.length co) off
  rows : ∀ p ∈ t, Tx w p.vm p.cn.mems ∧ RowC w 2 p.vp p.cn.posts.length (poCells p.cn.posts)
  bl : ∀ g, cBlk (.slice pl t.length cl) = some g → L g
  bo : ∀ g, cBlk (.slice po off.length co) = some g → L g
  br : ∀ p ∈ t, (∀ g, cBlk p.vm = some g → L g) ∧ (∀ g, cBlk p.vp = some g → L g)
/-- A document's model. -/
def Dv (L : Nat → Prop) (w : World) (v : Value) (q : Mp.Dm) : Prop := ∃ pl cl po co t, v = .agg #[.slice pl t.length cl, .slice po q.off.length co] ∧ t.map (·.cn) = q.list ∧ DvT L w pl cl po co t q.off
section
variable {L : Nat → Prop} {w w' : World} {pl po : Option Addr} {cl co : Nat} {t : List Rw} {off : List ByteArray}
theorem DvT.carry (h : DvT L w pl cl po co t off) (hk : ∀ g, L g → g < w.heap.size → w'.heap[g]? = w.heap[g]?) : DvT L w' pl cl po co t off :=
  ⟨RowC.carry h.ls (fun g hg => hk g (h.bl g hg) (RowC.lt h.ls (by decide) hg)), h.os.keep (fun g hg => hk g (h.bo g hg) (RowC.lt h.os (by decide) hg)), fun p hp => ⟨(h.rows p hp).1.keep (fun g hg => hk g ((h.br p hp).1 g hg) (RowC.lt (h.rows p hp).1 (by decide) hg)), RowC.carry (h.rows p hp).2 (fun g hg => hk g ((h.br p hp).2 g hg) (RowC.lt (h.rows p hp).2 (by decide) hg))⟩, h.bl, h.bo, h.br⟩
theorem DvT.below (h : DvT L w pl cl po co t off) (hb : Below w.heap.size w w') : DvT L w' pl cl po co t off := h.carry (fun g _ hg => hb.block g hg)
theorem DvT.weak {L' : Nat → Prop} (h : DvT L w pl cl po co t off) (hl : ∀ g, L g → g < w.heap.size → L' g) : DvT L' w pl cl po co t off :=
  ⟨h.ls, h.os, h.rows, fun g hg => hl g (h.bl g hg) (RowC.lt h.ls (by decide) hg), fun g hg => hl g (h.bo g hg) (RowC.lt h.os (by decide) hg), fun p hp => ⟨fun g hg => hl g ((h.br p hp).1 g hg) (RowC.lt (h.rows p hp).1 (by decide) hg), fun g hg => hl g ((h.br p hp).2 g hg) (RowC.lt (h.rows p hp).2 (by decide) hg)⟩⟩
/-- Another list, of channels that are there already, and of one that lies there. -/
theorem DvT.relist (h : DvT L w pl cl po co t off) (hL : ∀ g, w.heap.size ≤ g → L g) {p' : Option Addr} {c' : Nat} {t' : List Rw} (hM : Mk w w' 4 (.slice p' t'.length c') t'.length (lsC t')) (hr : ∀ p ∈ t', p ∈ t ∨ ((Tx w' p.vm p.cn.mems ∧ RowC w' 2 p.vp p.cn.posts.length (poCells p.cn.posts)) ∧ (∀ g, cBlk p.vm = some g → L g) ∧ (∀ g, cBlk p.vp = some g → L g))) : DvT L w' p' c' po co t' off := by
  have hb := h.below hM.1
  refine ⟨hM.2.1, hb.os, fun p hp => ?_, fun g hg => hL g (hM.2.2 g hg), h.bo, fun p hp => ?_⟩
  · rcases hr p hp with e | e
    · exact hb.rows p e
    · exact e.1
  · rcases hr p hp with e | e
    · exact h.br p e
    · exact e.2
end

/-- How much there is. -/
def Sz (n : Nat) (q : Mp.Dm) : Prop := q.list.length ≤ n ∧ q.off.length ≤ n ∧ ∀ c ∈ q.list, c.mems.length ≤ n ∧ c.posts.length ≤ 1024
theorem ins_len {α K : Type} {key : α → K} {lt : K → K → Prop} [DecidableRel lt] (H : Mp.Lin lt) (c : α) (l : List α) : (Mp.ins key lt c l).length ≤ l.length + 1 := by
  unfold Mp.ins
  rw [List.length_append, List.length_cons]
  have : ∀ l : List α, (l.filter (fun x => decide (lt (key x) (key c)))).length + (l.filter (fun x => decide (lt (key c) (key x)))).length ≤ l.length := fun l => by
    induction l with
    | nil => simp
    | cons x l ih =>
      rw [List.filter_cons, List.filter_cons]
      by_cases a : lt (key x) (key c)
      · have b : ¬ lt (key c) (key x) := fun e => H.irr _ (H.tr _ _ _ a e)
        simp [a, b]
        omega
      · by_cases b : lt (key c) (key x)
        · simp [a, b]
          omega
        · simp [a, b]
          omega
  have := this l
  omega
theorem sorted_cn {t : List Rw} {l : List Mp.Cn} (h : t.map (·.cn) = l) (hs : Mp.Sorted Mp.Cn.key Mp.ltK l) : Mp.Sorted Rw.key Mp.ltK t := by
  unfold Mp.Sorted at hs ⊢
  rw [← h, List.pairwise_map] at hs
  exact hs
theorem ins_cn (r : Rw) (t : List Rw) : (Mp.ins Rw.key Mp.ltK r t).map (·.cn) = Mp.ins Mp.Cn.key Mp.ltK r.cn (t.map (·.cn)) := by
  unfold Mp.ins
  rw [List.map_append, List.map_cons, List.filter_map, List.filter_map]
  rfl

set_option maxHeartbeats 1600000 in
theorem In_yes {w : World} {u : Value} {l : List ByteArray} (hu : StrV w u l) (x : ByteArray) (hx : x ∈ l) : Calls Try.prog 15 #[u, .string x] w fun e w' => e = .returned (.bool true) ∧ Below w.heap.size w w' := by
  obtain ⟨p, c, rfl, q1, q2, q3⟩ := hu
  obtain ⟨m, hm⟩ : ∃ m, m = l.length := ⟨_, rfl⟩
  have HX : Hid (∀ k, k < m → ∃ y g off, l[k]? = some y ∧ p = some ⟨g, off, none⟩ ∧ ∀ X, Below w.heap.size w X → X.cell? ⟨g, off + k, none⟩ = some (.string y)) := fun k hk => by
    have hl : l ≠ [] := fun e => by rw [e] at hm; simp at hm; omega
    rcases q3 with q3 | ⟨g, off, hp, hc⟩
    · exact absurd q3 hl
    have hk' : k < l.length := by omega
    have a1 := hc k _ (List.getElem?_eq_getElem hk')
    exact ⟨_, g, off, List.getElem?_eq_getElem hk', hp, fun X hX => (hX.cell (p := ⟨g, off + k, none⟩) (World.block_lt_of_cell? _ _ a1)).trans a1⟩
  have HE : Hid (∃ k, k < m ∧ l[k]? = some x) := by
    obtain ⟨k, hk⟩ := List.getElem?_of_mem hx
    exact ⟨k, by have := (List.getElem?_eq_some_iff.1 hk).1; omega, hk⟩
  rw [← hm] at q1 ⊢
  unfold maxLen at q2
  clear q3 hm hx
  go_enter Try.func15, Try.ntmps15
  go_wp2
  go_loopw [5] (fun iv wr => ∃ k : Nat, iv = .int .i64 (k : Int) ∧ k ≤ m ∧ Hid (Below w.heap.size w wr ∧ ∀ j, j < k → l[j]? ≠ some x)) (fun iv _ => m - (intOf iv).toNat)
  case atStart => exact ⟨0, rfl, Nat.zero_le _, Below.refl _ _, fun j hj => by omega⟩
  case round =>
    obtain ⟨k, rfl, hk, HB⟩ := hrel
    by_cases hlt : k < m
    · obtain ⟨y, g, off, hl, hp, hc⟩ := HX.out k hlt
      subst hp
      have hk0 : (0 : Int) ≤ (k : Int) := by omega
      have hk1 : (k : Int) < (m : Int) := by omega
      have HS := hc wr HB.out.1
      have HSd := hc wr.drew HB.out.1.drew
      clear hc
      by_cases e : y = x
      · have hbe : (y.toList == x.toList) = true := by rw [beqB]; exact decide_eq_true e
        clear hl e
        go_wp2
        go_ret
        exact ⟨rfl, HB.out.1⟩
      · have hbe : (y.toList == x.toList) = false := by rw [beqB]; exact decide_eq_false e
        have HB' : Hid (Below w.heap.size w wr ∧ ∀ j, j < k + 1 → l[j]? ≠ some x) := ⟨HB.out.1, fun j hj => by
          by_cases h : j = k
          · rw [h, hl]; intro q; injection q with q; exact e q
          · exact HB.out.2 j (by omega)⟩
        clear hl e
        go_wp2
        go_roundw
        case rel => exact ⟨k + 1, by go_num, by omega, HB'⟩
        case measure => simp [intOf]; omega
    · exfalso
      obtain ⟨j, h1, h2⟩ := HE.out
      exact HB.out.2 j (by omega) h2

set_option maxHeartbeats 1600000 in
set_option maxRecDepth 20000 in
theorem no_c (w : World) (p1 : Option Addr) (n1 c1 : Nat) (p2 : Option Addr) (n2 c2 : Nat) (e : Int) : Calls Try.prog 38 #[.agg #[.slice p1 n1 c1, .slice p2 n2 c2], .int .i64 e] w fun x w' => x = .returned (.tuple #[.agg #[.slice p1 n1 c1, .slice p2 n2 c2], .agg #[.int .i64 e, .int .i64 0, .slice none 0 0]]) ∧ Below w.heap.size w w' := by
  go_enter Try.func38, Try.ntmps38
  go_wp2
  refine bodyPost_ret (v := .tuple #[.agg #[.slice p1 n1 c1, .slice p2 n2 c2], .agg #[.int .i64 e, .int .i64 0, .slice none 0 0]]) ?qres rfl ?qpost
  case qres => simp [results, Try.results38, go_sem]
  have b1 := below_alloc w (.cells #[.slice p1 n1 c1, .slice p2 n2 c2] 54)
  have b2 := below_alloc (w.alloc (.cells #[.slice p1 n1 c1, .slice p2 n2 c2] 54)) (.cells #[.slice p1 n1 c1, .slice p2 n2 c2] 54)
  have b3 := below_alloc ((w.alloc (.cells #[.slice p1 n1 c1, .slice p2 n2 c2] 54)).alloc (.cells #[.slice p1 n1 c1, .slice p2 n2 c2] 54)) (.cells #[.int .i64 e, .int .i64 0, .slice none 0 0] 29)
  exact ⟨rfl, (b1.trans (b2.mono b1.size)).trans (b3.mono (b1.trans (b2.mono b1.size)).size)⟩

/-! ### the boxes of Do and within -/
/-- A box of a reply. -/
structure R3 (b : Nat) (x y z : Value) (X : World) : Prop where
  c0 : X.cell? ⟨b, 0, none⟩ = some x
  c1 : X.cell? ⟨b, 1, none⟩ = some y
  c2 : X.cell? ⟨b, 2, none⟩ = some z
  f0 : X.frozen? ⟨b, 0, none⟩ = false
  f1 : X.frozen? ⟨b, 1, none⟩ = false
  f2 : X.frozen? ⟨b, 2, none⟩ = false
theorem R3.keep {b : Nat} {x y z : Value} {X Y : World} (h : R3 b x y z X) (hb : Y.heap[b]? = X.heap[b]?) : R3 b x y z Y :=
  ⟨(World.cell?_of_block (a := ⟨b, 0, none⟩) hb).trans h.c0, (World.cell?_of_block (a := ⟨b, 1, none⟩) hb).trans h.c1, (World.cell?_of_block (a := ⟨b, 2, none⟩) hb).trans h.c2, (World.frozen?_of_block (a := ⟨b, 0, none⟩) hb).trans h.f0, (World.frozen?_of_block (a := ⟨b, 1, none⟩) hb).trans h.f1, (World.frozen?_of_block (a := ⟨b, 2, none⟩) hb).trans h.f2⟩
theorem R3.lt {b : Nat} {x y z : Value} {X : World} (h : R3 b x y z X) : b < X.heap.size := World.block_lt_of_cell? _ _ h.c0
theorem R3.below {b : Nat} {x y z : Value} {X Y : World} (h : R3 b x y z X) (hb : Below X.heap.size X Y) : R3 b x y z Y := h.keep (hb.block b h.lt)
theorem R3.start (w : World) (x y z : Value) (t : TypeId) : R3 w.heap.size x y z (w.alloc (.cells #[x, y, z] t)) :=
  ⟨World.cell?_alloc_mark w _ _ _ 0, World.cell?_alloc_mark w _ _ _ 1, World.cell?_alloc_mark w _ _ _ 2, by rw [World.frozen?_alloc_mark]; simp, by rw [World.frozen?_alloc_mark]; simp, by rw [World.frozen?_alloc_mark]; simp⟩
theorem R3.set0 {b : Nat} {x y z : Value} {X : World} (h : R3 b x y z X) (a : Value) : R3 b a y z (X.setCell ⟨b, 0, none⟩ a) :=
  ⟨by rw [cell_set9 _ h.c0, if_pos rfl], by rw [cell_set9 _ h.c0, if_neg (by omega)]; exact h.c1, by rw [cell_set9 _ h.c0, if_neg (by omega)]; exact h.c2, by rw [World.frozen?_setCell]; exact h.f0, by rw [World.frozen?_setCell]; exact h.f1, by rw [World.frozen?_setCell]; exact h.f2⟩
theorem R3.set1 {b : Nat} {x y z : Value} {X : World} (h : R3 b x y z X) (a : Value) : R3 b x a z (X.setCell ⟨b, 1, none⟩ a) :=
  ⟨by rw [cell_set9 _ h.c1, if_neg (by omega)]; exact h.c0, by rw [cell_set9 _ h.c1, if_pos rfl], by rw [cell_set9 _ h.c1, if_neg (by omega)]; exact h.c2, by rw [World.frozen?_setCell]; exact h.f0, by rw [World.frozen?_setCell]; exact h.f1, by rw [World.frozen?_setCell]; exact h.f2⟩
theorem R3.set2 {b : Nat} {x y z : Value} {X : World} (h : R3 b x y z X) (a : Value) : R3 b x y a (X.setCell ⟨b, 2, none⟩ a) :=
  ⟨by rw [cell_set9 _ h.c2, if_neg (by omega)]; exact h.c0, by rw [cell_set9 _ h.c2, if_neg (by omega)]; exact h.c1, by rw [cell_set9 _ h.c2, if_pos rfl], by rw [World.frozen?_setCell]; exact h.f0, by rw [World.frozen?_setCell]; exact h.f1, by rw [World.frozen?_setCell]; exact h.f2⟩
/-- Both results are written. -/
def ex9 (Z : World) (br bp : Nat) (a b x y z : Value) : World := ((((Z.setCell ⟨br, 0, none⟩ a).setCell ⟨br, 1, none⟩ b).setCell ⟨bp, 0, none⟩ x).setCell ⟨bp, 1, none⟩ y).setCell ⟨bp, 2, none⟩ z
theorem ex9_cells {Z : World} {br bp : Nat} {r0 r1 e0 e1 e2 : Value} (hr : Bq br r0 r1 Z) (hp : R3 bp e0 e1 e2 Z) (hne : bp ≠ br) (a b x y z : Value) :
    R3 bp e0 e1 e2 ((Z.setCell ⟨br, 0, none⟩ a).setCell ⟨br, 1, none⟩ b) ∧ Bq br a b (ex9 Z br bp a b x y z) ∧ R3 bp x y z (ex9 Z br bp a b x y z) := by
  have h1 : R3 bp e0 e1 e2 ((Z.setCell ⟨br, 0, none⟩ a).setCell ⟨br, 1, none⟩ b) := hp.keep (by rw [Below.heap_setCell _ _ _ _ hne, Below.heap_setCell _ _ _ _ hne])
  refine ⟨h1, ((hr.set0 a).set1 b).keep ?_, ((h1.set0 x).set1 y).set2 z⟩
  unfold ex9
  rw [Below.heap_setCell _ _ _ _ hne.symm, Below.heap_setCell _ _ _ _ hne.symm, Below.heap_setCell _ _ _ _ hne.symm]
theorem ex9_below {w Z : World} {br bp : Nat} (hb : Below w.heap.size w Z) (h1 : w.heap.size ≤ br) (h2 : w.heap.size ≤ bp) (a b x y z : Value) : Below w.heap.size w (ex9 Z br bp a b x y z) :=
  ((((hb.setCell (p := ⟨br, 0, none⟩) h1 _).setCell (p := ⟨br, 1, none⟩) h1 _).setCell (p := ⟨bp, 0, none⟩) h2 _).setCell (p := ⟨bp, 1, none⟩) h2 _).setCell (p := ⟨bp, 2, none⟩) h2 _
theorem ex9_other {Z : World} {br bp k : Nat} (h1 : k ≠ br) (h2 : k ≠ bp) (a b x y z : Value) : (ex9 Z br bp a b x y z).heap[k]? = Z.heap[k]? := by
  unfold ex9
  rw [Below.heap_setCell _ _ _ _ h2, Below.heap_setCell _ _ _ _ h2, Below.heap_setCell _ _ _ _ h2, Below.heap_setCell _ _ _ _ h1, Below.heap_setCell _ _ _ _ h1]

/-- What Do leaves. -/
def DoR (L : Nat → Prop) (w : World) (D : Mp.Dm × Mo.Re) (e : Ending) (w' : World) : Prop := ∃ v' pr cr, e = .returned (.tuple #[v', .agg #[.int .i64 D.2.err, .int .i64 D.2.at_, .slice pr D.2.posts.length cr]]) ∧ RowC w' 2 (.slice pr D.2.posts.length cr) D.2.posts.length (poCells D.2.posts) ∧ (∀ g, cBlk (.slice pr D.2.posts.length cr) = some g → L g) ∧ Dv L w' v' D.1 ∧ Below w.heap.size w w'

/-- The boxes of within. -/
structure Wi (bn bc bo br bp : Nat) (a b x y z v : Value) (o : Mo.Op) (X : World) : Prop where
  m : Bq bn a b X
  c : B4 bc x y z v X
  cf : ∀ j, X.frozen? ⟨bc, j, none⟩ = false
  o0 : X.cell? ⟨bo, 0, none⟩ = some (.int .i64 o.kind)
  o1 : X.cell? ⟨bo, 1, none⟩ = some (.string o.space)
  o2 : X.cell? ⟨bo, 2, none⟩ = some (.string o.channel)
  o3 : X.cell? ⟨bo, 3, none⟩ = some (.string o.user)
  o4 : X.cell? ⟨bo, 4, none⟩ = some (.string o.text)
  o5 : X.cell? ⟨bo, 5, none⟩ = some (.string o.toSpace)
  o6 : X.cell? ⟨bo, 6, none⟩ = some (.string o.to)
  o7 : X.cell? ⟨bo, 7, none⟩ = some (.int .i64 o.frm)
  o8 : X.cell? ⟨bo, 8, none⟩ = some (.int .i64 o.most)
  r : Bq br (.slice none 0 0) (.slice none 0 0) X
  p : R3 bp (.int .i64 0) (.int .i64 0) (.slice none 0 0) X
theorem Wi.keep {bn bc bo br bp : Nat} {a b x y z v : Value} {o : Mo.Op} {X Y : World} (h : Wi bn bc bo br bp a b x y z v o X) (hn : Y.heap[bn]? = X.heap[bn]?) (hc : Y.heap[bc]? = X.heap[bc]?) (ho : Y.heap[bo]? = X.heap[bo]?) (hr : Y.heap[br]? = X.heap[br]?) (hp : Y.heap[bp]? = X.heap[bp]?) : Wi bn bc bo br bp a b x y z v o Y :=
  ⟨h.m.keep hn, h.c.keep hc, fun j => (World.frozen?_of_block (a := ⟨bc, j, none⟩) hc).trans (h.cf j), (World.cell?_of_block (a := ⟨bo, 0, none⟩) ho).trans h.o0, (World.cell?_of_block (a := ⟨bo, 1, none⟩) ho).trans h.o1, (World.cell?_of_block (a := ⟨bo, 2, none⟩) ho).trans h.o2, (World.cell?_of_block (a := ⟨bo, 3, none⟩) ho).trans h.o3, (World.cell?_of_block (a := ⟨bo, 4, none⟩) ho).trans h.o4, (World.cell?_of_block (a := ⟨bo, 5, none⟩) ho).trans h.o5, (World.cell?_of_block (a := ⟨bo, 6, none⟩) ho).trans h.o6, (World.cell?_of_block (a := ⟨bo, 7, none⟩) ho).trans h.o7, (World.cell?_of_block (a := ⟨bo, 8, none⟩) ho).trans h.o8, h.r.keep hr, h.p.keep hp⟩
theorem Wi.below {bn bc bo br bp : Nat} {a b x y z v : Value} {o : Mo.Op} {X Y : World} (h : Wi bn bc bo br bp a b x y z v o X) (hb : Below X.heap.size X Y) : Wi bn bc bo br bp a b x y z v o Y :=
  h.keep (hb.block _ h.m.lt) (hb.block _ h.c.lt) (hb.block _ (World.block_lt_of_cell? _ _ h.o0)) (hb.block _ h.r.lt) (hb.block _ h.p.lt)
theorem Wi.start (w : World) (a b x y z v : Value) (o : Mo.Op) : ∃ u, u = ((((w.alloc (.cells #[a, b] 54)).alloc (.cells #[x, y, z, v] 84)).alloc (.cells #[.int .i64 o.kind, .string o.space, .string o.channel, .string o.user, .string o.text, .string o.toSpace, .string o.to, .int .i64 o.frm, .int .i64 o.most] 32)).alloc (.cells #[.slice none 0 0, .slice none 0 0] 54)).alloc (.cells #[.int .i64 0, .int .i64 0, .slice none 0 0] 29) ∧ Below w.heap.size w u ∧ u.heap.size = w.heap.size + 5 ∧ Wi w.heap.size (w.heap.size + 1) (w.heap.size + 1 + 1) (w.heap.size + 1 + 1 + 1) (w.heap.size + 1 + 1 + 1 + 1) a b x y z v o u := by
  obtain ⟨u0, hu0⟩ : ∃ u0, u0 = w.alloc (.cells #[a, b] 54) := ⟨_, rfl⟩
  obtain ⟨u1, hu1⟩ : ∃ u1, u1 = u0.alloc (.cells #[x, y, z, v] 84) := ⟨_, rfl⟩
  obtain ⟨u2, hu2⟩ : ∃ u2, u2 = u1.alloc (.cells #[.int .i64 o.kind, .string o.space, .string o.channel, .string o.user, .string o.text, .string o.toSpace, .string o.to, .int .i64 o.frm, .int .i64 o.most] 32) := ⟨_, rfl⟩
  obtain ⟨u3, hu3⟩ : ∃ u3, u3 = u2.alloc (.cells #[.slice none 0 0, .slice none 0 0] 54) := ⟨_, rfl⟩
  obtain ⟨u, hu⟩ : ∃ u, u = u3.alloc (.cells #[.int .i64 0, .int .i64 0, .slice none 0 0] 29) := ⟨_, rfl⟩
  have s0 : u0.heap.size = w.heap.size + 1 := by rw [hu0]; simp
  have s1 : u1.heap.size = w.heap.size + 1 + 1 := by rw [hu1]; simp [s0]
  have s2 : u2.heap.size = w.heap.size + 1 + 1 + 1 := by rw [hu2]; simp [s1]
  have s3 : u3.heap.size = w.heap.size + 1 + 1 + 1 + 1 := by rw [hu3]; simp [s2]
  have s4 : u.heap.size = w.heap.size + 1 + 1 + 1 + 1 + 1 := by rw [hu]; simp [s3]
  have b0 : Below w.heap.size w u0 := by rw [hu0]; exact below_alloc _ _
  have b1 : Below u0.heap.size u0 u1 := by rw [hu1]; exact below_alloc _ _
  have b2 : Below u1.heap.size u1 u2 := by rw [hu2]; exact below_alloc _ _
  have b3 : Below u2.heap.size u2 u3 := by rw [hu3]; exact below_alloc _ _
  have b4 : Below u3.heap.size u3 u := by rw [hu]; exact below_alloc _ _
  have c3 : Below u2.heap.size u2 u := b3.trans (b4.mono b3.size)
  have c2 : Below u1.heap.size u1 u := b2.trans (c3.mono b2.size)
  have c1 : Below u0.heap.size u0 u := b1.trans (c2.mono b1.size)
  have c0 : Below w.heap.size w u := b0.trans (c1.mono b0.size)
  have k0 : Bq w.heap.size a b u0 := by rw [hu0]; exact Bq.start _ _ _ _
  have k1 : B4 u0.heap.size x y z v u1 := by rw [hu1]; exact B4.start _ _ _ _ _ _
  have f1 : ∀ j, u1.frozen? ⟨u0.heap.size, j, none⟩ = false := fun j => by rw [hu1, World.frozen?_alloc_mark]; simp
  have k2 : ∀ j : Nat, u2.cell? ⟨u1.heap.size, j, none⟩ = (#[.int .i64 o.kind, .string o.space, .string o.channel, .string o.user, .string o.text, .string o.toSpace, .string o.to, .int .i64 o.frm, .int .i64 o.most] : Array Value)[j]? := fun j => by rw [hu2]; exact World.cell?_alloc_mark u1 _ _ _ j
  have l2 : u1.heap.size < u2.heap.size := by omega
  have k3 : Bq u2.heap.size (.slice none 0 0) (.slice none 0 0) u3 := by rw [hu3]; exact Bq.start _ _ _ _
  have k4 : R3 u3.heap.size (.int .i64 0) (.int .i64 0) (.slice none 0 0) u := by rw [hu]; exact R3.start _ _ _ _ _
  have q2 : ∀ j : Nat, u.cell? ⟨u1.heap.size, j, none⟩ = (#[.int .i64 o.kind, .string o.space, .string o.channel, .string o.user, .string o.text, .string o.toSpace, .string o.to, .int .i64 o.frm, .int .i64 o.most] : Array Value)[j]? := fun j => (c3.cell (p := ⟨u1.heap.size, j, none⟩) l2).trans (k2 j)
  have hl1 := k1.lt
  have k1 := k1.below c2
  have f1' : ∀ j, u.frozen? ⟨u0.heap.size, j, none⟩ = false := fun j => (c2.frozen (p := ⟨u0.heap.size, j, none⟩) hl1).trans (f1 j)
  have k3 := k3.below b4
  rw [s0] at k1 f1'
  rw [s1] at q2
  rw [s2] at k3
  rw [s3] at k4
  refine ⟨u, by rw [hu, hu3, hu2, hu1, hu0], c0, by omega, k0.below c1, k1, f1', q2 0, q2 1, q2 2, q2 3, q2 4, q2 5, q2 6, q2 7, q2 8, k3, k4⟩

end Go.Proofs.Ytkioeahlajjmiaa

/-
  How much a document's model holds grows by one a step.
-/
namespace Go.Proofs.Ytkioeahlajjmiaa
open Go.RowKit

theorem Sz.mono {n m : Nat} {q : Mp.Dm} (h : Sz n q) (hn : n ≤ m) : Sz m q := ⟨Nat.le_trans h.1 hn, Nat.le_trans h.2.1 hn, fun c hc => ⟨Nat.le_trans (h.2.2 c hc).1 hn, (h.2.2 c hc).2⟩⟩
theorem Sz.put {n : Nat} {q : Mp.Dm} (h : Sz n q) (c : Mp.Cn) (hm : c.mems.length ≤ n + 1) (hp : c.posts.length ≤ 1024) : Sz (n + 1) (Mp.put q c) := by
  refine ⟨Nat.le_trans (ins_len Mp.linK c q.list) (by have := h.1; omega), by have := h.2.1; show q.off.length ≤ n + 1; omega, fun d hd => ?_⟩
  rcases (Mp.ins_mem Mp.linK).1 hd with e | e
  · rw [e]; exact ⟨hm, hp⟩
  · exact ((h.mono (Nat.le_succ n)).2.2 d e.1)
theorem Sz.drop {n : Nat} {q : Mp.Dm} (h : Sz n q) (x y : ByteArray) : Sz n (Mp.drop q x y) := ⟨Nat.le_trans (List.length_filter_le _ _) h.1, h.2.1, fun c hc => h.2.2 c (List.mem_filter.1 hc).1⟩
theorem Sz.close {n : Nat} {q : Mp.Dm} (h : Sz n q) (x : ByteArray) : Sz n (Mp.close q x) := ⟨Nat.le_trans (List.length_filter_le _ _) h.1, h.2.1, fun c hc => h.2.2 c (List.mem_filter.1 hc).1⟩
theorem Sz.offs {n : Nat} {q : Mp.Dm} (h : Sz n q) (u : ByteArray) : Sz (n + 1) (Mp.offD q u) := by
  refine ⟨?_, Nat.le_trans (ins_len Mp.linB u q.off) (by have := h.2.1; omega), fun c hc => ?_⟩
  · show (q.list.map (Mp.lessC u)).length ≤ n + 1
    rw [List.length_map]
    have := h.1
    omega
  · obtain ⟨d, hd, rfl⟩ := List.mem_map.1 hc
    have h1 := (h.2.2 d hd).1
    have h2 : (Mp.lessS u d.mems).length ≤ d.mems.length := List.length_filter_le _ _
    exact ⟨by show (Mp.lessS u d.mems).length ≤ n + 1; omega, (h.2.2 d hd).2⟩
theorem Sz.inner {n : Nat} {q : Mp.Dm} (h : Sz n q) {c : Mp.Cn} (hc : c ∈ q.list) (o : Mo.Op) : Sz (n + 1) (Mp.inner q c o).1 := by
  have h1 := h.mono (Nat.le_succ n)
  have hcm := (h.2.2 c hc).1
  have hcp := (h.2.2 c hc).2
  unfold Mp.inner
  split
  · split
    · exact h1
    · split
      · exact h1
      · exact h.put _ (Nat.le_trans (ins_len Mp.linB o.user c.mems) (by omega)) hcp
  · split
    · split
      · exact h1
      · split
        · exact h1
        · split
          · exact h1
          · exact h.put _ (by show c.mems.length ≤ n + 1; omega) (by show (c.posts ++ [_]).length ≤ 1024; rw [List.length_append]; show c.posts.length + 1 ≤ 1024; omega)
    · split
      · exact h1
      · split
        · exact h1
        · exact (h.drop o.space o.channel).put _ (by show c.mems.length ≤ n + 1; omega) hcp
theorem Sz.step {n : Nat} {q : Mp.Dm} (h : Sz n q) (o : Mo.Op) : Sz (n + 1) (Mp.dDo q o).1 := by
  have h1 := h.mono (Nat.le_succ n)
  unfold Mp.dDo
  split
  · exact h1
  · split
    · split
      · exact h1
      · exact h.put _ (by simp) (by simp)
    · split
      · exact h1.close _
      · split
        · split
          · exact h1
          · exact h.offs _
        · split
          · exact h1
          · rename_i c e
            exact h.inner (List.mem_of_find?_eq_some e) o
theorem Sz.nil : Sz 0 ⟨[], []⟩ := ⟨Nat.le_refl _, Nat.le_refl _, fun _ hc => (nomatch hc)⟩

end Go.Proofs.Ytkioeahlajjmiaa

/-
  The document's within: a user joins a channel.
-/
namespace Go.Proofs.Ytkioeahlajjmiaa
open Go.RowKit

theorem DoR.no {L : Nat → Prop} {w F : World} {pl po : Option Addr} {cl co : Nat} {t : List Rw} {off : List ByteArray} {q : Mp.Dm} (h : DvT L w pl cl po co t off) (hq : t.map (·.cn) = q.list) (hoff : off = q.off) (hb : Below w.heap.size w F) (e : Int) : DoR L w (q, ⟨e, 0, []⟩) (.returned (.tuple #[.agg #[.slice pl t.length cl, .slice po off.length co], .agg #[.int .i64 e, .int .i64 0, .slice none 0 0]])) F := by
  subst hoff
  exact ⟨_, none, 0, rfl, RowC.nil _ _ _, fun g hg => by simp [cBlk] at hg, ⟨pl, cl, po, co, t, rfl, hq, h.below hb⟩, hb⟩
theorem In_dec {w : World} {p : Option Addr} {m c : Nat} {l : List ByteArray} (h : Tx w (.slice p m c) l) (x : ByteArray) : Calls Try.prog 15 #[.slice p m c, .string x] w fun e w' => e = .returned (.bool (Mp.isIn x l)) ∧ Below w.heap.size w w' := by
  cases e : Mp.isIn x l with
  | true => exact In_yes h.strv x (Mp.isIn_iff.1 e)
  | false => exact In_c h.strv x (Mp.isIn_no.1 e)
theorem B4.set0 {b : Nat} {x y z v : Value} {X : World} (h : B4 b x y z v X) (a : Value) : B4 b a y z v (X.setCell ⟨b, 0, none⟩ a) :=
  ⟨by rw [cell_set9 _ h.1, if_pos rfl], by rw [cell_set9 _ h.1, if_neg (by omega)]; exact h.2.1, by rw [cell_set9 _ h.1, if_neg (by omega)]; exact h.2.2.1, by rw [cell_set9 _ h.1, if_neg (by omega)]; exact h.2.2.2⟩
theorem B4.set1 {b : Nat} {x y z v : Value} {X : World} (h : B4 b x y z v X) (a : Value) : B4 b x a z v (X.setCell ⟨b, 1, none⟩ a) :=
  ⟨by rw [cell_set9 _ h.2.1, if_neg (by omega)]; exact h.1, by rw [cell_set9 _ h.2.1, if_pos rfl], by rw [cell_set9 _ h.2.1, if_neg (by omega)]; exact h.2.2.1, by rw [cell_set9 _ h.2.1, if_neg (by omega)]; exact h.2.2.2⟩
theorem B4.set3 {b : Nat} {x y z v : Value} {X : World} (h : B4 b x y z v X) (a : Value) : B4 b x y z a (X.setCell ⟨b, 3, none⟩ a) :=
  ⟨by rw [cell_set9 _ h.2.2.2, if_neg (by omega)]; exact h.1, by rw [cell_set9 _ h.2.2.2, if_neg (by omega)]; exact h.2.1, by rw [cell_set9 _ h.2.2.2, if_neg (by omega)]; exact h.2.2.1, by rw [cell_set9 _ h.2.2.2, if_pos rfl]⟩
/-- The channel's box is another one. -/
theorem Wi.box {bn bc bo br bp : Nat} {a b x y z v x' y' z' v' : Value} {o : Mo.Op} {X : World} (h : Wi bn bc bo br bp a b x y z v o X) (k : Nat) (d : Value) (hne : bn ≠ bc ∧ bo ≠ bc ∧ br ≠ bc ∧ bp ≠ bc) (hc : B4 bc x' y' z' v' (X.setCell ⟨bc, k, none⟩ d)) : Wi bn bc bo br bp a b x' y' z' v' o (X.setCell ⟨bc, k, none⟩ d) := by
  have e1 : (X.setCell ⟨bc, k, none⟩ d).heap[bo]? = X.heap[bo]? := Below.heap_setCell _ _ _ _ hne.2.1
  exact ⟨h.m.keep (Below.heap_setCell _ _ _ _ hne.1), hc, fun j => by rw [World.frozen?_setCell]; exact h.cf j, (World.cell?_of_block (a := ⟨bo, 0, none⟩) e1).trans h.o0, (World.cell?_of_block (a := ⟨bo, 1, none⟩) e1).trans h.o1, (World.cell?_of_block (a := ⟨bo, 2, none⟩) e1).trans h.o2, (World.cell?_of_block (a := ⟨bo, 3, none⟩) e1).trans h.o3, (World.cell?_of_block (a := ⟨bo, 4, none⟩) e1).trans h.o4, (World.cell?_of_block (a := ⟨bo, 5, none⟩) e1).trans h.o5, (World.cell?_of_block (a := ⟨bo, 6, none⟩) e1).trans h.o6, (World.cell?_of_block (a := ⟨bo, 7, none⟩) e1).trans h.o7, (World.cell?_of_block (a := ⟨bo, 8, none⟩) e1).trans h.o8, h.r.keep (Below.heap_setCell _ _ _ _ hne.2.2.1), h.p.keep (Below.heap_setCell _ _ _ _ hne.2.2.2)⟩
/-- The end of a call that put a channel: the lists lie in none of the call's boxes. -/
theorem DoR.put {L : Nat → Prop} {w Z Y : World} {pl po p' : Option Addr} {cl co c' : Nat} {t : List Rw} {off : List ByteArray} {q : Mp.Dm} {r' : Rw} {br bp us : Nat} (h : DvT L w pl cl po co t off) (hq : t.map (·.cn) = q.list) (hoff : off = q.off) (hL : ∀ g, w.heap.size ≤ g → L g) (hZ : Below w.heap.size w Z) (hz : us ≤ Z.heap.size) (hbr : w.heap.size ≤ br ∧ br < us) (hbp : w.heap.size ≤ bp ∧ bp < us)
    (hM : Mk Z Y 4 (.slice p' (Mp.ins Rw.key Mp.ltK r' t).length c') (Mp.ins Rw.key Mp.ltK r' t).length (lsC (Mp.ins Rw.key Mp.ltK r' t))) (hr : (Tx Z r'.vm r'.cn.mems ∧ RowC Z 2 r'.vp r'.cn.posts.length (poCells r'.cn.posts)) ∧ (∀ g, cBlk r'.vm = some g → L g ∧ (g < w.heap.size ∨ us ≤ g)) ∧ (∀ g, cBlk r'.vp = some g → L g ∧ (g < w.heap.size ∨ us ≤ g))) (at_ : Int) :
    DoR L w (Mp.put q r'.cn, ⟨0, at_, []⟩) (.returned (.tuple #[.agg #[.slice p' (Mp.ins Rw.key Mp.ltK r' t).length c', .slice po off.length co], .agg #[.int .i64 0, .int .i64 at_, .slice none 0 0]])) (ex9 Y br bp (.slice p' (Mp.ins Rw.key Mp.ltK r' t).length c') (.slice po off.length co) (.int .i64 0) (.int .i64 at_) (.slice none 0 0)) := by
  subst hoff
  have h1 : DvT (fun g => L g ∧ (g < w.heap.size ∨ us ≤ g)) w pl cl po co t q.off := h.weak (fun g hg hl => ⟨hg, .inl hl⟩)
  have hw := hZ.size
  have hLZ : ∀ g, Z.heap.size ≤ g → L g ∧ (g < w.heap.size ∨ us ≤ g) := fun g hg => ⟨hL g (by omega), .inr (by omega)⟩
  have h2 := (h1.below hZ).relist hLZ hM (fun p hp => by
    rcases (Mp.ins_mem Mp.linK).1 hp with e | e
    · rw [e]
      exact .inr ⟨⟨hr.1.1.below hM.1, RowC.carry hr.1.2 (fun g hg => hM.1.block g (RowC.lt hr.1.2 (by decide) hg))⟩, hr.2⟩
    · exact .inl e.1)
  have hYw : Below w.heap.size w Y := hZ.trans (hM.1.mono hZ.size)
  have h3 := (h2.carry (w' := ex9 Y br bp (.slice p' (Mp.ins Rw.key Mp.ltK r' t).length c') (.slice po q.off.length co) (.int .i64 0) (.int .i64 at_) (.slice none 0 0)) (fun g hg _ => ex9_other (by omega) (by omega) _ _ _ _ _)).weak (L' := L) (fun g hg _ => hg.1)
  exact ⟨_, none, 0, rfl, RowC.nil _ _ _, fun g hg => by simp [cBlk] at hg, ⟨p', c', po, co, _, rfl, by rw [ins_cn, hq]; rfl, h3⟩, ex9_below hYw hbr.1 hbp.1 _ _ _ _ _⟩

set_option maxHeartbeats 6400000 in
set_option maxRecDepth 20000 in
theorem within2 {L : Nat → Prop} {w : World} {pl po : Option Addr} {cl co : Nat} {t : List Rw} {off : List ByteArray} {q : Mp.Dm} (h : DvT L w pl cl po co t off) (hq : t.map (·.cn) = q.list) (hoff : off = q.off) (hL : ∀ g, w.heap.size ≤ g → L g) {r : Rw} (hr : r ∈ t) (hso : Mp.Sorted Rw.key Mp.ltK t) (hn : t.length ≤ 1000000) (sp ch us te tt to : ByteArray) (fr mo : Int) (hmo : Mp.Sorted id Mp.ltB r.cn.mems) (hmn : r.cn.mems.length ≤ 1000000) :
    Calls Try.prog 43 #[.agg #[.slice pl t.length cl, .slice po off.length co], .agg #[.string r.cn.space, .string r.cn.name, .slice r.pm r.cn.mems.length r.cm, .slice r.pp r.cn.posts.length r.cp], .agg #[.int .i64 2, .string sp, .string ch, .string us, .string te, .string tt, .string to, .int .i64 fr, .int .i64 mo]] w (DoR L w (Mp.inner q r.cn ⟨2, sp, ch, us, te, tt, to, fr, mo⟩)) := by
  obtain ⟨u, hu, hbu, hus, hWi⟩ := Wi.start w (.slice pl t.length cl) (.slice po off.length co) (.string r.cn.space) (.string r.cn.name) (.slice r.pm r.cn.mems.length r.cm) (.slice r.pp r.cn.posts.length r.cp) ⟨2, sp, ch, us, te, tt, to, fr, mo⟩
  dsimp only at hu
  obtain ⟨bn, hbn⟩ : ∃ bn, bn = w.heap.size := ⟨_, rfl⟩
  obtain ⟨bc, hbc⟩ : ∃ bc, bc = w.heap.size + 1 := ⟨_, rfl⟩
  obtain ⟨bo, hbo⟩ : ∃ bo, bo = w.heap.size + 1 + 1 := ⟨_, rfl⟩
  obtain ⟨br, hbr⟩ : ∃ br, br = w.heap.size + 1 + 1 + 1 := ⟨_, rfl⟩
  obtain ⟨bp, hbp⟩ : ∃ bp, bp = w.heap.size + 1 + 1 + 1 + 1 := ⟨_, rfl⟩
  rw [← hbp, ← hbr, ← hbo, ← hbc, ← hbn] at hWi
  have HW : Hid (∀ X, Below u.heap.size u X → Wi bn bc bo br bp (.slice pl t.length cl) (.slice po off.length co) (.string r.cn.space) (.string r.cn.name) (.slice r.pm r.cn.mems.length r.cm) (.slice r.pp r.cn.posts.length r.cp) ⟨2, sp, ch, us, te, tt, to, fr, mo⟩ X) := fun X hX => hWi.below hX
  have HB : Hid (bn = w.heap.size ∧ bc = w.heap.size + 1 ∧ bo = w.heap.size + 2 ∧ br = w.heap.size + 3 ∧ bp = w.heap.size + 4 ∧ u.heap.size = w.heap.size + 5) := ⟨hbn, hbc, by omega, by omega, by omega, hus⟩
  have HU : Hid (Below w.heap.size w u) := hbu
  have HD : Hid (DvT L w pl cl po co t off) := h
  have HL : Hid (∀ g, w.heap.size ≤ g → L g) := hL
  have HE : Hid (t.map (·.cn) = q.list ∧ off = q.off ∧ r ∈ t ∧ Mp.Sorted Rw.key Mp.ltK t ∧ t.length ≤ 1000000) := ⟨hq, hoff, hr, hso, hn⟩
  generalize hQ : DoR L w (Mp.inner q r.cn ⟨2, sp, ch, us, te, tt, to, fr, mo⟩) = Q
  have HQ : Hid (∀ e w', DoR L w (Mp.inner q r.cn ⟨2, sp, ch, us, te, tt, to, fr, mo⟩) e w' → Q e w') := fun e w' h => by rw [← hQ]; exact h
  have HInO : Hid (∀ X, Below u.heap.size u X → Calls Try.prog 15 #[.slice po off.length co, .string us] X fun e w' => e = .returned (.bool (Mp.isIn us off)) ∧ Below X.heap.size X w') := fun X hX => In_dec (HD.out.os.below (HU.out.trans (hX.mono HU.out.size))) us
  have HInM : Hid (∀ X, Below u.heap.size u X → Calls Try.prog 15 #[.slice r.pm r.cn.mems.length r.cm, .string us] X fun e w' => e = .returned (.bool (Mp.isIn us r.cn.mems)) ∧ Below X.heap.size X w') := fun X hX => In_dec ((HD.out.rows r hr).1.below (HU.out.trans (hX.mono HU.out.size))) us
  have HWt : Hid (us ∉ r.cn.mems → ∀ X, Below u.heap.size u X → Calls Try.prog 64 #[.slice r.pm r.cn.mems.length r.cm, .string us] X fun e w' => ∃ pv cv, e = .returned (.slice pv (Mp.insS us r.cn.mems).length cv) ∧ Mk X w' 1 (.slice pv (Mp.insS us r.cn.mems).length cv) (Mp.insS us r.cn.mems).length (tx (Mp.insS us r.cn.mems))) := fun hnm X hX => by
    refine (rWith_c ((HD.out.rows r hr).1.below (HU.out.trans (hX.mono HU.out.size))) hmn us hnm hmo).mono ?_
    rintro e w' ⟨v', rfl, hM⟩
    obtain ⟨pv, cv, hv, _⟩ := RowC.form hM.2.1
    subst hv
    exact ⟨pv, cv, rfl, hM⟩
  clear h hbu hWi hQ hus hL hq hoff hr hso hn hmo hmn
  go_enter Try.func43, Try.ntmps43
  go_upto_region 3 with fail
  rw [← hu, ← hbp, ← hbr, ← hbo, ← hbc, ← hbn]
  clear hu hbp hbr hbo hbc hbn
  have H0 : Hid (Below u.heap.size u u) := Below.refl _ _
  have hw0 := HW.out u H0.out
  obtain ⟨⟨n0, n1, _, _⟩, _, _, _, _, _, o3, _, _, _, _, _, _, _⟩ := hw0

  go_wp2_with fail
  refine (HInO.out u H0.out).mono ?_
  rintro e I1 ⟨rfl, hbI1⟩
  have HI1 : Hid (Below u.heap.size u I1) := H0.out.trans (hbI1.mono H0.out.size)
  clear hbI1

  clear n0 n1 o3
  by_cases e1 : Mp.isIn us off = true
  · rw [e1]
    obtain ⟨n0, n1, _, _⟩ := (HW.out I1 HI1.out).m
    go_wp2_with fail
    refine (no_c I1 _ _ _ _ _ _ 92).mono ?_
    rintro e N1 ⟨rfl, hbN1⟩
    have HN1 : Hid (Below u.heap.size u N1) := HI1.out.trans (hbN1.mono HI1.out.size)
    clear hbN1 n0 n1

    obtain ⟨g1, g2, g3⟩ := ex9_cells (HW.out N1 HN1.out).r (HW.out N1 HN1.out).p (by have := HB.out; omega) (.slice pl t.length cl) (.slice po off.length co) (.int .i64 92) (.int .i64 0) (.slice none 0 0)
    have HOut : Hid (Q (.returned (.tuple #[.agg #[.slice pl t.length cl, .slice po off.length co], .agg #[.int .i64 92, .int .i64 0, .slice none 0 0]])) (ex9 N1 br bp (.slice pl t.length cl) (.slice po off.length co) (.int .i64 92) (.int .i64 0) (.slice none 0 0))) := HQ.out _ _ (by have e2 := e1; rw [HE.out.2.1] at e2; unfold Mp.inner; dsimp only; rw [if_pos rfl, if_pos e2]; exact DoR.no HD.out HE.out.1 HE.out.2.1 (ex9_below (HU.out.trans (HN1.out.mono HU.out.size)) (by have := HB.out; omega) (by have := HB.out; omega) _ _ _ _ _) _)
    obtain ⟨z0, z1, h0, h1⟩ := (HW.out N1 HN1.out).r
    obtain ⟨y0, y1, y2, j0, j1, j2⟩ := g1
    obtain ⟨x0, x1, _, _⟩ := g2
    obtain ⟨x2, x3, x4, _, _, _⟩ := g3
    obtain ⟨F, hF⟩ : ∃ F, F = ex9 N1 br bp (.slice pl t.length cl) (.slice po off.length co) (.int .i64 92) (.int .i64 0) (.slice none 0 0) := ⟨_, rfl⟩
    rw [← hF] at HOut x0 x1 x2 x3 x4
    unfold ex9 at hF
    go_wp2
    rw [← hF]
    clear hF
    refine bodyPost_ret (v := .tuple #[.agg #[.slice pl t.length cl, .slice po off.length co], .agg #[.int .i64 92, .int .i64 0, .slice none 0 0]]) ?qres rfl ?qpost
    case qres => simp [results, Try.results43, go_sem, x0, x1, x2, x3, x4]
    case qpost => exact HOut.out

  · rw [Bool.eq_false_iff.2 e1]
    obtain ⟨_, ⟨c0, c1, c2, c3⟩, _, _, _, _, o3, _, _, _, _, _, _, _⟩ := HW.out I1 HI1.out
    go_wp2_with fail
    refine (HInM.out I1 HI1.out).mono ?_
    rintro e I2 ⟨rfl, hbI2⟩
    have HI2 : Hid (Below u.heap.size u I2) := HI1.out.trans (hbI2.mono HI1.out.size)
    clear hbI2

    clear c0 c1 c2 c3 o3
    by_cases e2 : Mp.isIn us r.cn.mems = true
    · rw [e2]
      obtain ⟨n0, n1, _, _⟩ := (HW.out I2 HI2.out).m
      go_wp2_with fail
      refine (no_c I2 _ _ _ _ _ _ 90).mono ?_
      rintro e N2 ⟨rfl, hbN2⟩
      have HN2 : Hid (Below u.heap.size u N2) := HI2.out.trans (hbN2.mono HI2.out.size)
      clear hbN2 n0 n1

      obtain ⟨g1, g2, g3⟩ := ex9_cells (HW.out N2 HN2.out).r (HW.out N2 HN2.out).p (by have := HB.out; omega) (.slice pl t.length cl) (.slice po off.length co) (.int .i64 90) (.int .i64 0) (.slice none 0 0)
      have HOut : Hid (Q (.returned (.tuple #[.agg #[.slice pl t.length cl, .slice po off.length co], .agg #[.int .i64 90, .int .i64 0, .slice none 0 0]])) (ex9 N2 br bp (.slice pl t.length cl) (.slice po off.length co) (.int .i64 90) (.int .i64 0) (.slice none 0 0))) := HQ.out _ _ (by have e3 := e1; rw [HE.out.2.1] at e3; unfold Mp.inner; dsimp only; rw [if_pos rfl, if_neg e3, if_pos e2]; exact DoR.no HD.out HE.out.1 HE.out.2.1 (ex9_below (HU.out.trans (HN2.out.mono HU.out.size)) (by have := HB.out; omega) (by have := HB.out; omega) _ _ _ _ _) _)
      obtain ⟨z0, z1, h0, h1⟩ := (HW.out N2 HN2.out).r
      obtain ⟨y0, y1, y2, j0, j1, j2⟩ := g1
      obtain ⟨x0, x1, _, _⟩ := g2
      obtain ⟨x2, x3, x4, _, _, _⟩ := g3
      obtain ⟨F, hF⟩ : ∃ F, F = ex9 N2 br bp (.slice pl t.length cl) (.slice po off.length co) (.int .i64 90) (.int .i64 0) (.slice none 0 0) := ⟨_, rfl⟩
      rw [← hF] at HOut x0 x1 x2 x3 x4
      unfold ex9 at hF
      go_wp2
      rw [← hF]
      clear hF
      refine bodyPost_ret (v := .tuple #[.agg #[.slice pl t.length cl, .slice po off.length co], .agg #[.int .i64 90, .int .i64 0, .slice none 0 0]]) ?qres rfl ?qpost
      case qres => simp [results, Try.results43, go_sem, x0, x1, x2, x3, x4]
      case qpost => exact HOut.out

    · rw [Bool.eq_false_iff.2 e2]
      obtain ⟨_, ⟨c0, c1, c2, c3⟩, _, _, _, _, o3, _, _, _, _, _, _, _⟩ := HW.out I2 HI2.out
      go_wp2_with fail
      refine (HWt.out (fun q => e2 (Mp.isIn_iff.2 q)) I2 HI2.out).mono ?_
      rintro e X ⟨pv, cv, rfl, hM⟩
      have hXu : Below u.heap.size u X := HI2.out.trans (hM.1.mono HI2.out.size)
      have hwX := HW.out X hXu
      clear c0 c1 c2 c3 o3
      obtain ⟨Z, hZ⟩ : ∃ Z, Z = X.setCell ⟨bc, 2, none⟩ (.slice pv (Mp.insS us r.cn.mems).length cv) := ⟨_, rfl⟩
      have hWZ : Wi bn bc bo br bp (.slice pl t.length cl) (.slice po off.length co) (.string r.cn.space) (.string r.cn.name) (.slice pv (Mp.insS us r.cn.mems).length cv) (.slice r.pp r.cn.posts.length r.cp) ⟨2, sp, ch, us, te, tt, to, fr, mo⟩ Z := by rw [hZ]; exact hwX.box 2 _ (by have := HB.out; omega) (hwX.c.set2 _)
      have hZw : Below w.heap.size w Z := by rw [hZ]; exact (HU.out.trans (hXu.mono HU.out.size)).setCell (p := ⟨bc, 2, none⟩) (by show _ ≤ bc; have := HB.out; omega) _
      have hZs : Z.heap.size = X.heap.size := by rw [hZ]; exact size_set9 _ _ _
      have hTx : Tx Z (.slice pv (Mp.insS us r.cn.mems).length cv) (Mp.insS us r.cn.mems) := Tx.keep hM.2.1 (fun g hg => by
        rw [hZ]
        refine Below.heap_setCell _ _ _ _ ?_
        have h1 := hM.2.2 g hg
        have h2 := HI2.out.size
        have h3 := HB.out
        show g ≠ bc
        omega)
      have HZ : Hid (Below w.heap.size w Z ∧ u.heap.size ≤ Z.heap.size ∧ Tx Z (.slice pv (Mp.insS us r.cn.mems).length cv) (Mp.insS us r.cn.mems) ∧ ∀ g, cBlk (.slice pv (Mp.insS us r.cn.mems).length cv) = some g → u.heap.size ≤ g) := ⟨hZw, by rw [hZs]; exact hXu.size, hTx, fun g hg => Nat.le_trans HI2.out.size (hM.2.2 g hg)⟩
      have HWZ : Hid (∀ Y, Below Z.heap.size Z Y → Wi bn bc bo br bp (.slice pl t.length cl) (.slice po off.length co) (.string r.cn.space) (.string r.cn.name) (.slice pv (Mp.insS us r.cn.mems).length cv) (.slice r.pp r.cn.posts.length r.cp) ⟨2, sp, ch, us, te, tt, to, fr, mo⟩ Y) := fun Y hY => hWZ.below hY
      have HP : Hid _ := rPut_c (HD.out.ls.below hZw) HE.out.2.2.2.2 po off.length co ⟨⟨r.cn.space, r.cn.name, Mp.insS us r.cn.mems, r.cn.posts⟩, pv, cv, r.pp, r.cp⟩ HE.out.2.2.2.1
      dsimp only at HP
      obtain ⟨c0, c1, c2, c3⟩ := hwX.c
      have f2 := hwX.cf 2
      clear hM hXu hwX hZw hZs hTx
      go_upto_region 8 with fail
      rw [← hZ]
      clear hZ c0 c1 c2 c3 f2
      obtain ⟨⟨n0, n1, _, _⟩, ⟨c0, c1, c2, c3⟩, _, _, _, _, _, _, _, _, _, _, _, _⟩ := hWZ
      go_wp2_with fail
      refine Calls.mono HP.out ?_
      rintro e Y ⟨p', c', rfl, hM⟩
      have HM : Hid _ := hM
      have HbY : Hid (Below Z.heap.size Z Y) := hM.1
      clear hM n0 n1 c0 c1 c2 c3 HP
      obtain ⟨g1, g2, g3⟩ := ex9_cells (HWZ.out Y HbY.out).r (HWZ.out Y HbY.out).p (by have := HB.out; omega) (.slice p' (Mp.ins Rw.key Mp.ltK ⟨⟨r.cn.space, r.cn.name, Mp.insS us r.cn.mems, r.cn.posts⟩, pv, cv, r.pp, r.cp⟩ t).length c') (.slice po off.length co) (.int .i64 0) (.int .i64 0) (.slice none 0 0)
      have HOut : Hid (Q (.returned (.tuple #[.agg #[.slice p' (Mp.ins Rw.key Mp.ltK ⟨⟨r.cn.space, r.cn.name, Mp.insS us r.cn.mems, r.cn.posts⟩, pv, cv, r.pp, r.cp⟩ t).length c', .slice po off.length co], .agg #[.int .i64 0, .int .i64 0, .slice none 0 0]])) (ex9 Y br bp (.slice p' (Mp.ins Rw.key Mp.ltK ⟨⟨r.cn.space, r.cn.name, Mp.insS us r.cn.mems, r.cn.posts⟩, pv, cv, r.pp, r.cp⟩ t).length c') (.slice po off.length co) (.int .i64 0) (.int .i64 0) (.slice none 0 0))) := HQ.out _ _ (by
        have e3 := e1
        rw [HE.out.2.1] at e3
        have ei : Mp.inner q r.cn ⟨2, sp, ch, us, te, tt, to, fr, mo⟩ = (Mp.put q ⟨r.cn.space, r.cn.name, Mp.insS us r.cn.mems, r.cn.posts⟩, ⟨0, 0, []⟩) := by
          unfold Mp.inner
          dsimp only
          rw [if_pos rfl, if_neg e3, if_neg e2]
        rw [ei]
        have hrr := HD.out.rows r HE.out.2.2.1
        have hbr := HD.out.br r HE.out.2.2.1
        exact DoR.put HD.out HE.out.1 HE.out.2.1 HL.out HZ.out.1 HZ.out.2.1 (by have := HB.out; omega) (by have := HB.out; omega) (r' := ⟨⟨r.cn.space, r.cn.name, Mp.insS us r.cn.mems, r.cn.posts⟩, pv, cv, r.pp, r.cp⟩) HM.out ⟨⟨HZ.out.2.2.1, RowC.carry hrr.2 (fun g hg => HZ.out.1.block g (RowC.lt hrr.2 (by decide) hg))⟩, fun g hg => ⟨HL.out g (by have := HZ.out.2.2.2 g hg; have := HU.out.size; omega), .inr (HZ.out.2.2.2 g hg)⟩, fun g hg => ⟨hbr.2 g hg, .inl (RowC.lt hrr.2 (by decide) hg)⟩⟩ 0)
      obtain ⟨z0, z1, h0, h1⟩ := (HWZ.out Y HbY.out).r
      obtain ⟨y0, y1, y2, j0, j1, j2⟩ := g1
      obtain ⟨x0, x1, _, _⟩ := g2
      obtain ⟨x2, x3, x4, _, _, _⟩ := g3
      obtain ⟨F, hF⟩ : ∃ F, F = ex9 Y br bp (.slice p' (Mp.ins Rw.key Mp.ltK ⟨⟨r.cn.space, r.cn.name, Mp.insS us r.cn.mems, r.cn.posts⟩, pv, cv, r.pp, r.cp⟩ t).length c') (.slice po off.length co) (.int .i64 0) (.int .i64 0) (.slice none 0 0) := ⟨_, rfl⟩
      rw [← hF] at HOut x0 x1 x2 x3 x4
      unfold ex9 at hF
      go_wp2
      rw [← hF]
      clear hF
      refine bodyPost_ret (v := .tuple #[.agg #[.slice p' (Mp.ins Rw.key Mp.ltK ⟨⟨r.cn.space, r.cn.name, Mp.insS us r.cn.mems, r.cn.posts⟩, pv, cv, r.pp, r.cp⟩ t).length c', .slice po off.length co], .agg #[.int .i64 0, .int .i64 0, .slice none 0 0]]) ?qres rfl ?qpost
      case qres => simp [results, Try.results43, go_sem, x0, x1, x2, x3, x4]
      case qpost => exact HOut.out

end Go.Proofs.Ytkioeahlajjmiaa
