import Derived.Test.YtkioeahlajjmiaaMpB

/-
  The document's within: a user posts to a channel.
-/
namespace Go.Proofs.Ytkioeahlajjmiaa
open Go.RowKit

set_option maxHeartbeats 12800000 in
set_option maxRecDepth 20000 in
theorem within3 {L : Nat → Prop} {w : World} {pl po : Option Addr} {cl co : Nat} {t : List Rw} {off : List ByteArray} {q : Mp.Dm} (h : DvT L w pl cl po co t off) (hq : t.map (·.cn) = q.list) (hoff : off = q.off) (hL : ∀ g, w.heap.size ≤ g → L g) {r : Rw} (hr : r ∈ t) (hso : Mp.Sorted Rw.key Mp.ltK t) (hn : t.length ≤ 1000000) (sp ch us te tt to : ByteArray) (fr mo : Int) (hpn : r.cn.posts.length ≤ 1024) :
    Calls Try.prog 43 #[.agg #[.slice pl t.length cl, .slice po off.length co], .agg #[.string r.cn.space, .string r.cn.name, .slice r.pm r.cn.mems.length r.cm, .slice r.pp r.cn.posts.length r.cp], .agg #[.int .i64 3, .string sp, .string ch, .string us, .string te, .string tt, .string to, .int .i64 fr, .int .i64 mo]] w (DoR L w (Mp.inner q r.cn ⟨3, sp, ch, us, te, tt, to, fr, mo⟩)) := by
  obtain ⟨u, hu, hbu, hus, hWi⟩ := Wi.start w (.slice pl t.length cl) (.slice po off.length co) (.string r.cn.space) (.string r.cn.name) (.slice r.pm r.cn.mems.length r.cm) (.slice r.pp r.cn.posts.length r.cp) ⟨3, sp, ch, us, te, tt, to, fr, mo⟩
  dsimp only at hu
  obtain ⟨bn, hbn⟩ : ∃ bn, bn = w.heap.size := ⟨_, rfl⟩
  obtain ⟨bc, hbc⟩ : ∃ bc, bc = w.heap.size + 1 := ⟨_, rfl⟩
  obtain ⟨bo, hbo⟩ : ∃ bo, bo = w.heap.size + 1 + 1 := ⟨_, rfl⟩
  obtain ⟨br, hbr⟩ : ∃ br, br = w.heap.size + 1 + 1 + 1 := ⟨_, rfl⟩
  obtain ⟨bp, hbp⟩ : ∃ bp, bp = w.heap.size + 1 + 1 + 1 + 1 := ⟨_, rfl⟩
  rw [← hbp, ← hbr, ← hbo, ← hbc, ← hbn] at hWi
  have HW : Hid (∀ X, Below u.heap.size u X → Wi bn bc bo br bp (.slice pl t.length cl) (.slice po off.length co) (.string r.cn.space) (.string r.cn.name) (.slice r.pm r.cn.mems.length r.cm) (.slice r.pp r.cn.posts.length r.cp) ⟨3, sp, ch, us, te, tt, to, fr, mo⟩ X) := fun X hX => hWi.below hX
  have HB : Hid (bn = w.heap.size ∧ bc = w.heap.size + 1 ∧ bo = w.heap.size + 2 ∧ br = w.heap.size + 3 ∧ bp = w.heap.size + 4 ∧ u.heap.size = w.heap.size + 5) := ⟨hbn, hbc, by omega, by omega, by omega, hus⟩
  have HU : Hid (Below w.heap.size w u) := hbu
  have HD : Hid (DvT L w pl cl po co t off) := h
  have HL : Hid (∀ g, w.heap.size ≤ g → L g) := hL
  have HE : Hid (t.map (·.cn) = q.list ∧ off = q.off ∧ r ∈ t ∧ Mp.Sorted Rw.key Mp.ltK t ∧ t.length ≤ 1000000) := ⟨hq, hoff, hr, hso, hn⟩
  generalize hQ : DoR L w (Mp.inner q r.cn ⟨3, sp, ch, us, te, tt, to, fr, mo⟩) = Q
  have HQ : Hid (∀ e w', DoR L w (Mp.inner q r.cn ⟨3, sp, ch, us, te, tt, to, fr, mo⟩) e w' → Q e w') := fun e w' h => by rw [← hQ]; exact h
  have HInO : Hid (∀ X, Below u.heap.size u X → Calls Try.prog 15 #[.slice po off.length co, .string us] X fun e w' => e = .returned (.bool (Mp.isIn us off)) ∧ Below X.heap.size X w') := fun X hX => In_dec (HD.out.os.below (HU.out.trans (hX.mono HU.out.size))) us
  have HInM : Hid (∀ X, Below u.heap.size u X → Calls Try.prog 15 #[.slice r.pm r.cn.mems.length r.cm, .string us] X fun e w' => e = .returned (.bool (Mp.isIn us r.cn.mems)) ∧ Below X.heap.size X w') := fun X hX => In_dec ((HD.out.rows r hr).1.below (HU.out.trans (hX.mono HU.out.size))) us
  have HPs : Hid (∀ X, Below u.heap.size u X → Src Try.prog 2 27 (.slice r.pp r.cn.posts.length r.cp) r.cn.posts.length (poCells r.cn.posts) X) := fun X hX => (RowC.carry (HD.out.rows r hr).2 (fun g hg => (HU.out.trans (hX.mono HU.out.size)).block g (RowC.lt (HD.out.rows r hr).2 (by decide) hg))).src 27 35 Try.underlying27 (poCells_one _)
  obtain ⟨m, hm⟩ : ∃ m, m = r.cn.posts.length := ⟨_, rfl⟩
  have HPN : Hid (m = r.cn.posts.length ∧ r.cn.posts.length ≤ 1024) := ⟨hm, hpn⟩
  clear h hbu hWi hQ hus hL hq hoff hr hso hn hpn hm
  go_enter Try.func43, Try.ntmps43
  go_upto_region 10 with fail
  rw [← hu, ← hbp, ← hbr, ← hbo, ← hbc, ← hbn]
  clear hu hbp hbr hbo hbc hbn
  have H0 : Hid (Below u.heap.size u u) := Below.refl _ _
  have hw0 := HW.out u H0.out
  obtain ⟨⟨n0, n1, _, _⟩, _, _, _, _, _, o3, _, _, _, _, _, _, _⟩ := hw0

  go_wp2_with fail
  refine (HInO.out u H0.out).mono ?_
  rintro e I1 ⟨rfl, hbI1⟩
  have HI1 : Hid (Below u.heap.size u I1) := H0.out.trans (hbI1.mono H0.out.size)
  clear hbI1

  clear n0 n1 o3
  by_cases e1 : Mp.isIn us off = true
  · rw [e1]
    obtain ⟨n0, n1, _, _⟩ := (HW.out I1 HI1.out).m
    go_wp2_with fail
    refine (no_c I1 _ _ _ _ _ _ 92).mono ?_
    rintro e N1 ⟨rfl, hbN1⟩
    have HN1 : Hid (Below u.heap.size u N1) := HI1.out.trans (hbN1.mono HI1.out.size)
    clear hbN1 n0 n1

    obtain ⟨g1, g2, g3⟩ := ex9_cells (HW.out N1 HN1.out).r (HW.out N1 HN1.out).p (by have := HB.out; omega) (.slice pl t.length cl) (.slice po off.length co) (.int .i64 92) (.int .i64 0) (.slice none 0 0)
    have HOut : Hid (Q (.returned (.tuple #[.agg #[.slice pl t.length cl, .slice po off.length co], .agg #[.int .i64 92, .int .i64 0, .slice none 0 0]])) (ex9 N1 br bp (.slice pl t.length cl) (.slice po off.length co) (.int .i64 92) (.int .i64 0) (.slice none 0 0))) := HQ.out _ _ (by have e2 := e1; rw [HE.out.2.1] at e2; unfold Mp.inner; dsimp only; rw [if_neg (by decide), if_pos rfl, if_pos e2]; exact DoR.no HD.out HE.out.1 HE.out.2.1 (ex9_below (HU.out.trans (HN1.out.mono HU.out.size)) (by have := HB.out; omega) (by have := HB.out; omega) _ _ _ _ _) _)
    obtain ⟨z0, z1, h0, h1⟩ := (HW.out N1 HN1.out).r
    obtain ⟨y0, y1, y2, j0, j1, j2⟩ := g1
    obtain ⟨x0, x1, _, _⟩ := g2
    obtain ⟨x2, x3, x4, _, _, _⟩ := g3
    obtain ⟨F, hF⟩ : ∃ F, F = ex9 N1 br bp (.slice pl t.length cl) (.slice po off.length co) (.int .i64 92) (.int .i64 0) (.slice none 0 0) := ⟨_, rfl⟩
    rw [← hF] at HOut x0 x1 x2 x3 x4
    unfold ex9 at hF
    go_wp2
    rw [← hF]
    clear hF
    refine bodyPost_ret (v := .tuple #[.agg #[.slice pl t.length cl, .slice po off.length co], .agg #[.int .i64 92, .int .i64 0, .slice none 0 0]]) ?qres rfl ?qpost
    case qres => simp [results, Try.results43, go_sem, x0, x1, x2, x3, x4]
    case qpost => exact HOut.out

  · rw [Bool.eq_false_iff.2 e1]
    obtain ⟨_, ⟨c0, c1, c2, c3⟩, _, _, _, _, o3, _, _, _, _, _, _, _⟩ := HW.out I1 HI1.out
    go_wp2_with fail
    refine (HInM.out I1 HI1.out).mono ?_
    rintro e I2 ⟨rfl, hbI2⟩
    have HI2 : Hid (Below u.heap.size u I2) := HI1.out.trans (hbI2.mono HI1.out.size)
    clear hbI2

    clear c0 c1 c2 c3 o3
    by_cases e2 : Mp.isIn us r.cn.mems = true
    · rw [e2]
      obtain ⟨_, ⟨c0, c1, c2, c3⟩, _, _, _, _, _, _, _, _, _, _, _, _⟩ := HW.out I2 HI2.out
      by_cases e4 : 1024 ≤ r.cn.posts.length
      · have e5 : (1024 : Int) ≤ (r.cn.posts.length : Int) := by omega
        obtain ⟨n0, n1, _, _⟩ := (HW.out I2 HI2.out).m
        go_wp2_with fail
        refine (no_c I2 _ _ _ _ _ _ 2).mono ?_
        rintro e N2 ⟨rfl, hbN2⟩
        have HN2 : Hid (Below u.heap.size u N2) := HI2.out.trans (hbN2.mono HI2.out.size)
        clear hbN2 n0 n1

        obtain ⟨g1, g2, g3⟩ := ex9_cells (HW.out N2 HN2.out).r (HW.out N2 HN2.out).p (by have := HB.out; omega) (.slice pl t.length cl) (.slice po off.length co) (.int .i64 2) (.int .i64 0) (.slice none 0 0)
        have HOut : Hid (Q (.returned (.tuple #[.agg #[.slice pl t.length cl, .slice po off.length co], .agg #[.int .i64 2, .int .i64 0, .slice none 0 0]])) (ex9 N2 br bp (.slice pl t.length cl) (.slice po off.length co) (.int .i64 2) (.int .i64 0) (.slice none 0 0))) := HQ.out _ _ (by have e3 := e1; rw [HE.out.2.1] at e3; unfold Mp.inner; dsimp only; rw [if_neg (by decide), if_pos rfl, if_neg e3, if_neg (by rw [e2]; decide), if_pos e4]; exact DoR.no HD.out HE.out.1 HE.out.2.1 (ex9_below (HU.out.trans (HN2.out.mono HU.out.size)) (by have := HB.out; omega) (by have := HB.out; omega) _ _ _ _ _) _)
        obtain ⟨z0, z1, h0, h1⟩ := (HW.out N2 HN2.out).r
        obtain ⟨y0, y1, y2, j0, j1, j2⟩ := g1
        obtain ⟨x0, x1, _, _⟩ := g2
        obtain ⟨x2, x3, x4, _, _, _⟩ := g3
        obtain ⟨F, hF⟩ : ∃ F, F = ex9 N2 br bp (.slice pl t.length cl) (.slice po off.length co) (.int .i64 2) (.int .i64 0) (.slice none 0 0) := ⟨_, rfl⟩
        rw [← hF] at HOut x0 x1 x2 x3 x4
        unfold ex9 at hF
        go_wp2
        rw [← hF]
        clear hF
        refine bodyPost_ret (v := .tuple #[.agg #[.slice pl t.length cl, .slice po off.length co], .agg #[.int .i64 2, .int .i64 0, .slice none 0 0]]) ?qres rfl ?qpost
        case qres => simp [results, Try.results43, go_sem, x0, x1, x2, x3, x4]
        case qpost => exact HOut.out

      · have e5 : ¬ (1024 : Int) ≤ (r.cn.posts.length : Int) := by omega
        have HSrcP : Hid _ := HPs.out I2 HI2.out
        have HLP : Hid ((0 + r.cn.posts.length) * 32 ≤ 140737488355328 ∧ 0 + r.cn.posts.length ≤ maxLen) := by have := HPN.out; unfold maxLen; exact ⟨by omega, by omega⟩
        go_wp2_with (at_builtin; refine wpList_append_rowC rfl (.tmp 71) (.tmp 73) 27 27 35 rfl Try.underlying27 _ 2 32 infoPo rfl (.slice none 0 0) 0 [] rfl (RowC.nil _ _ _) _ r.cn.posts.length (poCells r.cn.posts) rfl HSrcP.out HLP.out.1 HLP.out.2 ?qnextP)
        case qnextP =>
          intro L' V a1 a2 a3
          try simp only [Nat.zero_add, List.nil_append] at a1
          obtain ⟨pQ, cQ, hv, _⟩ := a1.form
          subst hv
          have HMk : Hid (Mk u V 2 (.slice pQ r.cn.posts.length cQ) r.cn.posts.length (poCells r.cn.posts)) := ⟨HI2.out.grown a2 HI2.out.size (fun k hk => by simp [cBlk] at hk), a1, fun j hj => by
            rcases a3 j hj with e | e
            · simp [cBlk] at e
            · exact Nat.le_trans HI2.out.size e⟩
          have HY : Hid (Below u.heap.size u V) := HMk.out.1
          clear a1 a2 a3 HSrcP HLP c0 c1 c2 c3
          obtain ⟨_, ⟨c0, c1, c2, c3⟩, _, _, _, _, o3, o4, _, _, _, _, _, _⟩ := HW.out V HY.out
          clear c0 c1 c2 c3
          obtain ⟨r1, r2, r3⟩ := (HMk.out).app (by decide) (t := 27) (e := 35) Try.underlying27 #[.string us, .string te] rfl (fun u hu => by simp at hu; rcases hu with rfl | rfl <;> rfl)
          have HRowB : Hid (RowC (V.alloc (.cells #[.string us, .string te] 35)) 2 (.slice pQ r.cn.posts.length cQ) r.cn.posts.length (poCells r.cn.posts)) := r1
          have HSrcB : Hid (Src Try.prog 2 27 (.slice (some ⟨V.heap.size, 0, none⟩) 1 1) 1 [.string us, .string te] (V.alloc (.cells #[.string us, .string te] 35))) := r2
          have HEndB : Hid (∀ Y L', RowC Y 2 L' (r.cn.posts.length + 1) (poCells r.cn.posts ++ [.string us, .string te]) → (V.alloc (.cells #[.string us, .string te] 35)).grownBy Y (cBlk (.slice pQ r.cn.posts.length cQ)) → (∀ j, cBlk L' = some j → cBlk (.slice pQ r.cn.posts.length cQ) = some j ∨ V.heap.size + 1 ≤ j) → ∃ p' c2, L' = .slice p' (r.cn.posts.length + 1) c2 ∧ Hid (Mk u Y 2 (.slice p' (r.cn.posts.length + 1) c2) (r.cn.posts.length + 1) (poCells r.cn.posts ++ [.string us, .string te])) ∧ Hid (∀ k, k < V.heap.size → cBlk (.slice pQ r.cn.posts.length cQ) ≠ some k → Y.heap[k]? = V.heap[k]?)) := fun Y L' a1 a2 a3 => r3 Y L' a1 a2 a3
          have hLB : Hid ((r.cn.posts.length + 1) * 32 ≤ 140737488355328 ∧ r.cn.posts.length + 1 ≤ maxLen) := by have h1 := HPN.out; unfold maxLen; exact ⟨by omega, by omega⟩
          clear r1 r2 r3 
          go_wp2_with (at_builtin; refine wpList_append_rowC rfl (.tmp 75) (.tmp 81) 27 27 35 rfl Try.underlying27 _ 2 32 infoPo rfl (.slice pQ r.cn.posts.length cQ) r.cn.posts.length (poCells r.cn.posts) rfl HRowB.out _ 1 _ rfl HSrcB.out hLB.out.1 hLB.out.2 ?qnextB)
          case qnextB =>
            intro L' YB a1 a2 a3
            obtain ⟨pB, cB, rfl, HCB, HKpB⟩ := HEndB.out YB L' a1 a2 a3
            clear a1 a2 a3 HRowB HSrcB HEndB hLB
            have HZ0 : Hid (Below u.heap.size u YB) := HCB.out.1
            have hwX := HW.out YB HZ0.out
            obtain ⟨Z, hZ⟩ : ∃ Z, Z = YB.setCell ⟨bc, 3, none⟩ (.slice pB (r.cn.posts.length + 1) cB) := ⟨_, rfl⟩
            have hpl : (r.cn.posts ++ ([⟨us, te⟩] : List Mo.Po)).length = r.cn.posts.length + 1 := by simp
            have hWZ : Wi bn bc bo br bp (.slice pl t.length cl) (.slice po off.length co) (.string r.cn.space) (.string r.cn.name) (.slice r.pm r.cn.mems.length r.cm) (.slice pB (r.cn.posts.length + 1) cB) ⟨3, sp, ch, us, te, tt, to, fr, mo⟩ Z := by rw [hZ]; exact hwX.box 3 _ (by have := HB.out; omega) (hwX.c.set3 _)
            have hZw : Below w.heap.size w Z := by rw [hZ]; exact (HU.out.trans (HZ0.out.mono HU.out.size)).setCell (p := ⟨bc, 3, none⟩) (by show _ ≤ bc; have := HB.out; omega) _
            have hZs : Z.heap.size = YB.heap.size := by rw [hZ]; exact size_set9 _ _ _
            have hRw : RowC Z 2 (.slice pB (r.cn.posts ++ ([⟨us, te⟩] : List Mo.Po)).length cB) (r.cn.posts ++ ([⟨us, te⟩] : List Mo.Po)).length (poCells (r.cn.posts ++ ([⟨us, te⟩] : List Mo.Po))) := by
              rw [poCells_snoc, hpl]
              refine RowC.carry HCB.out.2.1 (fun g hg => ?_)
              rw [hZ]
              refine Below.heap_setCell _ _ _ _ ?_
              have h1 := HCB.out.2.2 g hg
              have h3 := HB.out
              show g ≠ bc
              omega
            have HZ : Hid (Below w.heap.size w Z ∧ u.heap.size ≤ Z.heap.size ∧ RowC Z 2 (.slice pB (r.cn.posts ++ ([⟨us, te⟩] : List Mo.Po)).length cB) (r.cn.posts ++ ([⟨us, te⟩] : List Mo.Po)).length (poCells (r.cn.posts ++ ([⟨us, te⟩] : List Mo.Po))) ∧ ∀ g, cBlk (.slice pB (r.cn.posts ++ ([⟨us, te⟩] : List Mo.Po)).length cB) = some g → u.heap.size ≤ g) := ⟨hZw, by rw [hZs]; exact HZ0.out.size, hRw, fun g hg => HCB.out.2.2 g (by rw [hpl] at hg; exact hg)⟩
            have HWZ : Hid (∀ Y, Below Z.heap.size Z Y → Wi bn bc bo br bp (.slice pl t.length cl) (.slice po off.length co) (.string r.cn.space) (.string r.cn.name) (.slice r.pm r.cn.mems.length r.cm) (.slice pB (r.cn.posts.length + 1) cB) ⟨3, sp, ch, us, te, tt, to, fr, mo⟩ Y) := fun Y hY => hWZ.below hY
            have HP : Hid (∀ X, Below Z.heap.size Z X → Calls Try.prog 40 #[.agg #[.slice pl t.length cl, .slice po off.length co], .agg #[.string r.cn.space, .string r.cn.name, .slice r.pm r.cn.mems.length r.cm, .slice pB (r.cn.posts.length + 1) cB]] X fun e Y => ∃ p' n' c', e = .returned (.agg #[.slice p' n' c', .slice po off.length co]) ∧ Below X.heap.size X Y ∧ Hid (n' = (Mp.ins Rw.key Mp.ltK (⟨⟨r.cn.space, r.cn.name, r.cn.mems, r.cn.posts ++ ([⟨us, te⟩] : List Mo.Po)⟩, r.pm, r.cm, pB, cB⟩ : Rw) t).length ∧ Mk X Y 4 (.slice p' (Mp.ins Rw.key Mp.ltK (⟨⟨r.cn.space, r.cn.name, r.cn.mems, r.cn.posts ++ ([⟨us, te⟩] : List Mo.Po)⟩, r.pm, r.cm, pB, cB⟩ : Rw) t).length c') (Mp.ins Rw.key Mp.ltK (⟨⟨r.cn.space, r.cn.name, r.cn.mems, r.cn.posts ++ ([⟨us, te⟩] : List Mo.Po)⟩, r.pm, r.cm, pB, cB⟩ : Rw) t).length (lsC (Mp.ins Rw.key Mp.ltK (⟨⟨r.cn.space, r.cn.name, r.cn.mems, r.cn.posts ++ ([⟨us, te⟩] : List Mo.Po)⟩, r.pm, r.cm, pB, cB⟩ : Rw) t)))) := fun X hX => by
              have h9 := rPut_c (HD.out.ls.below (HZ.out.1.trans (hX.mono HZ.out.1.size))) HE.out.2.2.2.2 po off.length co ⟨⟨r.cn.space, r.cn.name, r.cn.mems, r.cn.posts ++ ([⟨us, te⟩] : List Mo.Po)⟩, r.pm, r.cm, pB, cB⟩ HE.out.2.2.2.1
              dsimp only at h9
              rw [hpl] at h9
              refine h9.mono ?_
              rintro e Y ⟨p', c', rfl, hM⟩
              exact ⟨p', _, c', rfl, hM.1, rfl, hM⟩
            obtain ⟨c0, c1, c2, c3⟩ := hwX.c
            have f3 := hwX.cf 3
            clear hwX hZw hZs hRw hpl o3 o4
            go_upto_region 19 with fail
            rw [← hZ]
            clear hZ c0 c1 c2 c3 f3
            have HS : Hid (∀ X, Below Z.heap.size Z X → (X.cell? ⟨bn, 0, none⟩ = some (.slice pl t.length cl) ∧ X.cell? ⟨bn, 1, none⟩ = some (.slice po off.length co)) ∧ X.cell? ⟨bc, 0, none⟩ = some (.string r.cn.space) ∧ X.cell? ⟨bc, 1, none⟩ = some (.string r.cn.name) ∧ X.cell? ⟨bc, 2, none⟩ = some (.slice r.pm r.cn.mems.length r.cm) ∧ X.cell? ⟨bc, 3, none⟩ = some (.slice pB (r.cn.posts.length + 1) cB)) := fun X hX => by
              obtain ⟨⟨n0, n1, _, _⟩, ⟨c0, c1, c2, c3⟩, _, _, _, _, _, _, _, _, _, _, _, _⟩ := HWZ.out X hX
              exact ⟨⟨n0, n1⟩, c0, c1, c2, c3⟩
            have HKr : Hid (∀ (X : World) (k : Nat) (v : Value), ((X.cell? ⟨bn, 0, none⟩ = some (.slice pl t.length cl) ∧ X.cell? ⟨bn, 1, none⟩ = some (.slice po off.length co)) ∧ X.cell? ⟨bc, 0, none⟩ = some (.string r.cn.space) ∧ X.cell? ⟨bc, 1, none⟩ = some (.string r.cn.name) ∧ X.cell? ⟨bc, 2, none⟩ = some (.slice r.pm r.cn.mems.length r.cm) ∧ X.cell? ⟨bc, 3, none⟩ = some (.slice pB (r.cn.posts.length + 1) cB)) → (fun X : World => (X.cell? ⟨bn, 0, none⟩ = some (.slice pl t.length cl) ∧ X.cell? ⟨bn, 1, none⟩ = some (.slice po off.length co)) ∧ X.cell? ⟨bc, 0, none⟩ = some (.string r.cn.space) ∧ X.cell? ⟨bc, 1, none⟩ = some (.string r.cn.name) ∧ X.cell? ⟨bc, 2, none⟩ = some (.slice r.pm r.cn.mems.length r.cm) ∧ X.cell? ⟨bc, 3, none⟩ = some (.slice pB (r.cn.posts.length + 1) cB)) (X.setCell ⟨br, k, none⟩ v)) := fun X k v h => by
              have hne := HB.out
              have n1 : br ≠ bn := by omega
              have n2 : br ≠ bc := by omega
              simp only [World.cell?_setCell_far _ ⟨br, k, none⟩ ⟨bn, _, none⟩ _ n1, World.cell?_setCell_far _ ⟨br, k, none⟩ ⟨bc, _, none⟩ _ n2]
              exact h
            have HKp : Hid (∀ (X : World) (k : Nat) (v : Value), ((X.cell? ⟨bn, 0, none⟩ = some (.slice pl t.length cl) ∧ X.cell? ⟨bn, 1, none⟩ = some (.slice po off.length co)) ∧ X.cell? ⟨bc, 0, none⟩ = some (.string r.cn.space) ∧ X.cell? ⟨bc, 1, none⟩ = some (.string r.cn.name) ∧ X.cell? ⟨bc, 2, none⟩ = some (.slice r.pm r.cn.mems.length r.cm) ∧ X.cell? ⟨bc, 3, none⟩ = some (.slice pB (r.cn.posts.length + 1) cB)) → (fun X : World => (X.cell? ⟨bn, 0, none⟩ = some (.slice pl t.length cl) ∧ X.cell? ⟨bn, 1, none⟩ = some (.slice po off.length co)) ∧ X.cell? ⟨bc, 0, none⟩ = some (.string r.cn.space) ∧ X.cell? ⟨bc, 1, none⟩ = some (.string r.cn.name) ∧ X.cell? ⟨bc, 2, none⟩ = some (.slice r.pm r.cn.mems.length r.cm) ∧ X.cell? ⟨bc, 3, none⟩ = some (.slice pB (r.cn.posts.length + 1) cB)) (X.setCell ⟨bp, k, none⟩ v)) := fun X k v h => by
              have hne := HB.out
              have n1 : bp ≠ bn := by omega
              have n2 : bp ≠ bc := by omega
              simp only [World.cell?_setCell_far _ ⟨bp, k, none⟩ ⟨bn, _, none⟩ _ n1, World.cell?_setCell_far _ ⟨bp, k, none⟩ ⟨bc, _, none⟩ _ n2]
              exact h
            have hdz : Below Z.heap.size Z Z.drew := ⟨rfl, rfl, rfl, Nat.le_refl _, fun _ _ => rfl⟩
            have hwr : IntKind.i64.wrap (r.cn.posts.length : Int) = (r.cn.posts.length : Int) := by
              have h := HPN.out.2
              first | exact wraps_i64 _ (by omega) (by omega) | (simp [IntKind.wrap, IntKind.bits, IntKind.signed]; omega)
            go_region_held (fun X => (X.cell? ⟨bn, 0, none⟩ = some (.slice pl t.length cl) ∧ X.cell? ⟨bn, 1, none⟩ = some (.slice po off.length co)) ∧ X.cell? ⟨bc, 0, none⟩ = some (.string r.cn.space) ∧ X.cell? ⟨bc, 1, none⟩ = some (.string r.cn.name) ∧ X.cell? ⟨bc, 2, none⟩ = some (.slice r.pm r.cn.mems.length r.cm) ∧ X.cell? ⟨bc, 3, none⟩ = some (.slice pB (r.cn.posts.length + 1) cB))
              (with_reducible first | assumption | exact HS.out _ (by assumption) | (repeat (first | assumption | refine HKr.out _ _ _ ?_ | refine HKp.out _ _ _ ?_)))
              (first | (go_at_call 40; refine (HP.out _ ?_).mono ?_; assumption; rintro e Y ⟨p', n', c', rfl, hM1, HM1⟩
                        have hbY : Below Z.heap.size Z Y := hdz.trans hM1
                        have HbY : Hid (Below Z.heap.size Z Y) := hbY
                        obtain ⟨z0, z1, h0, h1⟩ := (HWZ.out Y HbY.out).r
                        obtain ⟨y0, y1, y2, j0, j1, j2⟩ := (ex9_cells (HWZ.out Y HbY.out).r (HWZ.out Y HbY.out).p (by have := HB.out; omega) (.slice p' n' c') (.slice po off.length co) (.int .i64 0) (.int .i64 0) (.slice none 0 0)).1))
            clear z0 z1 h0 h1 y0 y1 y2 j0 j1 j2

            obtain ⟨g1, g2, g3⟩ := ex9_cells (HWZ.out Y HbY.out).r (HWZ.out Y HbY.out).p (by have := HB.out; omega) (.slice p' n' c') (.slice po off.length co) (.int .i64 0) (.int .i64 (r.cn.posts.length : Int)) (.slice none 0 0)
            have HOut : Hid (Q (.returned (.tuple #[.agg #[.slice p' n' c', .slice po off.length co], .agg #[.int .i64 0, .int .i64 (r.cn.posts.length : Int), .slice none 0 0]])) (ex9 Y br bp (.slice p' n' c') (.slice po off.length co) (.int .i64 0) (.int .i64 (r.cn.posts.length : Int)) (.slice none 0 0))) := HQ.out _ _ (by
              have e3 := e1
              rw [HE.out.2.1] at e3
              have ei : Mp.inner q r.cn ⟨3, sp, ch, us, te, tt, to, fr, mo⟩ = (Mp.put q ⟨r.cn.space, r.cn.name, r.cn.mems, r.cn.posts ++ ([⟨us, te⟩] : List Mo.Po)⟩, ⟨0, (r.cn.posts.length : Int), []⟩) := by
                unfold Mp.inner
                dsimp only
                rw [if_neg (by decide), if_pos rfl, if_neg e3, if_neg (by rw [e2]; decide), if_neg e4]
              rw [ei]
              obtain ⟨hn', hM⟩ := HM1.out
              subst hn'
              have hrr := HD.out.rows r HE.out.2.2.1
              have hbr := HD.out.br r HE.out.2.2.1
              exact DoR.put HD.out HE.out.1 HE.out.2.1 HL.out HZ.out.1 HZ.out.2.1 (by have := HB.out; omega) (by have := HB.out; omega) (r' := ⟨⟨r.cn.space, r.cn.name, r.cn.mems, r.cn.posts ++ ([⟨us, te⟩] : List Mo.Po)⟩, r.pm, r.cm, pB, cB⟩) ⟨hdz.trans hM.1, hM.2⟩ ⟨⟨hrr.1.below HZ.out.1, HZ.out.2.2.1⟩, fun g hg => ⟨hbr.1 g hg, .inl (RowC.lt hrr.1 (by decide) hg)⟩, fun g hg => ⟨HL.out g (by have := HZ.out.2.2.2 g hg; have := HU.out.size; omega), .inr (HZ.out.2.2.2 g hg)⟩⟩ (r.cn.posts.length : Int))
            obtain ⟨z0, z1, h0, h1⟩ := (HWZ.out Y HbY.out).r
            obtain ⟨y0, y1, y2, j0, j1, j2⟩ := g1
            obtain ⟨x0, x1, _, _⟩ := g2
            obtain ⟨x2, x3, x4, _, _, _⟩ := g3
            obtain ⟨F, hF⟩ : ∃ F, F = ex9 Y br bp (.slice p' n' c') (.slice po off.length co) (.int .i64 0) (.int .i64 (r.cn.posts.length : Int)) (.slice none 0 0) := ⟨_, rfl⟩
            rw [← hF] at HOut x0 x1 x2 x3 x4
            unfold ex9 at hF

            go_wp2
            rw [← hF]
            clear hF
            refine bodyPost_ret (v := .tuple #[.agg #[.slice p' n' c', .slice po off.length co], .agg #[.int .i64 0, .int .i64 (r.cn.posts.length : Int), .slice none 0 0]]) ?qres rfl ?qpost
            case qres => simp [results, Try.results43, go_sem, x0, x1, x2, x3, x4]
            case qpost => exact HOut.out

    · rw [Bool.eq_false_iff.2 e2]
      obtain ⟨n0, n1, _, _⟩ := (HW.out I2 HI2.out).m
      go_wp2_with fail
      refine (no_c I2 _ _ _ _ _ _ 91).mono ?_
      rintro e N3 ⟨rfl, hbN3⟩
      have HN3 : Hid (Below u.heap.size u N3) := HI2.out.trans (hbN3.mono HI2.out.size)
      clear hbN3 n0 n1

      obtain ⟨g1, g2, g3⟩ := ex9_cells (HW.out N3 HN3.out).r (HW.out N3 HN3.out).p (by have := HB.out; omega) (.slice pl t.length cl) (.slice po off.length co) (.int .i64 91) (.int .i64 0) (.slice none 0 0)
      have HOut : Hid (Q (.returned (.tuple #[.agg #[.slice pl t.length cl, .slice po off.length co], .agg #[.int .i64 91, .int .i64 0, .slice none 0 0]])) (ex9 N3 br bp (.slice pl t.length cl) (.slice po off.length co) (.int .i64 91) (.int .i64 0) (.slice none 0 0))) := HQ.out _ _ (by have e3 := e1; rw [HE.out.2.1] at e3; unfold Mp.inner; dsimp only; rw [if_neg (by decide), if_pos rfl, if_neg e3, if_pos (Bool.eq_false_iff.2 e2)]; exact DoR.no HD.out HE.out.1 HE.out.2.1 (ex9_below (HU.out.trans (HN3.out.mono HU.out.size)) (by have := HB.out; omega) (by have := HB.out; omega) _ _ _ _ _) _)
      obtain ⟨z0, z1, h0, h1⟩ := (HW.out N3 HN3.out).r
      obtain ⟨y0, y1, y2, j0, j1, j2⟩ := g1
      obtain ⟨x0, x1, _, _⟩ := g2
      obtain ⟨x2, x3, x4, _, _, _⟩ := g3
      obtain ⟨F, hF⟩ : ∃ F, F = ex9 N3 br bp (.slice pl t.length cl) (.slice po off.length co) (.int .i64 91) (.int .i64 0) (.slice none 0 0) := ⟨_, rfl⟩
      rw [← hF] at HOut x0 x1 x2 x3 x4
      unfold ex9 at hF
      go_wp2
      rw [← hF]
      clear hF
      refine bodyPost_ret (v := .tuple #[.agg #[.slice pl t.length cl, .slice po off.length co], .agg #[.int .i64 91, .int .i64 0, .slice none 0 0]]) ?qres rfl ?qpost
      case qres => simp [results, Try.results43, go_sem, x0, x1, x2, x3, x4]
      case qpost => exact HOut.out

end Go.Proofs.Ytkioeahlajjmiaa

/-
  The document's within: a page is read.
-/
namespace Go.Proofs.Ytkioeahlajjmiaa
open Go.RowKit

theorem DoR.page {L : Nat → Prop} {w F : World} {pl po q' : Option Addr} {cl co n c' : Nat} {t : List Rw} {off : List ByteArray} {q : Mp.Dm} {ps : List Mo.Po} (h : DvT L w pl cl po co t off) (hq : t.map (·.cn) = q.list) (hoff : off = q.off) (hL : ∀ g, w.heap.size ≤ g → L g) (hn : ps.length = n) (hrow : RowC F 2 (.slice q' n c') n (poCells ps)) (hb : ∀ g, cBlk (.slice q' n c') = some g → w.heap.size ≤ g) (hF : Below w.heap.size w F) (at_ : Int) : DoR L w (q, ⟨0, at_, ps⟩) (.returned (.tuple #[.agg #[.slice pl t.length cl, .slice po off.length co], .agg #[.int .i64 0, .int .i64 at_, .slice q' n c']])) F := by
  subst hoff hn
  exact ⟨_, q', c', rfl, hrow, fun g hg => hL g (hb g hg), ⟨pl, cl, po, co, t, rfl, hq, h.below hF⟩, hF⟩
theorem take_drop_one {α : Type} {l : List α} {f n : Nat} {e : α} (h : l[f + n]? = some e) : (l.drop f).take (n + 1) = (l.drop f).take n ++ [e] := by
  rw [List.take_add_one, List.getElem?_drop, h]
  rfl

set_option maxHeartbeats 6400000 in
set_option maxRecDepth 20000 in
theorem within4 {L : Nat → Prop} {w : World} {pl po : Option Addr} {cl co : Nat} {t : List Rw} {off : List ByteArray} {q : Mp.Dm} (h : DvT L w pl cl po co t off) (hq : t.map (·.cn) = q.list) (hoff : off = q.off) (hL : ∀ g, w.heap.size ≤ g → L g) {r : Rw} (hr : r ∈ t) (hso : Mp.Sorted Rw.key Mp.ltK t) (hn : t.length ≤ 1000000) (sp ch us te tt to : ByteArray) (fr mo : Int) (hfr : 0 ≤ fr ∧ fr ≤ 2147483647) (hmo : 0 ≤ mo ∧ mo ≤ 64) (hpn : r.cn.posts.length ≤ 1024) :
    Calls Try.prog 43 #[.agg #[.slice pl t.length cl, .slice po off.length co], .agg #[.string r.cn.space, .string r.cn.name, .slice r.pm r.cn.mems.length r.cm, .slice r.pp r.cn.posts.length r.cp], .agg #[.int .i64 4, .string sp, .string ch, .string us, .string te, .string tt, .string to, .int .i64 fr, .int .i64 mo]] w (DoR L w (Mp.inner q r.cn ⟨4, sp, ch, us, te, tt, to, fr, mo⟩)) := by
  obtain ⟨u, hu, hbu, hus, hWi⟩ := Wi.start w (.slice pl t.length cl) (.slice po off.length co) (.string r.cn.space) (.string r.cn.name) (.slice r.pm r.cn.mems.length r.cm) (.slice r.pp r.cn.posts.length r.cp) ⟨4, sp, ch, us, te, tt, to, fr, mo⟩
  dsimp only at hu
  obtain ⟨bn, hbn⟩ : ∃ bn, bn = w.heap.size := ⟨_, rfl⟩
  obtain ⟨bc, hbc⟩ : ∃ bc, bc = w.heap.size + 1 := ⟨_, rfl⟩
  obtain ⟨bo, hbo⟩ : ∃ bo, bo = w.heap.size + 1 + 1 := ⟨_, rfl⟩
  obtain ⟨br, hbr⟩ : ∃ br, br = w.heap.size + 1 + 1 + 1 := ⟨_, rfl⟩
  obtain ⟨bp, hbp⟩ : ∃ bp, bp = w.heap.size + 1 + 1 + 1 + 1 := ⟨_, rfl⟩
  rw [← hbp, ← hbr, ← hbo, ← hbc, ← hbn] at hWi
  have HW : Hid (∀ X, Below u.heap.size u X → Wi bn bc bo br bp (.slice pl t.length cl) (.slice po off.length co) (.string r.cn.space) (.string r.cn.name) (.slice r.pm r.cn.mems.length r.cm) (.slice r.pp r.cn.posts.length r.cp) ⟨4, sp, ch, us, te, tt, to, fr, mo⟩ X) := fun X hX => hWi.below hX
  have HB : Hid (bn = w.heap.size ∧ bc = w.heap.size + 1 ∧ bo = w.heap.size + 2 ∧ br = w.heap.size + 3 ∧ bp = w.heap.size + 4 ∧ u.heap.size = w.heap.size + 5) := ⟨hbn, hbc, by omega, by omega, by omega, hus⟩
  have HU : Hid (Below w.heap.size w u) := hbu
  have HD : Hid (DvT L w pl cl po co t off) := h
  have HL : Hid (∀ g, w.heap.size ≤ g → L g) := hL
  have HE : Hid (t.map (·.cn) = q.list ∧ off = q.off ∧ r ∈ t ∧ Mp.Sorted Rw.key Mp.ltK t ∧ t.length ≤ 1000000) := ⟨hq, hoff, hr, hso, hn⟩
  generalize hQ : DoR L w (Mp.inner q r.cn ⟨4, sp, ch, us, te, tt, to, fr, mo⟩) = Q
  have HQ : Hid (∀ e w', DoR L w (Mp.inner q r.cn ⟨4, sp, ch, us, te, tt, to, fr, mo⟩) e w' → Q e w') := fun e w' h => by rw [← hQ]; exact h
  obtain ⟨a, rfl⟩ : ∃ a : Nat, fr = (a : Int) := ⟨fr.toNat, by omega⟩
  obtain ⟨k, rfl⟩ : ∃ k : Nat, mo = (k : Int) := ⟨mo.toNat, by omega⟩
  obtain ⟨m, hm⟩ : ∃ m, m = r.cn.posts.length := ⟨_, rfl⟩
  obtain ⟨f0, hf0⟩ : ∃ f0 : Nat, f0 = min a m := ⟨_, rfl⟩
  have hmin : min (a : Int) (m : Int) = (f0 : Int) := by omega
  have HN : Hid (m = r.cn.posts.length ∧ m ≤ 1024 ∧ f0 = min a m ∧ k ≤ 64 ∧ a ≤ 2147483647) := ⟨hm, by omega, hf0, by omega, by omega⟩
  have HEl : Hid (∀ X, Below u.heap.size u X → ∀ j, j < m → ∃ e g off, r.cn.posts[j]? = some e ∧ r.pp = some ⟨g, off, none⟩ ∧ X.cell? ⟨g, off + j * 2, none⟩ = some (.string e.user) ∧ X.cell? ⟨g, off + j * 2 + 1, none⟩ = some (.string e.text) ∧ g < w.heap.size) := fun X hX j hj => by
    have hrw := (HD.out.rows r hr).2
    obtain ⟨g, off, c, hv, _, _, _, hC⟩ := RowC.cells hrw (by omega)
    have hl : j < r.cn.posts.length := by omega
    obtain ⟨q1, q2⟩ := poCells_at r.cn.posts j _ (List.getElem?_eq_getElem hl)
    have k1 := hC _ _ q1
    have k2 := hC _ _ q2
    have hwX : Below w.heap.size w X := HU.out.trans (hX.mono HU.out.size)
    refine ⟨_, g, off, List.getElem?_eq_getElem hl, ?_, (hwX.cell (p := ⟨g, off + j * 2, none⟩) (World.block_lt_of_cell? _ _ k1)).trans k1, ?_, World.block_lt_of_cell? _ _ k1⟩
    · unfold Rw.vp at hv; injection hv
    · rw [Nat.add_assoc]
      exact (hwX.cell (p := ⟨g, off + (j * 2 + 1), none⟩) (World.block_lt_of_cell? _ _ k2)).trans k2
  clear h hbu hWi hQ hus hL hq hoff hr hso hn hfr hmo hpn hf0
  go_enter Try.func43, Try.ntmps43
  go_upto_region 21 with fail
  rw [← hu, ← hbp, ← hbr, ← hbo, ← hbc, ← hbn]
  clear hu hbp hbr hbo hbc hbn
  have H0 : Hid (Below u.heap.size u u) := Below.refl _ _
  have hw0 := HW.out u H0.out
  obtain ⟨_, ⟨c0, c1, c2, c3⟩, _, _, _, _, _, _, _, _, o7, _, _, _⟩ := hw0
  rw [← hm] at c3
  clear c0 c1 c2 hm
  obtain ⟨b9, hb9⟩ : ∃ b9, b9 = u.heap.size := ⟨_, rfl⟩
  obtain ⟨u1, hu1⟩ : ∃ u1, u1 = u.alloc (.cells #[.int .i64 0, .int .i64 (f0 : Int), .slice none 0 0] 29) := ⟨_, rfl⟩
  have hR0 : R3 b9 (.int .i64 0) (.int .i64 (f0 : Int)) (.slice none 0 0) u1 := by rw [hb9, hu1]; exact R3.start _ _ _ _ _
  have HU1 : Hid (b9 = w.heap.size + 5 ∧ u.heap.size ≤ b9 ∧ Below u.heap.size u u1) := ⟨by have := HB.out; omega, by omega, by rw [hu1]; exact below_alloc _ _⟩
  have HR0' : Hid (R3 b9 (.int .i64 0) (.int .i64 (f0 : Int)) (.slice none 0 0) u1) := hR0
  clear hR0
  go_upto_region 22 with fail
  rw [← hu1, ← hb9]
  clear c3 o7 hu1 hb9 hmin
  go_loopw [] (fun wr => ∃ (n j : Nat) (q' : Option Addr) (c' : Nat), j ≤ m ∧ n ≤ k ∧ Hid (j = f0 + n ∧ R3 b9 (.int .i64 0) (.int .i64 (j : Int)) (.slice q' n c') wr ∧ Mk u wr 2 (.slice q' n c') n (poCells ((r.cn.posts.drop f0).take n)) ∧ ∀ g, cBlk (.slice q' n c') = some g → b9 < g)) (fun wr => match wr.cell? ⟨b9, 1, none⟩ with | some (.int _ i) => m - i.toNat | _ => 0)
  case atStart => exact ⟨0, f0, none, 0, by have := HN.out; omega, Nat.zero_le _, rfl, HR0'.out, Mk.nil _ _ _ HU1.out.2.2, fun g hg => by simp [cBlk] at hg⟩
  case round =>
    obtain ⟨n, j, q', c', hn1, hn2, HT⟩ := hrel
    have HX : Hid (Below u.heap.size u wr) := HT.out.2.2.1.1
    have c3 : wr.cell? ⟨bc, 3, none⟩ = some (.slice r.pp m r.cp) := by rw [HN.out.1]; exact (HW.out wr HX.out).c.2.2.2
    have o8 := (HW.out wr HX.out).o8
    obtain ⟨r0, r1, r2, g0, g1, g2⟩ := HT.out.2.1
    dsimp only at o8
    by_cases e1 : n < k
    · have i1 : (n : Int) < (k : Int) := by omega
      by_cases e2 : j < m
      · have i2 : (j : Int) < (m : Int) := by omega
        have i0 : (0 : Int) ≤ (j : Int) := by omega
        obtain ⟨ev, g, off', hev, hpp, x0, x1, hgl⟩ := HEl.out wr HX.out j e2
        have HGb : Hid (g < w.heap.size) := hgl
        have HSx : Hid (∀ X, Below u.heap.size u X → X.cell? ⟨b9, 1, none⟩ = some (.int .i64 (j : Int)) → (X.cell? ⟨bc, 3, none⟩ = some (.slice (some ⟨g, off', none⟩) m r.cp) ∧ X.cell? ⟨b9, 1, none⟩ = some (.int .i64 (j : Int)) ∧ X.cell? ⟨g, off' + j * 2, none⟩ = some (.string ev.user) ∧ X.cell? ⟨g, off' + j * 2 + 1, none⟩ = some (.string ev.text))) := fun X hX h9 => by
          obtain ⟨ev', g', o', hev', hpp', x0', x1', _⟩ := HEl.out X hX j e2
          rw [hpp] at hpp'
          injection hpp' with hpp'
          injection hpp' with q1 q2
          rw [hev] at hev'
          injection hev' with hev'
          subst q1 q2 hev'
          refine ⟨?_, h9, x0', x1'⟩
          have h := (HW.out X hX).c.2.2.2
          rw [hpp, ← HN.out.1] at h
          exact h
        rw [hpp] at c3
        go_upto_region 23 with fail
        clear c3 o8 r0 r1 r2 g0 g1 g2 x0 x1 hpp hgl
        obtain ⟨V, hV⟩ : ∃ V, V = wr.drew := ⟨_, rfl⟩
        have HV : Hid (Below u.heap.size u V) := by rw [hV]; exact HX.out.drew
        have HR0 : Hid (R3 b9 (.int .i64 0) (.int .i64 (j : Int)) (.slice q' n c') V) := by rw [hV]; exact HT.out.2.1.below (below_drewN wr 1)
        have HMv : Hid (Mk u V 2 (.slice q' n c') n (poCells ((r.cn.posts.drop f0).take n))) := by rw [hV]; exact HT.out.2.2.1.below (by decide) (below_drewN wr 1)
        obtain ⟨r1, r2, r3⟩ := HMv.out.app (by decide) (t := 27) (e := 35) Try.underlying27 #[.string ev.user, .string ev.text] rfl (fun u hu => by simp at hu; rcases hu with rfl | rfl <;> rfl)
        have HRow : Hid (RowC (V.alloc (.cells #[.string ev.user, .string ev.text] 35)) 2 (.slice q' n c') n (poCells ((r.cn.posts.drop f0).take n))) := r1
        have HSrc : Hid (Src Try.prog 2 27 (.slice (some ⟨V.heap.size, 0, none⟩) 1 1) 1 [.string ev.user, .string ev.text] (V.alloc (.cells #[.string ev.user, .string ev.text] 35))) := r2
        have HEnd : Hid (∀ Y L', RowC Y 2 L' (n + 1) (poCells ((r.cn.posts.drop f0).take n) ++ [.string ev.user, .string ev.text]) → (V.alloc (.cells #[.string ev.user, .string ev.text] 35)).grownBy Y (cBlk (.slice q' n c')) → (∀ j, cBlk L' = some j → cBlk (.slice q' n c') = some j ∨ V.heap.size + 1 ≤ j) → ∃ p' c2, L' = .slice p' (n + 1) c2 ∧ Hid (Mk u Y 2 (.slice p' (n + 1) c2) (n + 1) (poCells ((r.cn.posts.drop f0).take n) ++ [.string ev.user, .string ev.text])) ∧ Hid (∀ k, k < V.heap.size → cBlk (.slice q' n c') ≠ some k → Y.heap[k]? = V.heap[k]?) ∧ Hid (∀ g, cBlk L' = some g → b9 < g)) := fun Y L' a1 a2 a3 => by
          obtain ⟨p', c2, h1, h2, h3⟩ := r3 Y L' a1 a2 a3
          refine ⟨p', c2, h1, h2, h3, fun g hg => ?_⟩
          rcases a3 g hg with e | e
          · exact HT.out.2.2.2 g e
          · have := HR0.out.lt; omega
        have HLen : Hid ((n + 1) * 32 ≤ 140737488355328 ∧ n + 1 ≤ maxLen) := by have := HN.out; unfold maxLen; exact ⟨by omega, by omega⟩
        have HA : Hid (Below u.heap.size u (V.alloc (.cells #[.string ev.user, .string ev.text] 35))) := HV.out.trans ((below_alloc _ _).mono HV.out.size)
        have HR1 : Hid (R3 b9 (.int .i64 0) (.int .i64 (j : Int)) (.slice q' n c') (V.alloc (.cells #[.string ev.user, .string ev.text] 35))) := HR0.out.below (below_alloc _ _)
        clear r1 r2 r3
        refine wp_region_held_drew (S := fun X => X.cell? ⟨bc, 3, none⟩ = some (.slice (some ⟨g, off', none⟩) m r.cp) ∧ X.cell? ⟨b9, 1, none⟩ = some (.int .i64 (j : Int)) ∧ X.cell? ⟨g, off' + j * 2, none⟩ = some (.string ev.user) ∧ X.cell? ⟨g, off' + j * 2 + 1, none⟩ = some (.string ev.text)) (by kernel_rfl) (by rw [← hV]; exact HSx.out _ HV.out HR0.out.c1) (fun hHeld => ?_)
        rw [← hV] at hHeld ⊢
        clear hV
        refine take7 (i := 0) (d := 115) (v := .pointer (some ⟨b9, 2, none⟩)) rfl rfl (by kernel_rfl) (by kernel_rfl) (by kernel_rfl) (fun _ _ _ h => h) (Or.inl ⟨by rfl, ?_⟩) (by assumption) ?_
        · intro X hSw
          go_simp
        simp only [Act.put, List.setIfInBounds_toArray, List.set_cons_zero, List.set_cons_succ]
        refine take7 (i := 2) (d := 117) (v := .pointer (some ⟨bc, 3, none⟩)) rfl rfl (by kernel_rfl) (by kernel_rfl) (by kernel_rfl) (fun _ _ _ h => h) (Or.inl ⟨by rfl, ?_⟩) (by assumption) ?_
        · intro X hSw
          go_simp
        simp only [Act.put, List.setIfInBounds_toArray, List.set_cons_zero, List.set_cons_succ]
        refine take7 (i := 3) (d := 118) (v := .slice (some ⟨g, off', none⟩) m r.cp) rfl rfl (by kernel_rfl) (by kernel_rfl) (by kernel_rfl) (fun _ _ _ h => h) (Or.inl ⟨by rfl, ?_⟩) (by assumption) ?_
        · intro X hSw
          go_simp
        simp only [Act.put, List.setIfInBounds_toArray, List.set_cons_zero, List.set_cons_succ]
        refine take7 (i := 4) (d := 119) (v := .pointer (some ⟨b9, 1, none⟩)) rfl rfl (by kernel_rfl) (by kernel_rfl) (by kernel_rfl) (fun _ _ _ h => h) (Or.inl ⟨by rfl, ?_⟩) (by assumption) ?_
        · intro X hSw
          go_simp
        simp only [Act.put, List.setIfInBounds_toArray, List.set_cons_zero, List.set_cons_succ]
        refine take7 (i := 5) (d := 120) (v := .int .i64 (j : Int)) rfl rfl (by kernel_rfl) (by kernel_rfl) (by kernel_rfl) (fun _ _ _ h => h) (Or.inl ⟨by rfl, ?_⟩) (by assumption) ?_
        · intro X hSw
          go_simp
        simp only [Act.put, List.setIfInBounds_toArray, List.set_cons_zero, List.set_cons_succ]
        refine take7 (i := 6) (d := 121) (v := .pointer (some ⟨g, off' + j * 2, none⟩)) rfl rfl (by kernel_rfl) (by kernel_rfl) (by kernel_rfl) (fun _ _ _ h => h) (Or.inl ⟨by rfl, ?_⟩) (by assumption) ?_
        · intro X hSw
          go_simp
        simp only [Act.put, List.setIfInBounds_toArray, List.set_cons_zero, List.set_cons_succ]
        refine take7 (i := 7) (d := 122) (v := .agg #[.string ev.user, .string ev.text]) rfl rfl (by kernel_rfl) (by kernel_rfl) (by kernel_rfl) (fun _ _ _ h => h) (Or.inl ⟨by rfl, ?_⟩) (by assumption) ?_
        · intro X hSw
          go_simp
        simp only [Act.put, List.setIfInBounds_toArray, List.set_cons_zero, List.set_cons_succ]

        refine wpAnyH_ready (rs := [1, 8]) (by kernel_rfl) (by simp) ?_
        refine AllReadyH.cons rfl (fun K hK => ?_) (AllReadyH.cons rfl (fun K hK => ?_) AllReadyH.nil)
        · have r2 := HR0.out.c2
          go_simp
          refine hK.out _ _ (HSx.out _ HV.out HR0.out.c1) (fun hHeld => ?_)
          clear hK K r2
          try simp only [Act.put, List.setIfInBounds_toArray, List.set_cons_zero, List.set_cons_succ]
          refine wpAnyH_ready (rs := [8]) (by kernel_rfl) (by simp) ?_
          refine AllReadyH.cons rfl (fun K hK => ?_) AllReadyH.nil
          go_simp
          obtain ⟨X3, hX3⟩ : ∃ X3, X3 = V.alloc (.cells #[.string ev.user, .string ev.text] 35) := ⟨_, rfl⟩
          rw [← hX3]
          have HX3 : Hid (X3 = V.alloc (.cells #[.string ev.user, .string ev.text] 35)) := hX3
          have HA3 : Hid (Below u.heap.size u X3) := by rw [hX3]; exact HA.out
          have HR3 : Hid (R3 b9 (.int .i64 0) (.int .i64 (j : Int)) (.slice q' n c') X3) := by rw [hX3]; exact HR1.out
          clear hX3
          refine hK.out _ _ (HSx.out X3 HA3.out HR3.out.c1) (fun hHeld => ?_)
          clear hK K
          try simp only [Act.put, List.setIfInBounds_toArray, List.set_cons_zero, List.set_cons_succ]
          have hX3 := HX3.out
          refine wpAnyH_ready (rs := [9]) (by kernel_rfl) (by simp) ?_
          refine AllReadyH.cons rfl (fun K hK => ?_) AllReadyH.nil
          refine step7 124 rfl rfl (.tmp 116) (.tmp 123) 27 27 35 rfl Try.underlying27 _ 2 32 infoPo rfl (.slice q' n c') n (poCells ((r.cn.posts.drop f0).take n)) (by simp [Act.eval]) (by rw [hX3]; exact HRow.out) (.slice (some ⟨V.heap.size, 0, none⟩) 1 1) 1 [.string ev.user, .string ev.text] (by simp [Act.eval]) (by rw [hX3]; exact HSrc.out) HLen.out.1 HLen.out.2 ?_
          intro v' w5 ho hg hl
          rw [hX3] at hg
          obtain ⟨p', c2, hv', HM5, HKp5, HB5⟩ := HEnd.out w5 v' ho hg (fun j hj => by
            rcases hl j hj with e | e
            · exact .inl e
            · exact .inr (by rw [hX3] at e; simp at e; exact e))
          subst hv'
          have HY5 : Hid (Below u.heap.size u w5) := HM5.out.1
          have HR5 : Hid (R3 b9 (.int .i64 0) (.int .i64 (j : Int)) (.slice q' n c') w5) := by
            refine HR0.out.keep (HKp5.out b9 HR0.out.lt (fun e => ?_))
            have h1 := HT.out.2.2.2 _ e
            omega
          clear ho hg hl hX3
          refine hK.out _ _ (HSx.out _ HY5.out HR5.out.c1) (fun hHeld => ?_)
          clear hK K
          simp only [Act.put, List.setIfInBounds_toArray, List.set_cons_zero, List.set_cons_succ]
          refine take7 (i := 10) (d := 125) (v := .pointer (some ⟨b9, 2, none⟩)) rfl rfl (by kernel_rfl) (by kernel_rfl) (by kernel_rfl) (fun _ _ _ h => h) (Or.inl ⟨by rfl, ?_⟩) (by assumption) ?_
          · intro X hSw
            go_simp
          simp only [Act.put, List.setIfInBounds_toArray, List.set_cons_zero, List.set_cons_succ]

          obtain ⟨_, _, y2, _, _, g2⟩ := HR5.out
          refine wpAnyH_ready (rs := [11]) (by kernel_rfl) (by simp) ?_
          refine AllReadyH.cons rfl (fun K hK => ?_) AllReadyH.nil
          go_simp
          have HR6 : Hid (R3 b9 (.int .i64 0) (.int .i64 (j : Int)) (.slice p' (n + 1) c2) (w5.setCell ⟨b9, 2, none⟩ (.slice p' (n + 1) c2))) := HR5.out.set2 _
          have t5 : (fun X : World => X.cell? ⟨bc, 3, none⟩ = some (.slice (some ⟨g, off', none⟩) m r.cp) ∧ X.cell? ⟨b9, 1, none⟩ = some (.int .i64 (j : Int)) ∧ X.cell? ⟨g, off' + j * 2, none⟩ = some (.string ev.user) ∧ X.cell? ⟨g, off' + j * 2 + 1, none⟩ = some (.string ev.text)) (w5.setCell ⟨b9, 2, none⟩ (.slice p' (n + 1) c2)) := by
            have hh := HSx.out _ HY5.out HR5.out.c1
            have h9 := HU1.out.1
            have n1 : b9 ≠ bc := by have := HB.out; omega
            have n2 : b9 ≠ g := fun e => by have := HGb.out; omega
            refine ⟨?_, HR6.out.c1, ?_, ?_⟩
            · rw [World.cell?_setCell_far _ ⟨b9, 2, none⟩ ⟨bc, 3, none⟩ _ n1]; exact hh.1
            · rw [World.cell?_setCell_far _ ⟨b9, 2, none⟩ ⟨g, _, none⟩ _ n2]; exact hh.2.2.1
            · rw [World.cell?_setCell_far _ ⟨b9, 2, none⟩ ⟨g, _, none⟩ _ n2]; exact hh.2.2.2
          refine hK.out _ _ t5 (fun hHeld => ?_)
          clear hK K hHeld t5 y2 g2
          refine wpAnyH_done (by kernel_rfl) ?_ _
          obtain ⟨Z, hZ⟩ : ∃ Z, Z = w5.setCell ⟨b9, 2, none⟩ (.slice p' (n + 1) c2) := ⟨_, rfl⟩
          rw [← hZ] at HR6 ⊢
          have HM6 : Hid (Mk u (Z.setCell ⟨b9, 1, none⟩ (.int .i64 ((j : Int) + 1))) 2 (.slice p' (n + 1) c2) (n + 1) (poCells ((r.cn.posts.drop f0).take (n + 1)))) := by
            have e9 : ∀ g', cBlk (.slice p' (n + 1) c2) = some g' → g' ≠ b9 := fun g' hg' => by
              have h1 := HB5.out g' hg'
              omega
            refine ⟨?_, ?_, HM5.out.2.2⟩
            · rw [hZ]
              exact (HM5.out.1.setCell (p := ⟨b9, 2, none⟩) (by show _ ≤ b9; have := HU1.out.2.1; omega) _).setCell (p := ⟨b9, 1, none⟩) (by show _ ≤ b9; have := HU1.out.2.1; omega) _
            · rw [take_drop_one (by rw [← HT.out.1]; exact hev), poCells_snoc, hZ]
              refine RowC.carry HM5.out.2.1 (fun g' hg' => ?_)
              rw [Below.heap_setCell _ _ _ _ (e9 g' hg'), Below.heap_setCell _ _ _ _ (e9 g' hg')]
          have HR7 : Hid (R3 b9 (.int .i64 0) (.int .i64 ((j : Int) + 1)) (.slice p' (n + 1) c2) (Z.setCell ⟨b9, 1, none⟩ (.int .i64 ((j : Int) + 1)))) := HR6.out.set1 _
          clear hZ
          obtain ⟨_, v1, _, _, g1, _⟩ := HR6.out
          have hwr : IntKind.i64.wrap ((j : Int) + 1) = ((j : Int) + 1) := by
            have h := HN.out
            first | exact wraps_i64 _ (by omega) (by omega) | (simp [IntKind.wrap, IntKind.bits, IntKind.signed]; omega)
          go_wp2
          go_roundw
          case rel => exact ⟨n + 1, j + 1, p', c2, by omega, by omega, by have := HT.out.1; omega, HR7, HM6.out, HB5.out⟩
          case measure =>
            have q1 := HR7.out.c1
            have q0 := HT.out.2.1.c1
            rw [q1, q0]
            dsimp only
            omega

        · go_simp
          obtain ⟨X3, hX3⟩ : ∃ X3, X3 = V.alloc (.cells #[.string ev.user, .string ev.text] 35) := ⟨_, rfl⟩
          rw [← hX3]
          have HX3 : Hid (X3 = V.alloc (.cells #[.string ev.user, .string ev.text] 35)) := hX3
          have HA3 : Hid (Below u.heap.size u X3) := by rw [hX3]; exact HA.out
          have HR3 : Hid (R3 b9 (.int .i64 0) (.int .i64 (j : Int)) (.slice q' n c') X3) := by rw [hX3]; exact HR1.out
          clear hX3
          refine hK.out _ _ (HSx.out X3 HA3.out HR3.out.c1) (fun hHeld => ?_)
          clear hK K
          try simp only [Act.put, List.setIfInBounds_toArray, List.set_cons_zero, List.set_cons_succ]
          refine wpAnyH_ready (rs := [1]) (by kernel_rfl) (by simp) ?_
          refine AllReadyH.cons rfl (fun K hK => ?_) AllReadyH.nil
          have r2 := HR3.out.c2
          go_simp
          refine hK.out _ _ (HSx.out X3 HA3.out HR3.out.c1) (fun hHeld => ?_)
          clear hK K r2
          try simp only [Act.put, List.setIfInBounds_toArray, List.set_cons_zero, List.set_cons_succ]
          have hX3 := HX3.out
          refine wpAnyH_ready (rs := [9]) (by kernel_rfl) (by simp) ?_
          refine AllReadyH.cons rfl (fun K hK => ?_) AllReadyH.nil
          refine step7 124 rfl rfl (.tmp 116) (.tmp 123) 27 27 35 rfl Try.underlying27 _ 2 32 infoPo rfl (.slice q' n c') n (poCells ((r.cn.posts.drop f0).take n)) (by simp [Act.eval]) (by rw [hX3]; exact HRow.out) (.slice (some ⟨V.heap.size, 0, none⟩) 1 1) 1 [.string ev.user, .string ev.text] (by simp [Act.eval]) (by rw [hX3]; exact HSrc.out) HLen.out.1 HLen.out.2 ?_
          intro v' w5 ho hg hl
          rw [hX3] at hg
          obtain ⟨p', c2, hv', HM5, HKp5, HB5⟩ := HEnd.out w5 v' ho hg (fun j hj => by
            rcases hl j hj with e | e
            · exact .inl e
            · exact .inr (by rw [hX3] at e; simp at e; exact e))
          subst hv'
          have HY5 : Hid (Below u.heap.size u w5) := HM5.out.1
          have HR5 : Hid (R3 b9 (.int .i64 0) (.int .i64 (j : Int)) (.slice q' n c') w5) := by
            refine HR0.out.keep (HKp5.out b9 HR0.out.lt (fun e => ?_))
            have h1 := HT.out.2.2.2 _ e
            omega
          clear ho hg hl hX3
          refine hK.out _ _ (HSx.out _ HY5.out HR5.out.c1) (fun hHeld => ?_)
          clear hK K
          simp only [Act.put, List.setIfInBounds_toArray, List.set_cons_zero, List.set_cons_succ]
          refine take7 (i := 10) (d := 125) (v := .pointer (some ⟨b9, 2, none⟩)) rfl rfl (by kernel_rfl) (by kernel_rfl) (by kernel_rfl) (fun _ _ _ h => h) (Or.inl ⟨by rfl, ?_⟩) (by assumption) ?_
          · intro X hSw
            go_simp
          simp only [Act.put, List.setIfInBounds_toArray, List.set_cons_zero, List.set_cons_succ]

          obtain ⟨_, _, y2, _, _, g2⟩ := HR5.out
          refine wpAnyH_ready (rs := [11]) (by kernel_rfl) (by simp) ?_
          refine AllReadyH.cons rfl (fun K hK => ?_) AllReadyH.nil
          go_simp
          have HR6 : Hid (R3 b9 (.int .i64 0) (.int .i64 (j : Int)) (.slice p' (n + 1) c2) (w5.setCell ⟨b9, 2, none⟩ (.slice p' (n + 1) c2))) := HR5.out.set2 _
          have t5 : (fun X : World => X.cell? ⟨bc, 3, none⟩ = some (.slice (some ⟨g, off', none⟩) m r.cp) ∧ X.cell? ⟨b9, 1, none⟩ = some (.int .i64 (j : Int)) ∧ X.cell? ⟨g, off' + j * 2, none⟩ = some (.string ev.user) ∧ X.cell? ⟨g, off' + j * 2 + 1, none⟩ = some (.string ev.text)) (w5.setCell ⟨b9, 2, none⟩ (.slice p' (n + 1) c2)) := by
            have hh := HSx.out _ HY5.out HR5.out.c1
            have h9 := HU1.out.1
            have n1 : b9 ≠ bc := by have := HB.out; omega
            have n2 : b9 ≠ g := fun e => by have := HGb.out; omega
            refine ⟨?_, HR6.out.c1, ?_, ?_⟩
            · rw [World.cell?_setCell_far _ ⟨b9, 2, none⟩ ⟨bc, 3, none⟩ _ n1]; exact hh.1
            · rw [World.cell?_setCell_far _ ⟨b9, 2, none⟩ ⟨g, _, none⟩ _ n2]; exact hh.2.2.1
            · rw [World.cell?_setCell_far _ ⟨b9, 2, none⟩ ⟨g, _, none⟩ _ n2]; exact hh.2.2.2
          refine hK.out _ _ t5 (fun hHeld => ?_)
          clear hK K hHeld t5 y2 g2
          refine wpAnyH_done (by kernel_rfl) ?_ _
          obtain ⟨Z, hZ⟩ : ∃ Z, Z = w5.setCell ⟨b9, 2, none⟩ (.slice p' (n + 1) c2) := ⟨_, rfl⟩
          rw [← hZ] at HR6 ⊢
          have HM6 : Hid (Mk u (Z.setCell ⟨b9, 1, none⟩ (.int .i64 ((j : Int) + 1))) 2 (.slice p' (n + 1) c2) (n + 1) (poCells ((r.cn.posts.drop f0).take (n + 1)))) := by
            have e9 : ∀ g', cBlk (.slice p' (n + 1) c2) = some g' → g' ≠ b9 := fun g' hg' => by
              have h1 := HB5.out g' hg'
              omega
            refine ⟨?_, ?_, HM5.out.2.2⟩
            · rw [hZ]
              exact (HM5.out.1.setCell (p := ⟨b9, 2, none⟩) (by show _ ≤ b9; have := HU1.out.2.1; omega) _).setCell (p := ⟨b9, 1, none⟩) (by show _ ≤ b9; have := HU1.out.2.1; omega) _
            · rw [take_drop_one (by rw [← HT.out.1]; exact hev), poCells_snoc, hZ]
              refine RowC.carry HM5.out.2.1 (fun g' hg' => ?_)
              rw [Below.heap_setCell _ _ _ _ (e9 g' hg'), Below.heap_setCell _ _ _ _ (e9 g' hg')]
          have HR7 : Hid (R3 b9 (.int .i64 0) (.int .i64 ((j : Int) + 1)) (.slice p' (n + 1) c2) (Z.setCell ⟨b9, 1, none⟩ (.int .i64 ((j : Int) + 1)))) := HR6.out.set1 _
          clear hZ
          obtain ⟨_, v1, _, _, g1, _⟩ := HR6.out
          have hwr : IntKind.i64.wrap ((j : Int) + 1) = ((j : Int) + 1) := by
            have h := HN.out
            first | exact wraps_i64 _ (by omega) (by omega) | (simp [IntKind.wrap, IntKind.bits, IntKind.signed]; omega)
          go_wp2
          go_roundw
          case rel => exact ⟨n + 1, j + 1, p', c2, by omega, by omega, by have := HT.out.1; omega, HR7, HM6.out, HB5.out⟩
          case measure =>
            have q1 := HR7.out.c1
            have q0 := HT.out.2.1.c1
            rw [q1, q0]
            dsimp only
            omega

      · have i2 : ¬ (j : Int) < (m : Int) := by omega
        have HG : Hid (j = f0 + n ∧ j ≤ m ∧ n ≤ k ∧ (k ≤ n ∨ m ≤ j)) := ⟨HT.out.1, hn1, hn2, by omega⟩
        go_upto_region 25 with fail
        obtain ⟨V, hV⟩ : ∃ V, V = wr.drew := ⟨_, rfl⟩
        have HV : Hid (Below u.heap.size u V) := by rw [hV]; exact HX.out.drew
        have HMv : Hid (Mk u V 2 (.slice q' n c') n (poCells ((r.cn.posts.drop f0).take n))) := by rw [hV]; exact HT.out.2.2.1.below (by decide) (below_drewN wr 1)
        have HR9 : Hid (R3 b9 (.int .i64 0) (.int .i64 (j : Int)) (.slice q' n c') V) := by rw [hV]; exact HT.out.2.1.below (below_drewN wr 1)
        clear r0 r1 r2 c3 o8 g0 g1 g2
        have HKr : Hid (∀ (X : World) (j' : Nat) (v : Value), ((X.cell? ⟨bn, 0, none⟩ = some (.slice pl t.length cl) ∧ X.cell? ⟨bn, 1, none⟩ = some (.slice po off.length co)) ∧ X.cell? ⟨b9, 0, none⟩ = some (.int .i64 0) ∧ X.cell? ⟨b9, 1, none⟩ = some (.int .i64 (j : Int)) ∧ X.cell? ⟨b9, 2, none⟩ = some (.slice q' n c')) → (fun X : World => (X.cell? ⟨bn, 0, none⟩ = some (.slice pl t.length cl) ∧ X.cell? ⟨bn, 1, none⟩ = some (.slice po off.length co)) ∧ X.cell? ⟨b9, 0, none⟩ = some (.int .i64 0) ∧ X.cell? ⟨b9, 1, none⟩ = some (.int .i64 (j : Int)) ∧ X.cell? ⟨b9, 2, none⟩ = some (.slice q' n c')) (X.setCell ⟨br, j', none⟩ v)) := fun X j' v h => by
          have hne := HB.out
          have h9 := HU1.out.1
          have n1 : br ≠ bn := by omega
          have n2 : br ≠ b9 := by omega
          simp only [World.cell?_setCell_far _ ⟨br, j', none⟩ ⟨bn, _, none⟩ _ n1, World.cell?_setCell_far _ ⟨br, j', none⟩ ⟨b9, _, none⟩ _ n2]
          exact h
        have HKp : Hid (∀ (X : World) (j' : Nat) (v : Value), ((X.cell? ⟨bn, 0, none⟩ = some (.slice pl t.length cl) ∧ X.cell? ⟨bn, 1, none⟩ = some (.slice po off.length co)) ∧ X.cell? ⟨b9, 0, none⟩ = some (.int .i64 0) ∧ X.cell? ⟨b9, 1, none⟩ = some (.int .i64 (j : Int)) ∧ X.cell? ⟨b9, 2, none⟩ = some (.slice q' n c')) → (fun X : World => (X.cell? ⟨bn, 0, none⟩ = some (.slice pl t.length cl) ∧ X.cell? ⟨bn, 1, none⟩ = some (.slice po off.length co)) ∧ X.cell? ⟨b9, 0, none⟩ = some (.int .i64 0) ∧ X.cell? ⟨b9, 1, none⟩ = some (.int .i64 (j : Int)) ∧ X.cell? ⟨b9, 2, none⟩ = some (.slice q' n c')) (X.setCell ⟨bp, j', none⟩ v)) := fun X j' v h => by
          have hne := HB.out
          have h9 := HU1.out.1
          have n1 : bp ≠ bn := by omega
          have n2 : bp ≠ b9 := by omega
          simp only [World.cell?_setCell_far _ ⟨bp, j', none⟩ ⟨bn, _, none⟩ _ n1, World.cell?_setCell_far _ ⟨bp, j', none⟩ ⟨b9, _, none⟩ _ n2]
          exact h
        have hS0 : (V.cell? ⟨bn, 0, none⟩ = some (.slice pl t.length cl) ∧ V.cell? ⟨bn, 1, none⟩ = some (.slice po off.length co)) ∧ V.cell? ⟨b9, 0, none⟩ = some (.int .i64 0) ∧ V.cell? ⟨b9, 1, none⟩ = some (.int .i64 (j : Int)) ∧ V.cell? ⟨b9, 2, none⟩ = some (.slice q' n c') := ⟨⟨(HW.out V HV.out).m.c0, (HW.out V HV.out).m.c1⟩, HR9.out.c0, HR9.out.c1, HR9.out.c2⟩
        refine wp_region_held_drew (S := fun X => (X.cell? ⟨bn, 0, none⟩ = some (.slice pl t.length cl) ∧ X.cell? ⟨bn, 1, none⟩ = some (.slice po off.length co)) ∧ X.cell? ⟨b9, 0, none⟩ = some (.int .i64 0) ∧ X.cell? ⟨b9, 1, none⟩ = some (.int .i64 (j : Int)) ∧ X.cell? ⟨b9, 2, none⟩ = some (.slice q' n c')) (by kernel_rfl) (by rw [← hV]; exact hS0) (fun hHeld => ?_)
        rw [← hV] at hHeld ⊢
        clear hV hS0
        refine take7 (i := 0) (d := 130) (v := .agg #[.slice pl t.length cl, .slice po off.length co]) rfl rfl (by kernel_rfl) (by kernel_rfl) (by kernel_rfl) (fun _ _ _ h => h) (Or.inl ⟨by rfl, ?_⟩) (by assumption) ?_
        · intro X hSw
          go_simp
        simp only [Act.put, List.setIfInBounds_toArray, List.set_cons_zero, List.set_cons_succ]
        refine take7 (i := 1) (d := 131) (v := .agg #[.int .i64 0, .int .i64 (j : Int), .slice q' n c']) rfl rfl (by kernel_rfl) (by kernel_rfl) (by kernel_rfl) (fun _ _ _ h => h) (Or.inl ⟨by rfl, ?_⟩) (by assumption) ?_
        · intro X hSw
          go_simp
        simp only [Act.put, List.setIfInBounds_toArray, List.set_cons_zero, List.set_cons_succ]

        obtain ⟨z0, z1, h0, h1⟩ := (HW.out V HV.out).r
        obtain ⟨y0, y1, y2, j0, j1, j2⟩ := (ex9_cells (HW.out V HV.out).r (HW.out V HV.out).p (by have := HB.out; omega) (.slice pl t.length cl) (.slice po off.length co) (.int .i64 0) (.int .i64 0) (.slice none 0 0)).1
        refine wpAnyH_ready (rs := [2]) (by kernel_rfl) (by simp) ?_
        refine AllReadyH.cons rfl (fun K hK => ?_) AllReadyH.nil
        go_simp
        refine hK.out _ _ (HKr.out _ _ _ (HKr.out _ _ _ hHeld)) (fun hHeld => ?_)
        clear hK K
        try simp only [Act.put, List.setIfInBounds_toArray, List.set_cons_zero, List.set_cons_succ]
        refine wpAnyH_ready (rs := [3]) (by kernel_rfl) (by simp) ?_
        refine AllReadyH.cons rfl (fun K hK => ?_) AllReadyH.nil
        go_simp
        refine hK.out _ _ (HKp.out _ _ _ (HKp.out _ _ _ (HKp.out _ _ _ hHeld))) (fun hHeld => ?_)
        clear hK K hHeld
        refine wpAnyH_done (by kernel_rfl) ?_ _
        clear z0 z1 h0 h1 y0 y1 y2 j0 j1 j2

        obtain ⟨g1, g2, g3⟩ := ex9_cells ((HW.out V HV.out)).r ((HW.out V HV.out)).p (by have := HB.out; omega) (.slice pl t.length cl) (.slice po off.length co) (.int .i64 0) (.int .i64 (j : Int)) (.slice q' n c')
        have HOut : Hid (Q (.returned (.tuple #[.agg #[.slice pl t.length cl, .slice po off.length co], .agg #[.int .i64 0, .int .i64 (j : Int), .slice q' n c']])) (ex9 V br bp (.slice pl t.length cl) (.slice po off.length co) (.int .i64 0) (.int .i64 (j : Int)) (.slice q' n c'))) := HQ.out _ _ (by
          have hN := HN.out
          have hG := HG.out
          have ei : Mp.inner q r.cn ⟨4, sp, ch, us, te, tt, to, (a : Int), (k : Int)⟩ = (q, ⟨0, (j : Int), (r.cn.posts.drop f0).take n⟩) := by
            have e1 : Mo.frmN ⟨4, sp, ch, us, te, tt, to, (a : Int), (k : Int)⟩ (Mp.toCh r.cn) = f0 := by
              show min ((a : Int)).toNat r.cn.posts.length = f0
              omega
            have e2 : Mo.endN ⟨4, sp, ch, us, te, tt, to, (a : Int), (k : Int)⟩ (Mp.toCh r.cn) = f0 + n := by
              show min (Mo.frmN ⟨4, sp, ch, us, te, tt, to, (a : Int), (k : Int)⟩ (Mp.toCh r.cn) + ((k : Int)).toNat) r.cn.posts.length = f0 + n
              rw [e1]
              omega
            unfold Mp.inner
            dsimp only
            rw [if_neg (by decide), if_neg (by decide), if_pos rfl, e1, e2, Nat.add_sub_cancel_left, ← hG.1]
          rw [ei]
          have hVw : Below w.heap.size w V := HU.out.trans (HV.out.mono HU.out.size)
          refine DoR.page HD.out HE.out.1 HE.out.2.1 HL.out (by rw [List.length_take, List.length_drop]; omega) ?_ ?_ (ex9_below hVw (by have := HB.out; omega) (by have := HB.out; omega) _ _ _ _ _) _
          · refine RowC.carry HMv.out.2.1 (fun g hg => ex9_other ?_ ?_ _ _ _ _ _)
            · have := HT.out.2.2.2 g hg; have := HB.out; have := HU1.out.1; omega
            · have := HT.out.2.2.2 g hg; have := HB.out; have := HU1.out.1; omega
          · intro g hg
            have := HT.out.2.2.2 g hg; have := HB.out; have := HU1.out.1; omega)
        obtain ⟨z0, z1, h0, h1⟩ := ((HW.out V HV.out)).r
        obtain ⟨y0, y1, y2, j0, j1, j2⟩ := g1
        obtain ⟨x0, x1, _, _⟩ := g2
        obtain ⟨x2, x3, x4, _, _, _⟩ := g3
        obtain ⟨F, hF⟩ : ∃ F, F = ex9 V br bp (.slice pl t.length cl) (.slice po off.length co) (.int .i64 0) (.int .i64 (j : Int)) (.slice q' n c') := ⟨_, rfl⟩
        rw [← hF] at HOut x0 x1 x2 x3 x4
        unfold ex9 at hF
        go_wp2
        rw [← hF]
        clear hF
        refine bodyPost_ret (v := .tuple #[.agg #[.slice pl t.length cl, .slice po off.length co], .agg #[.int .i64 0, .int .i64 (j : Int), .slice q' n c']]) ?qres rfl ?qpost
        case qres => simp [results, Try.results43, go_sem, x0, x1, x2, x3, x4]
        case qpost => exact HOut.out

    · have i1 : ¬ (n : Int) < (k : Int) := by omega
      have HG : Hid (j = f0 + n ∧ j ≤ m ∧ n ≤ k ∧ (k ≤ n ∨ m ≤ j)) := ⟨HT.out.1, hn1, hn2, by omega⟩
      go_upto_region 25 with fail
      obtain ⟨V, hV⟩ : ∃ V, V = wr.drew := ⟨_, rfl⟩
      have HV : Hid (Below u.heap.size u V) := by rw [hV]; exact HX.out.drew
      have HMv : Hid (Mk u V 2 (.slice q' n c') n (poCells ((r.cn.posts.drop f0).take n))) := by rw [hV]; exact HT.out.2.2.1.below (by decide) (below_drewN wr 1)
      have HR9 : Hid (R3 b9 (.int .i64 0) (.int .i64 (j : Int)) (.slice q' n c') V) := by rw [hV]; exact HT.out.2.1.below (below_drewN wr 1)
      clear r0 r1 r2 c3 o8 g0 g1 g2
      have HKr : Hid (∀ (X : World) (j' : Nat) (v : Value), ((X.cell? ⟨bn, 0, none⟩ = some (.slice pl t.length cl) ∧ X.cell? ⟨bn, 1, none⟩ = some (.slice po off.length co)) ∧ X.cell? ⟨b9, 0, none⟩ = some (.int .i64 0) ∧ X.cell? ⟨b9, 1, none⟩ = some (.int .i64 (j : Int)) ∧ X.cell? ⟨b9, 2, none⟩ = some (.slice q' n c')) → (fun X : World => (X.cell? ⟨bn, 0, none⟩ = some (.slice pl t.length cl) ∧ X.cell? ⟨bn, 1, none⟩ = some (.slice po off.length co)) ∧ X.cell? ⟨b9, 0, none⟩ = some (.int .i64 0) ∧ X.cell? ⟨b9, 1, none⟩ = some (.int .i64 (j : Int)) ∧ X.cell? ⟨b9, 2, none⟩ = some (.slice q' n c')) (X.setCell ⟨br, j', none⟩ v)) := fun X j' v h => by
        have hne := HB.out
        have h9 := HU1.out.1
        have n1 : br ≠ bn := by omega
        have n2 : br ≠ b9 := by omega
        simp only [World.cell?_setCell_far _ ⟨br, j', none⟩ ⟨bn, _, none⟩ _ n1, World.cell?_setCell_far _ ⟨br, j', none⟩ ⟨b9, _, none⟩ _ n2]
        exact h
      have HKp : Hid (∀ (X : World) (j' : Nat) (v : Value), ((X.cell? ⟨bn, 0, none⟩ = some (.slice pl t.length cl) ∧ X.cell? ⟨bn, 1, none⟩ = some (.slice po off.length co)) ∧ X.cell? ⟨b9, 0, none⟩ = some (.int .i64 0) ∧ X.cell? ⟨b9, 1, none⟩ = some (.int .i64 (j : Int)) ∧ X.cell? ⟨b9, 2, none⟩ = some (.slice q' n c')) → (fun X : World => (X.cell? ⟨bn, 0, none⟩ = some (.slice pl t.length cl) ∧ X.cell? ⟨bn, 1, none⟩ = some (.slice po off.length co)) ∧ X.cell? ⟨b9, 0, none⟩ = some (.int .i64 0) ∧ X.cell? ⟨b9, 1, none⟩ = some (.int .i64 (j : Int)) ∧ X.cell? ⟨b9, 2, none⟩ = some (.slice q' n c')) (X.setCell ⟨bp, j', none⟩ v)) := fun X j' v h => by
        have hne := HB.out
        have h9 := HU1.out.1
        have n1 : bp ≠ bn := by omega
        have n2 : bp ≠ b9 := by omega
        simp only [World.cell?_setCell_far _ ⟨bp, j', none⟩ ⟨bn, _, none⟩ _ n1, World.cell?_setCell_far _ ⟨bp, j', none⟩ ⟨b9, _, none⟩ _ n2]
        exact h
      have hS0 : (V.cell? ⟨bn, 0, none⟩ = some (.slice pl t.length cl) ∧ V.cell? ⟨bn, 1, none⟩ = some (.slice po off.length co)) ∧ V.cell? ⟨b9, 0, none⟩ = some (.int .i64 0) ∧ V.cell? ⟨b9, 1, none⟩ = some (.int .i64 (j : Int)) ∧ V.cell? ⟨b9, 2, none⟩ = some (.slice q' n c') := ⟨⟨(HW.out V HV.out).m.c0, (HW.out V HV.out).m.c1⟩, HR9.out.c0, HR9.out.c1, HR9.out.c2⟩
      refine wp_region_held_drew (S := fun X => (X.cell? ⟨bn, 0, none⟩ = some (.slice pl t.length cl) ∧ X.cell? ⟨bn, 1, none⟩ = some (.slice po off.length co)) ∧ X.cell? ⟨b9, 0, none⟩ = some (.int .i64 0) ∧ X.cell? ⟨b9, 1, none⟩ = some (.int .i64 (j : Int)) ∧ X.cell? ⟨b9, 2, none⟩ = some (.slice q' n c')) (by kernel_rfl) (by rw [← hV]; exact hS0) (fun hHeld => ?_)
      rw [← hV] at hHeld ⊢
      clear hV hS0
      refine take7 (i := 0) (d := 130) (v := .agg #[.slice pl t.length cl, .slice po off.length co]) rfl rfl (by kernel_rfl) (by kernel_rfl) (by kernel_rfl) (fun _ _ _ h => h) (Or.inl ⟨by rfl, ?_⟩) (by assumption) ?_
      · intro X hSw
        go_simp
      simp only [Act.put, List.setIfInBounds_toArray, List.set_cons_zero, List.set_cons_succ]
      refine take7 (i := 1) (d := 131) (v := .agg #[.int .i64 0, .int .i64 (j : Int), .slice q' n c']) rfl rfl (by kernel_rfl) (by kernel_rfl) (by kernel_rfl) (fun _ _ _ h => h) (Or.inl ⟨by rfl, ?_⟩) (by assumption) ?_
      · intro X hSw
        go_simp
      simp only [Act.put, List.setIfInBounds_toArray, List.set_cons_zero, List.set_cons_succ]

      obtain ⟨z0, z1, h0, h1⟩ := (HW.out V HV.out).r
      obtain ⟨y0, y1, y2, j0, j1, j2⟩ := (ex9_cells (HW.out V HV.out).r (HW.out V HV.out).p (by have := HB.out; omega) (.slice pl t.length cl) (.slice po off.length co) (.int .i64 0) (.int .i64 0) (.slice none 0 0)).1
      refine wpAnyH_ready (rs := [2]) (by kernel_rfl) (by simp) ?_
      refine AllReadyH.cons rfl (fun K hK => ?_) AllReadyH.nil
      go_simp
      refine hK.out _ _ (HKr.out _ _ _ (HKr.out _ _ _ hHeld)) (fun hHeld => ?_)
      clear hK K
      try simp only [Act.put, List.setIfInBounds_toArray, List.set_cons_zero, List.set_cons_succ]
      refine wpAnyH_ready (rs := [3]) (by kernel_rfl) (by simp) ?_
      refine AllReadyH.cons rfl (fun K hK => ?_) AllReadyH.nil
      go_simp
      refine hK.out _ _ (HKp.out _ _ _ (HKp.out _ _ _ (HKp.out _ _ _ hHeld))) (fun hHeld => ?_)
      clear hK K hHeld
      refine wpAnyH_done (by kernel_rfl) ?_ _
      clear z0 z1 h0 h1 y0 y1 y2 j0 j1 j2

      obtain ⟨g1, g2, g3⟩ := ex9_cells ((HW.out V HV.out)).r ((HW.out V HV.out)).p (by have := HB.out; omega) (.slice pl t.length cl) (.slice po off.length co) (.int .i64 0) (.int .i64 (j : Int)) (.slice q' n c')
      have HOut : Hid (Q (.returned (.tuple #[.agg #[.slice pl t.length cl, .slice po off.length co], .agg #[.int .i64 0, .int .i64 (j : Int), .slice q' n c']])) (ex9 V br bp (.slice pl t.length cl) (.slice po off.length co) (.int .i64 0) (.int .i64 (j : Int)) (.slice q' n c'))) := HQ.out _ _ (by
        have hN := HN.out
        have hG := HG.out
        have ei : Mp.inner q r.cn ⟨4, sp, ch, us, te, tt, to, (a : Int), (k : Int)⟩ = (q, ⟨0, (j : Int), (r.cn.posts.drop f0).take n⟩) := by
          have e1 : Mo.frmN ⟨4, sp, ch, us, te, tt, to, (a : Int), (k : Int)⟩ (Mp.toCh r.cn) = f0 := by
            show min ((a : Int)).toNat r.cn.posts.length = f0
            omega
          have e2 : Mo.endN ⟨4, sp, ch, us, te, tt, to, (a : Int), (k : Int)⟩ (Mp.toCh r.cn) = f0 + n := by
            show min (Mo.frmN ⟨4, sp, ch, us, te, tt, to, (a : Int), (k : Int)⟩ (Mp.toCh r.cn) + ((k : Int)).toNat) r.cn.posts.length = f0 + n
            rw [e1]
            omega
          unfold Mp.inner
          dsimp only
          rw [if_neg (by decide), if_neg (by decide), if_pos rfl, e1, e2, Nat.add_sub_cancel_left, ← hG.1]
        rw [ei]
        have hVw : Below w.heap.size w V := HU.out.trans (HV.out.mono HU.out.size)
        refine DoR.page HD.out HE.out.1 HE.out.2.1 HL.out (by rw [List.length_take, List.length_drop]; omega) ?_ ?_ (ex9_below hVw (by have := HB.out; omega) (by have := HB.out; omega) _ _ _ _ _) _
        · refine RowC.carry HMv.out.2.1 (fun g hg => ex9_other ?_ ?_ _ _ _ _ _)
          · have := HT.out.2.2.2 g hg; have := HB.out; have := HU1.out.1; omega
          · have := HT.out.2.2.2 g hg; have := HB.out; have := HU1.out.1; omega
        · intro g hg
          have := HT.out.2.2.2 g hg; have := HB.out; have := HU1.out.1; omega)
      obtain ⟨z0, z1, h0, h1⟩ := ((HW.out V HV.out)).r
      obtain ⟨y0, y1, y2, j0, j1, j2⟩ := g1
      obtain ⟨x0, x1, _, _⟩ := g2
      obtain ⟨x2, x3, x4, _, _, _⟩ := g3
      obtain ⟨F, hF⟩ : ∃ F, F = ex9 V br bp (.slice pl t.length cl) (.slice po off.length co) (.int .i64 0) (.int .i64 (j : Int)) (.slice q' n c') := ⟨_, rfl⟩
      rw [← hF] at HOut x0 x1 x2 x3 x4
      unfold ex9 at hF
      go_wp2
      rw [← hF]
      clear hF
      refine bodyPost_ret (v := .tuple #[.agg #[.slice pl t.length cl, .slice po off.length co], .agg #[.int .i64 0, .int .i64 (j : Int), .slice q' n c']]) ?qres rfl ?qpost
      case qres => simp [results, Try.results43, go_sem, x0, x1, x2, x3, x4]
      case qpost => exact HOut.out

end Go.Proofs.Ytkioeahlajjmiaa

/-
  The document's within: a channel is moved.
-/
namespace Go.Proofs.Ytkioeahlajjmiaa
open Go.RowKit

theorem sorted_list {t : List Rw} {q : Mp.Dm} (hq : t.map (·.cn) = q.list) (hso : Mp.Sorted Rw.key Mp.ltK t) : Mp.Sorted Mp.Cn.key Mp.ltK q.list := by
  rw [← hq]
  unfold Mp.Sorted at hso ⊢
  rw [List.pairwise_map]
  exact hso
theorem look_some {t : List Rw} {q : Mp.Dm} (hq : t.map (·.cn) = q.list) (hso : Mp.Sorted Rw.key Mp.ltK t) {p : Rw} (hp : p ∈ t) {x y : ByteArray} (hk : p.key = (x, y)) : Mp.look q x y = some p.cn :=
  (Mp.look_iff (sorted_list hq hso)).2 ⟨by rw [← hq]; exact List.mem_map.2 ⟨p, hp, rfl⟩, hk⟩
theorem look_nil {t : List Rw} {q : Mp.Dm} (hq : t.map (·.cn) = q.list) {x y : ByteArray} (h : ∀ p ∈ t, p.key ≠ (x, y)) : Mp.look q x y = none := by
  unfold Mp.look
  refine List.find?_eq_none.2 (fun c hc => ?_)
  rw [← hq] at hc
  obtain ⟨p, hp, rfl⟩ := List.mem_map.1 hc
  exact fun e => h p hp (of_decide_eq_true e)
/-- The model's box is another one. -/
theorem Wi.mbox {bn bc bo br bp : Nat} {a b x y z v a' b' : Value} {o : Mo.Op} {X : World} (h : Wi bn bc bo br bp a b x y z v o X) (hne : bc ≠ bn ∧ bo ≠ bn ∧ br ≠ bn ∧ bp ≠ bn) : Wi bn bc bo br bp a' b' x y z v o ((X.setCell ⟨bn, 0, none⟩ a').setCell ⟨bn, 1, none⟩ b') := by
  have e : ∀ k, k ≠ bn → ((X.setCell ⟨bn, 0, none⟩ a').setCell ⟨bn, 1, none⟩ b').heap[k]? = X.heap[k]? := fun k hk => by rw [Below.heap_setCell _ _ _ _ hk, Below.heap_setCell _ _ _ _ hk]
  have e1 := e bo hne.2.1
  exact ⟨(h.m.set0 a').set1 b', h.c.keep (e bc hne.1), fun j => (World.frozen?_of_block (a := ⟨bc, j, none⟩) (e bc hne.1)).trans (h.cf j), (World.cell?_of_block (a := ⟨bo, 0, none⟩) e1).trans h.o0, (World.cell?_of_block (a := ⟨bo, 1, none⟩) e1).trans h.o1, (World.cell?_of_block (a := ⟨bo, 2, none⟩) e1).trans h.o2, (World.cell?_of_block (a := ⟨bo, 3, none⟩) e1).trans h.o3, (World.cell?_of_block (a := ⟨bo, 4, none⟩) e1).trans h.o4, (World.cell?_of_block (a := ⟨bo, 5, none⟩) e1).trans h.o5, (World.cell?_of_block (a := ⟨bo, 6, none⟩) e1).trans h.o6, (World.cell?_of_block (a := ⟨bo, 7, none⟩) e1).trans h.o7, (World.cell?_of_block (a := ⟨bo, 8, none⟩) e1).trans h.o8, h.r.keep (e br hne.2.2.1), h.p.keep (e bp hne.2.2.2)⟩
/-- What the call's lists may be. -/
def Lp (L : Nat → Prop) (w : World) (us : Nat) (g : Nat) : Prop := L g ∧ (g < w.heap.size ∨ us ≤ g)
/-- The end of a call that put a channel, of a list of the call's own. -/
theorem DoR.putZ {L : Nat → Prop} {w Z Y : World} {pl po p' : Option Addr} {cl co c' : Nat} {t : List Rw} {q : Mp.Dm} {r' : Rw} {br bp us : Nat} (h1 : DvT (Lp L w us) Z pl cl po co t q.off) (hq : t.map (·.cn) = q.list) (hL : ∀ g, w.heap.size ≤ g → L g) (hZ : Below w.heap.size w Z) (hz : us ≤ Z.heap.size) (hbr : w.heap.size ≤ br ∧ br < us) (hbp : w.heap.size ≤ bp ∧ bp < us)
    (hM : Mk Z Y 4 (.slice p' (Mp.ins Rw.key Mp.ltK r' t).length c') (Mp.ins Rw.key Mp.ltK r' t).length (lsC (Mp.ins Rw.key Mp.ltK r' t))) (hr : (Tx Z r'.vm r'.cn.mems ∧ RowC Z 2 r'.vp r'.cn.posts.length (poCells r'.cn.posts)) ∧ (∀ g, cBlk r'.vm = some g → Lp L w us g) ∧ (∀ g, cBlk r'.vp = some g → Lp L w us g)) (at_ : Int) :
    DoR L w (Mp.put q r'.cn, ⟨0, at_, []⟩) (.returned (.tuple #[.agg #[.slice p' (Mp.ins Rw.key Mp.ltK r' t).length c', .slice po q.off.length co], .agg #[.int .i64 0, .int .i64 at_, .slice none 0 0]])) (ex9 Y br bp (.slice p' (Mp.ins Rw.key Mp.ltK r' t).length c') (.slice po q.off.length co) (.int .i64 0) (.int .i64 at_) (.slice none 0 0)) := by
  have hw := hZ.size
  have hLZ : ∀ g, Z.heap.size ≤ g → Lp L w us g := fun g hg => ⟨hL g (by omega), .inr (by omega)⟩
  have h2 := h1.relist hLZ hM (fun p hp => by
    rcases (Mp.ins_mem Mp.linK).1 hp with e | e
    · rw [e]
      exact .inr ⟨⟨hr.1.1.below hM.1, RowC.carry hr.1.2 (fun g hg => hM.1.block g (RowC.lt hr.1.2 (by decide) hg))⟩, hr.2⟩
    · exact .inl e.1)
  have hYw : Below w.heap.size w Y := hZ.trans (hM.1.mono hZ.size)
  have h3 := (h2.carry (w' := ex9 Y br bp (.slice p' (Mp.ins Rw.key Mp.ltK r' t).length c') (.slice po q.off.length co) (.int .i64 0) (.int .i64 at_) (.slice none 0 0)) (fun g hg _ => by
    have h9 := hg.2
    exact ex9_other (by omega) (by omega) _ _ _ _ _)).weak (L' := L) (fun g hg _ => hg.1)
  exact ⟨_, none, 0, rfl, RowC.nil _ _ _, fun g hg => by simp [cBlk] at hg, ⟨p', c', po, co, _, rfl, by rw [ins_cn, hq]; rfl, h3⟩, ex9_below hYw hbr.1 hbp.1 _ _ _ _ _⟩

set_option maxHeartbeats 6400000 in
set_option maxRecDepth 20000 in
theorem within5 {L : Nat → Prop} {w : World} {pl po : Option Addr} {cl co : Nat} {t : List Rw} {off : List ByteArray} {q : Mp.Dm} (h : DvT L w pl cl po co t off) (hq : t.map (·.cn) = q.list) (hoff : off = q.off) (hL : ∀ g, w.heap.size ≤ g → L g) {r : Rw} (hr : r ∈ t) (hso : Mp.Sorted Rw.key Mp.ltK t) (hn : t.length ≤ 1000000) (sp ch us te tt to : ByteArray) (fr mo : Int)  :
    Calls Try.prog 43 #[.agg #[.slice pl t.length cl, .slice po off.length co], .agg #[.string r.cn.space, .string r.cn.name, .slice r.pm r.cn.mems.length r.cm, .slice r.pp r.cn.posts.length r.cp], .agg #[.int .i64 5, .string sp, .string ch, .string us, .string te, .string tt, .string to, .int .i64 fr, .int .i64 mo]] w (DoR L w (Mp.inner q r.cn ⟨5, sp, ch, us, te, tt, to, fr, mo⟩)) := by
  obtain ⟨u, hu, hbu, hus, hWi⟩ := Wi.start w (.slice pl t.length cl) (.slice po off.length co) (.string r.cn.space) (.string r.cn.name) (.slice r.pm r.cn.mems.length r.cm) (.slice r.pp r.cn.posts.length r.cp) ⟨5, sp, ch, us, te, tt, to, fr, mo⟩
  dsimp only at hu
  obtain ⟨bn, hbn⟩ : ∃ bn, bn = w.heap.size := ⟨_, rfl⟩
  obtain ⟨bc, hbc⟩ : ∃ bc, bc = w.heap.size + 1 := ⟨_, rfl⟩
  obtain ⟨bo, hbo⟩ : ∃ bo, bo = w.heap.size + 1 + 1 := ⟨_, rfl⟩
  obtain ⟨br, hbr⟩ : ∃ br, br = w.heap.size + 1 + 1 + 1 := ⟨_, rfl⟩
  obtain ⟨bp, hbp⟩ : ∃ bp, bp = w.heap.size + 1 + 1 + 1 + 1 := ⟨_, rfl⟩
  rw [← hbp, ← hbr, ← hbo, ← hbc, ← hbn] at hWi
  have HW : Hid (∀ X, Below u.heap.size u X → Wi bn bc bo br bp (.slice pl t.length cl) (.slice po off.length co) (.string r.cn.space) (.string r.cn.name) (.slice r.pm r.cn.mems.length r.cm) (.slice r.pp r.cn.posts.length r.cp) ⟨5, sp, ch, us, te, tt, to, fr, mo⟩ X) := fun X hX => hWi.below hX
  have HB : Hid (bn = w.heap.size ∧ bc = w.heap.size + 1 ∧ bo = w.heap.size + 2 ∧ br = w.heap.size + 3 ∧ bp = w.heap.size + 4 ∧ u.heap.size = w.heap.size + 5) := ⟨hbn, hbc, by omega, by omega, by omega, hus⟩
  have HU : Hid (Below w.heap.size w u) := hbu
  have HD : Hid (DvT L w pl cl po co t off) := h
  have HL : Hid (∀ g, w.heap.size ≤ g → L g) := hL
  have HE : Hid (t.map (·.cn) = q.list ∧ off = q.off ∧ r ∈ t ∧ Mp.Sorted Rw.key Mp.ltK t ∧ t.length ≤ 1000000) := ⟨hq, hoff, hr, hso, hn⟩
  generalize hQ : DoR L w (Mp.inner q r.cn ⟨5, sp, ch, us, te, tt, to, fr, mo⟩) = Q
  have HQ : Hid (∀ e w', DoR L w (Mp.inner q r.cn ⟨5, sp, ch, us, te, tt, to, fr, mo⟩) e w' → Q e w') := fun e w' h => by rw [← hQ]; exact h
  have HF : Hid (∀ X, Below u.heap.size u X → Calls Try.prog 39 #[.agg #[.slice pl t.length cl, .slice po off.length co], .string tt, .string to] X fun e w' => ∃ k : Int, e = .returned (.int .i64 k) ∧ Where t tt to k ∧ Below X.heap.size X w') := fun X hX => rFind_c (HD.out.ls.below (HU.out.trans (hX.mono HU.out.size))) HE.out.2.2.2.2 po off.length co tt to
  have HDr : Hid (∀ X, Below u.heap.size u X → Calls Try.prog 65 #[.agg #[.slice pl t.length cl, .slice po off.length co], .string sp, .string ch] X fun e w' => ∃ p' n' c', e = .returned (.agg #[.slice p' n' c', .slice po off.length co]) ∧ Below X.heap.size X w' ∧ Hid (n' = (t.filter (notK sp ch)).length ∧ Mk X w' 4 (.slice p' (t.filter (notK sp ch)).length c') (t.filter (notK sp ch)).length (lsC (t.filter (notK sp ch))))) := fun X hX => by
    refine (rDrop_c (HD.out.ls.below (HU.out.trans (hX.mono HU.out.size))) HE.out.2.2.2.2 po off.length co sp ch).mono ?_
    rintro e w' ⟨p', c', rfl, hM⟩
    exact ⟨p', _, c', rfl, hM.1, rfl, hM⟩
  clear h hbu hWi hQ hus hL hq hoff hr hso hn 
  go_enter Try.func43, Try.ntmps43
  go_upto_region 26 with fail
  rw [← hu, ← hbp, ← hbr, ← hbo, ← hbc, ← hbn]
  clear hu hbp hbr hbo hbc hbn
  have H0 : Hid (Below u.heap.size u u) := Below.refl _ _
  have hw0 := HW.out u H0.out
  obtain ⟨⟨n0, n1, _, _⟩, _, _, _, _, _, _, _, o5, o6, _, _, _, _⟩ := hw0
  go_wp2_with fail
  refine (HF.out u H0.out).mono ?_
  rintro e I1 ⟨k, rfl, hk, hbI1⟩
  have HI1 : Hid (Below u.heap.size u I1) := H0.out.trans (hbI1.mono H0.out.size)
  clear hbI1 n0 n1 o5 o6
  rcases hk with ⟨rfl, hno⟩ | ⟨i, p, rfl, hp, hkey⟩
  · have HNo : Hid (Mp.look q tt to = none) := look_nil HE.out.1 hno
    clear hno
    obtain ⟨⟨n0, n1, _, _⟩, _, _, _, o1, o2, _, _, _, _, _, _, _, _⟩ := HW.out I1 HI1.out
    go_wp2_with fail
    refine (HDr.out I1 HI1.out).mono ?_
    rintro e D ⟨pd, nd, cd, rfl, hbD, HMd⟩
    have HDd : Hid (Below u.heap.size u D) := HI1.out.trans (hbD.mono HI1.out.size)
    clear hbD n0 n1 o1 o2
    obtain ⟨Z1, hZ1⟩ : ∃ Z1, Z1 = (D.setCell ⟨bn, 0, none⟩ (.slice pd nd cd)).setCell ⟨bn, 1, none⟩ (.slice po off.length co) := ⟨_, rfl⟩
    have hW1 : Wi bn bc bo br bp (.slice pd nd cd) (.slice po off.length co) (.string r.cn.space) (.string r.cn.name) (.slice r.pm r.cn.mems.length r.cm) (.slice r.pp r.cn.posts.length r.cp) ⟨5, sp, ch, us, te, tt, to, fr, mo⟩ Z1 := by rw [hZ1]; exact (HW.out D HDd.out).mbox (by have := HB.out; omega)
    have h0 := hW1.box 0 (.string tt) (x' := .string tt) (y' := .string r.cn.name) (z' := .slice r.pm r.cn.mems.length r.cm) (v' := .slice r.pp r.cn.posts.length r.cp) (by have := HB.out; omega) (hW1.c.set0 _)
    have h1 := h0.box 1 (.string to) (x' := .string tt) (y' := .string to) (z' := .slice r.pm r.cn.mems.length r.cm) (v' := .slice r.pp r.cn.posts.length r.cp) (by have := HB.out; omega) (h0.c.set1 _)
    obtain ⟨Z2, hZ2⟩ : ∃ Z2, Z2 = Z1.setCell ⟨bc, 0, none⟩ (.string tt) := ⟨_, rfl⟩
    obtain ⟨Z, hZ⟩ : ∃ Z, Z = Z2.setCell ⟨bc, 1, none⟩ (.string to) := ⟨_, rfl⟩
    rw [← hZ2] at h0 h1
    rw [← hZ] at h1
    have HZk : Hid (∀ k, k ≠ bn → k ≠ bc → Z.heap[k]? = D.heap[k]?) := fun k e1 e2 => by
      rw [hZ, hZ2, hZ1, Below.heap_setCell _ _ _ _ e2, Below.heap_setCell _ _ _ _ e2, Below.heap_setCell _ _ _ _ e1, Below.heap_setCell _ _ _ _ e1]
    have HZb : Hid (Below w.heap.size w Z ∧ Z.heap.size = D.heap.size) := by
      have b1 : Below w.heap.size w Z1 := by
        rw [hZ1]
        exact ((HU.out.trans (HDd.out.mono HU.out.size)).setCell (p := ⟨bn, 0, none⟩) (by show _ ≤ bn; have := HB.out; omega) _).setCell (p := ⟨bn, 1, none⟩) (by show _ ≤ bn; have := HB.out; omega) _
      have b2 : Below w.heap.size w Z2 := by rw [hZ2]; exact b1.setCell (p := ⟨bc, 0, none⟩) (by show _ ≤ bc; have := HB.out; omega) _
      refine ⟨by rw [hZ]; exact b2.setCell (p := ⟨bc, 1, none⟩) (by show _ ≤ bc; have := HB.out; omega) _, ?_⟩
      rw [hZ, hZ2, hZ1, size_set9, size_set9, size_set9, size_set9]
    have HE1 : Hid (Z1 = (D.setCell ⟨bn, 0, none⟩ (.slice pd nd cd)).setCell ⟨bn, 1, none⟩ (.slice po off.length co)) := hZ1
    have HE2 : Hid (Z2 = Z1.setCell ⟨bc, 0, none⟩ (.string tt)) := hZ2
    have HE3 : Hid (Z = Z2.setCell ⟨bc, 1, none⟩ (.string to)) := hZ
    clear hZ hZ2 hZ1
    have HWZ : Hid (∀ Y, Below Z.heap.size Z Y → Wi bn bc bo br bp (.slice pd nd cd) (.slice po off.length co) (.string tt) (.string to) (.slice r.pm r.cn.mems.length r.cm) (.slice r.pp r.cn.posts.length r.cp) ⟨5, sp, ch, us, te, tt, to, fr, mo⟩ Y) := fun Y hY => h1.below hY
    have HW1 : Hid (Wi bn bc bo br bp (.slice pd nd cd) (.slice po off.length co) (.string r.cn.space) (.string r.cn.name) (.slice r.pm r.cn.mems.length r.cm) (.slice r.pp r.cn.posts.length r.cp) ⟨5, sp, ch, us, te, tt, to, fr, mo⟩ Z1) := hW1
    have HW2 : Hid (Wi bn bc bo br bp (.slice pd nd cd) (.slice po off.length co) (.string tt) (.string r.cn.name) (.slice r.pm r.cn.mems.length r.cm) (.slice r.pp r.cn.posts.length r.cp) ⟨5, sp, ch, us, te, tt, to, fr, mo⟩ Z2) := h0
    clear h0 h1 hW1
    obtain ⟨n0, n1, g0, g1⟩ := (HW.out D HDd.out).m
    go_upto_region 29 with fail
    rw [← HE1.out]
    clear n0 n1 g0 g1
    have f0 := HW1.out.cf 0
    obtain ⟨_, ⟨c0, c1, c2, c3⟩, _, _, _, _, _, _, o5, _, _, _, _, _⟩ := HW1.out
    clear c1 c2 c3
    go_upto_region 30 with fail
    rw [← HE2.out]
    clear c0 f0 o5
    have f1 := HW2.out.cf 1
    obtain ⟨_, ⟨c0, c1, c2, c3⟩, _, _, _, _, _, _, _, o6, _, _, _, _⟩ := HW2.out
    clear c0 c2 c3
    go_upto_region 31 with fail
    rw [← HE3.out]
    clear c1 f1 o6
    have HDz : Hid (DvT (Lp L w u.heap.size) Z pd cd po co (t.filter (notK sp ch)) off) := by
      have b1 : DvT (Lp L w u.heap.size) w pl cl po co t off := HD.out.weak (fun g hg hl => ⟨hg, .inl hl⟩)
      have b2 := b1.below (HU.out.trans (HI1.out.mono HU.out.size))
      have b3 := b2.relist (fun g hg => ⟨HL.out g (by have := HU.out.size; have := HI1.out.size; omega), .inr (by have := HI1.out.size; omega)⟩) (by have := HMd.out.2; exact this) (t' := (t.filter (notK sp ch))) (fun p hp => .inl (List.mem_filter.1 hp).1)
      exact b3.carry (fun g hg _ => HZk.out g (by have := hg.2; have := HB.out; omega) (by have := hg.2; have := HB.out; omega))
    have HnD : Hid (nd = (t.filter (notK sp ch)).length) := HMd.out.1
    have HP : Hid (∀ X, Below Z.heap.size Z X → Calls Try.prog 40 #[.agg #[.slice pd nd cd, .slice po off.length co], .agg #[.string tt, .string to, .slice r.pm r.cn.mems.length r.cm, .slice r.pp r.cn.posts.length r.cp]] X fun e Y => ∃ p' n' c', e = .returned (.agg #[.slice p' n' c', .slice po off.length co]) ∧ Below X.heap.size X Y ∧ Hid (n' = (Mp.ins Rw.key Mp.ltK (⟨⟨tt, to, r.cn.mems, r.cn.posts⟩, r.pm, r.cm, r.pp, r.cp⟩ : Rw) (t.filter (notK sp ch))).length ∧ Mk X Y 4 (.slice p' (Mp.ins Rw.key Mp.ltK (⟨⟨tt, to, r.cn.mems, r.cn.posts⟩, r.pm, r.cm, r.pp, r.cp⟩ : Rw) (t.filter (notK sp ch))).length c') (Mp.ins Rw.key Mp.ltK (⟨⟨tt, to, r.cn.mems, r.cn.posts⟩, r.pm, r.cm, r.pp, r.cp⟩ : Rw) (t.filter (notK sp ch))).length (lsC (Mp.ins Rw.key Mp.ltK (⟨⟨tt, to, r.cn.mems, r.cn.posts⟩, r.pm, r.cm, r.pp, r.cp⟩ : Rw) (t.filter (notK sp ch)))))) := fun X hX => by
      have h9 := rPut_c (HDz.out.ls.below hX) (Nat.le_trans (List.length_filter_le _ _) HE.out.2.2.2.2) po off.length co ⟨⟨tt, to, r.cn.mems, r.cn.posts⟩, r.pm, r.cm, r.pp, r.cp⟩ (HE.out.2.2.2.1.filter _)
      dsimp only at h9
      rw [← HnD.out] at h9
      refine h9.mono ?_
      rintro e Y ⟨p', c', rfl, hM⟩
      exact ⟨p', _, c', rfl, hM.1, rfl, hM⟩
    have HZZ : Hid (Below Z.heap.size Z Z) := Below.refl _ _
    obtain ⟨⟨n0, n1, _, _⟩, ⟨c0, c1, c2, c3⟩, _, _, _, _, _, _, _, _, _, _, _, _⟩ := HWZ.out Z HZZ.out
    go_wp2_with fail
    refine (HP.out Z HZZ.out).mono ?_
    rintro e Y ⟨p', n', c', rfl, hM1, HM1⟩
    have HbY : Hid (Below Z.heap.size Z Y) := hM1
    clear n0 n1 c0 c1 c2 c3 hM1
    obtain ⟨g1, g2, g3⟩ := ex9_cells (HWZ.out Y HbY.out).r (HWZ.out Y HbY.out).p (by have := HB.out; omega) (.slice p' n' c') (.slice po off.length co) (.int .i64 0) (.int .i64 0) (.slice none 0 0)
    have HOut : Hid (Q (.returned (.tuple #[.agg #[.slice p' n' c', .slice po off.length co], .agg #[.int .i64 0, .int .i64 0, .slice none 0 0]])) (ex9 Y br bp (.slice p' n' c') (.slice po off.length co) (.int .i64 0) (.int .i64 0) (.slice none 0 0))) := HQ.out _ _ (by
      have ei : Mp.inner q r.cn ⟨5, sp, ch, us, te, tt, to, fr, mo⟩ = (Mp.put (Mp.drop q sp ch) ⟨tt, to, r.cn.mems, r.cn.posts⟩, ⟨0, 0, []⟩) := by
        unfold Mp.inner
        dsimp only
        rw [if_neg (by decide), if_neg (by decide), if_neg (by decide), HNo.out]
      rw [ei]
      obtain ⟨hn', hM⟩ := HM1.out
      subst hn'
      have hrr := HD.out.rows r HE.out.2.2.1
      have hbr := HD.out.br r HE.out.2.2.1
      have hof := HE.out.2.1
      subst hof
      refine DoR.putZ (q := Mp.drop q sp ch) (r' := ⟨⟨tt, to, r.cn.mems, r.cn.posts⟩, r.pm, r.cm, r.pp, r.cp⟩) HDz.out ?_ HL.out HZb.out.1 (by rw [HZb.out.2]; exact HDd.out.size) (by have := HB.out; omega) (by have := HB.out; omega) hM ⟨⟨hrr.1.below HZb.out.1, RowC.carry hrr.2 (fun g hg => HZb.out.1.block g (RowC.lt hrr.2 (by decide) hg))⟩, fun g hg => ⟨hbr.1 g hg, .inl (RowC.lt hrr.1 (by decide) hg)⟩, fun g hg => ⟨hbr.2 g hg, .inl (RowC.lt hrr.2 (by decide) hg)⟩⟩ 0
      show List.map _ (List.filter _ t) = List.filter _ q.list
      rw [← HE.out.1, List.filter_map]
      rfl)
    obtain ⟨z0, z1, h0, h1⟩ := (HWZ.out Y HbY.out).r
    obtain ⟨y0, y1, y2, j0, j1, j2⟩ := g1
    obtain ⟨x0, x1, _, _⟩ := g2
    obtain ⟨x2, x3, x4, _, _, _⟩ := g3
    obtain ⟨F, hF⟩ : ∃ F, F = ex9 Y br bp (.slice p' n' c') (.slice po off.length co) (.int .i64 0) (.int .i64 0) (.slice none 0 0) := ⟨_, rfl⟩
    rw [← hF] at HOut x0 x1 x2 x3 x4
    unfold ex9 at hF
    go_wp2
    rw [← hF]
    clear hF
    refine bodyPost_ret (v := .tuple #[.agg #[.slice p' n' c', .slice po off.length co], .agg #[.int .i64 0, .int .i64 0, .slice none 0 0]]) ?qres rfl ?qpost
    case qres => simp [results, Try.results43, go_sem, x0, x1, x2, x3, x4]
    case qpost => exact HOut.out
  · have HYes : Hid (Mp.look q tt to = some p.cn) := look_some HE.out.1 HE.out.2.2.2.1 (List.mem_of_getElem? hp) hkey
    clear hp hkey
    have hi0 : (0 : Int) ≤ (i : Int) := by omega
    obtain ⟨n0, n1, _, _⟩ := (HW.out I1 HI1.out).m
    go_wp2_with fail
    refine (no_c I1 _ _ _ _ _ _ 90).mono ?_
    rintro e N1 ⟨rfl, hbN1⟩
    have HN1 : Hid (Below u.heap.size u N1) := HI1.out.trans (hbN1.mono HI1.out.size)
    clear hbN1 n0 n1

    obtain ⟨g1, g2, g3⟩ := ex9_cells (HW.out N1 HN1.out).r (HW.out N1 HN1.out).p (by have := HB.out; omega) (.slice pl t.length cl) (.slice po off.length co) (.int .i64 90) (.int .i64 0) (.slice none 0 0)
    have HOut : Hid (Q (.returned (.tuple #[.agg #[.slice pl t.length cl, .slice po off.length co], .agg #[.int .i64 90, .int .i64 0, .slice none 0 0]])) (ex9 N1 br bp (.slice pl t.length cl) (.slice po off.length co) (.int .i64 90) (.int .i64 0) (.slice none 0 0))) := HQ.out _ _ (by unfold Mp.inner; dsimp only; rw [if_neg (by decide), if_neg (by decide), if_neg (by decide), HYes.out]; exact DoR.no HD.out HE.out.1 HE.out.2.1 (ex9_below (HU.out.trans (HN1.out.mono HU.out.size)) (by have := HB.out; omega) (by have := HB.out; omega) _ _ _ _ _) _)
    obtain ⟨z0, z1, h0, h1⟩ := (HW.out N1 HN1.out).r
    obtain ⟨y0, y1, y2, j0, j1, j2⟩ := g1
    obtain ⟨x0, x1, _, _⟩ := g2
    obtain ⟨x2, x3, x4, _, _, _⟩ := g3
    obtain ⟨F, hF⟩ : ∃ F, F = ex9 N1 br bp (.slice pl t.length cl) (.slice po off.length co) (.int .i64 90) (.int .i64 0) (.slice none 0 0) := ⟨_, rfl⟩
    rw [← hF] at HOut x0 x1 x2 x3 x4
    unfold ex9 at hF
    go_wp2
    rw [← hF]
    clear hF
    refine bodyPost_ret (v := .tuple #[.agg #[.slice pl t.length cl, .slice po off.length co], .agg #[.int .i64 90, .int .i64 0, .slice none 0 0]]) ?qres rfl ?qpost
    case qres => simp [results, Try.results43, go_sem, x0, x1, x2, x3, x4]
    case qpost => exact HOut.out

end Go.Proofs.Ytkioeahlajjmiaa
