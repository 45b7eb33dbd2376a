/-
  For every number room and every script of calls: DiskPlays answers true: whatever is added, trimmed, swapped and synced, and whenever the power fails, a disk holds what the document's does; the arguments read afterwards as before. No condition.
-/
import Derived.Test.YtncchapgoedncaaDpLoop
import Derived.Test.YtncchapgoedncaaDkAwake
import Derived.ProofKit
import Derived.OpenShut
import Derived.ShutString
import Derived.SizedLaws
namespace Go.Proofs.Ytncchapgoedncaa.diskPlays
open Go.ChangeShapes Go.WideShapes Go.ChangeAt Go.RowKit Go.Deep
open Go.ChangeMaps (open_string shut_string)

set_option maxHeartbeats 800000 in
set_option maxRecDepth 20000 in
theorem walk_out (a0 : Int) (v1 : Value) (w : World) (h : a0 < 1 ∨ 16777216 < a0) :
    Calls Try.prog 3 #[.int .i64 a0, v1] w fun e w' => e = .returned (.bool true) ∧ Below w.heap.size w w' := by
  have HN : Hid _ := New_no a0 w h
  have h' : decide (a0 < 1) = true ∨ (decide (a0 < 1) = false ∧ decide (16777216 < a0) = true) := by
    by_cases e : a0 < 1
    · exact .inl (decide_eq_true e)
    · exact .inr ⟨decide_eq_false e, decide_eq_true (by omega)⟩
  have HR : Hid _ := ref_New_out w a0 h'
  have HA : Hid (∀ W : World, Calls Try.prog 6 #[] W fun e w' => e = .returned (.bool true) ∧ Below W.heap.size W w') := awake3
  clear h h'
  go_enter Try.func3, Try.ntmps3
  go_wp2_with fail
  refine Calls.mono HN.out ?_
  rintro e w1 ⟨rfl, hw⟩
  have hw := hw.symm
  subst hw
  go_wp2_with fail
  refine Calls.mono HR.out ?_
  rintro e w2 ⟨rfl, hb2⟩
  have HB2 : Hid _ := hb2
  clear hb2
  go_wp2_with fail
  refine (HA.out _).mono ?_
  rintro e w3 ⟨rfl, hb3⟩
  have hb4 : Below w2.heap.size w2 w3 := ((Below.refl _ w2).alloc (Nat.le_refl _) _).trans (hb3.mono (by simp))
  have HB4 : Hid _ := hb4
  clear hb3 hb4
  go_wp2
  go_ret
  exact ⟨rfl, HB2.out.trans (HB4.out.mono HB2.out.size)⟩

set_option maxHeartbeats 2000000 in
set_option maxRecDepth 20000 in
theorem walk_in (room : Nat) (h1 : 1 ≤ room) (h2 : room ≤ 16777216) (v1 : Value) (n : Nat) (w : World) (hops : Ops w v1 n) :
    Calls Try.prog 3 #[.int .i64 (room : Int), v1] w fun e w' => e = .returned (.bool true) ∧ Below w.heap.size w w' := by
  obtain ⟨ao, c, rfl, hlc, hcm, hcells⟩ := hops
  have hmx : n ≤ 9223372036854775807 := by unfold maxLen at hcm; omega
  have HC : Hid _ := hcells
  have HA : Hid (∀ W : World, Calls Try.prog 6 #[] W fun e w' => e = .returned (.bool true) ∧ Below W.heap.size W w') := awake3
  have HN : Hid _ := New_yes room w ⟨h1, h2⟩
  obtain ⟨b, hb⟩ : ∃ b, b = w.heap.size := ⟨_, rfl⟩
  obtain ⟨w1, hw1⟩ : ∃ w1, w1 = w.alloc (.cells (newCells room) 45) := ⟨_, rfl⟩
  have hdk := dk_new w room ⟨h1, h2⟩
  rw [← hw1, ← hb] at HN hdk
  have hb1 : Below w.heap.size w w1 := by rw [hw1]; exact (Below.refl _ _).alloc (Nat.le_refl _) _
  have hs1 : w1.heap.size = b + 1 := by rw [hw1, hb]; simp
  have HR : Hid _ := ref_New_yes w1 room h1 h2
  have HDk : Hid (Dk w1 b room (fun _ => []) (fun _ => 0) (fun _ => False)) := hdk
  have HB1 : Hid _ := hb1
  have HS1 : Hid (w1.heap.size = b + 1 ∧ b = w.heap.size) := ⟨hs1, hb⟩
  clear hcells hdk hb1 hs1 hw1 hb h1 h2 hcm
  go_enter Try.func3, Try.ntmps3
  go_wp2_with fail
  refine Calls.mono HN.out ?_
  rintro e w1' ⟨rfl, hw⟩
  have hw := hw.symm
  subst hw
  go_wp2_with fail
  refine Calls.mono HR.out ?_
  rintro e w2 ⟨v, g1, g2, c1, c2, rfl, hrf, hg1, hg2, hb2⟩
  have hf := hrf.form
  subst hf
  obtain ⟨et, het⟩ : ∃ et, et = w2.heap.size := ⟨_, rfl⟩
  obtain ⟨w3, hw3⟩ : ∃ w3, w3 = w2.alloc (.cells #[.int .i64 (room : Int), .slice (some ⟨g1, 0, none⟩) 256 c1, .slice (some ⟨g2, 0, none⟩) 256 c2] 30) := ⟨_, rfl⟩
  have hb3 : Below w2.heap.size w2 w3 := by rw [hw3]; exact (Below.refl _ _).alloc (Nat.le_refl _) _
  have hq : w3.heap[et]? = some (.cells #[.int .i64 (room : Int), .slice (some ⟨g1, 0, none⟩) 256 c1, .slice (some ⟨g2, 0, none⟩) 256 c2] 30 (0, 0)) := by rw [hw3, het]; exact heap_alloc_new _ _
  have HPq : Hid (Pq w w3 b room et (fun _ => []) (fun _ => 0) g1 g2 c1 c2 (fun _ => False) (.int .i64 (room : Int)) (.slice (some ⟨g1, 0, none⟩) 256 c1) (.slice (some ⟨g2, 0, none⟩) 256 c2)) := by
    obtain ⟨e0, e1, e2, f0, f1, f2⟩ := cells3 hq
    have s1 := HS1.out.1
    have s2 := HS1.out.2
    have s3 := hb2.size
    have l1 := hrf.l1
    have l2 := hrf.l2
    have hpr : Pr w w2 b room (fun _ => []) (fun _ => 0) g1 g2 c1 c2 (fun _ => False) := ⟨HDk.out.below hb2, hrf, ⟨fun e => e, fun e => e, by omega, by omega⟩, fun k e => e.elim, by omega, HB1.out.trans (hb2.mono (by omega))⟩
    refine ⟨hpr.below hb3, e0, e1, e2, fun o ho => ?_, lt_of_block hq, ⟨by omega, fun e => e, by omega, by omega⟩, by omega⟩
    have : o = 0 ∨ o = 1 ∨ o = 2 := by omega
    rcases this with rfl | rfl | rfl
    · exact f0
    · exact f1
    · exact f2
  clear hrf hg1 hg2 hb2 hb3 hq
  go_wp2
  rw [← hw3, ← het]
  clear hw3 het
  go_loopw [9] (fun i wr => ∃ (k : Nat) (A : Nat → List UInt8) (S : Nat → Nat) (g1 g2 c1 c2 : Nat) (own : Nat → Prop), k ≤ n ∧ k ≤ 60 ∧ i = .int .i64 (k : Int) ∧ Hid (Pq w wr b room et A S g1 g2 c1 c2 own (.int .i64 (room : Int)) (.slice (some ⟨g1, 0, none⟩) 256 c1) (.slice (some ⟨g2, 0, none⟩) 256 c2))) (fun i _ => 60 - (intOf i).toNat)
  case atStart => exact ⟨0, _, _, g1, g2, c1, c2, _, Nat.zero_le _, Nat.zero_le _, rfl, HPq⟩
  case round =>
    obtain ⟨k, A, S, g1, g2, c1, c2, own, hk, hk60, rfl, hpq⟩ := hrel
    clear HPq HDk HR HN
    by_cases hlt : k < n ∧ k < 60
    · obtain ⟨hl1, hl2⟩ := hlt
      obtain ⟨g, o, e, hg, hat⟩ : ∃ g o, ao = some ⟨g, o, none⟩ ∧ g < w.heap.size ∧ ∀ j, j < n → OpAt w g (o + j * 6) := by
        rcases HC.out with h | h
        · omega
        · exact h
      subst e
      obtain ⟨kind, file, a2, b2, text, kv, gk, K, p0, p1, p2, p3, p4, p5, hbb, _, hI, hgk⟩ := hat k hl1
      have hbw := hpq.out.pr.bel
      have r4 : wr.cell? ⟨g, o + k * 6 + 4, none⟩ = some (.string text) := by rw [hbw.cell (p := ⟨g, o + k * 6 + 4, none⟩) hg]; exact p4
      by_cases h4 : text.size ≤ 4096
      · have hd : decide ((4096 : Int) < (text.size : Int)) = false := decide_eq_false (by omega)
        have hp := hpq.out.tight
        obtain ⟨own', hown⟩ : ∃ own' : Nat → Prop, own' = (fun k => own k ∧ k < wr.heap.size) := ⟨_, rfl⟩
        rw [← hown] at hp
        have HT : Hid (∀ k, own' k → k < wr.heap.size) := by rw [hown]; exact fun k e => e.2
        have HDo : Hid (∀ X, Pq w X b room et A S g1 g2 c1 c2 own' (.int .i64 (room : Int)) (.slice (some ⟨g1, 0, none⟩) 256 c1) (.slice (some ⟨g2, 0, none⟩) 256 c2) → Calls Try.prog 7 #[.pointer (some ⟨b, 0, none⟩), rv room g1 g2 c1 c2, .agg (opCells kind file a2 b2 text kv)] X fun e w' => ∃ v', e = .returned (.tuple #[v', .bool true]) ∧ PrE w X w' b room g1 g2 own' v') :=
          fun X hX => does_any hX.pr kind file a2 b2 text kv hbb gk K (hI.carry (fun e => hX.pr.bel.block gk (hgk e))) hgk
        have hpd := hp.below (below_drew wr)
        have hba : Below wr.drew.heap.size wr.drew (wr.drew.alloc (.cells #[.int .i64 0, .slice none 0 0, .slice none 0 0] 30)) := (Below.refl _ _).alloc (Nat.le_refl _) _
        have hpa := hpd.below hba
        have hge := hp.ge
        have hlw := hp.lt
        have hbg := hp.pr.bge
        have HQb : Hid (∀ X : World, Hid ((X.heap[et]? = wr.heap[et]? ∧ X.heap[g]? = wr.heap[g]?) ∧ wr.heap.size ≤ X.heap.size) → X.cell? ⟨et, 0, none⟩ = some (.int .i64 (room : Int)) ∧ X.cell? ⟨et, 1, none⟩ = some (.slice (some ⟨g1, 0, none⟩) 256 c1) ∧ X.cell? ⟨et, 2, none⟩ = some (.slice (some ⟨g2, 0, none⟩) 256 c2) ∧ X.cell? ⟨g, o + k * 6, none⟩ = some (.int .i64 kind) ∧ X.cell? ⟨g, o + k * 6 + 1, none⟩ = some (.int .i64 file) ∧ X.cell? ⟨g, o + k * 6 + 2, none⟩ = some (.int .i64 a2) ∧ X.cell? ⟨g, o + k * 6 + 3, none⟩ = some (.int .i64 b2) ∧ X.cell? ⟨g, o + k * 6 + 4, none⟩ = some (.string text) ∧ X.cell? ⟨g, o + k * 6 + 5, none⟩ = some kv) := by
          intro X hX
          have c1' : ∀ j, X.cell? ⟨et, j, none⟩ = wr.cell? ⟨et, j, none⟩ := fun j => World.cell?_of_block (a := ⟨et, j, none⟩) hX.out.1.1
          have c2' : ∀ j, X.cell? ⟨g, j, none⟩ = w.cell? ⟨g, j, none⟩ := fun j => (World.cell?_of_block (a := ⟨g, j, none⟩) hX.out.1.2).trans (hbw.cell (p := ⟨g, j, none⟩) hg)
          rw [c1', c1', c1', c2', c2', c2', c2', c2', c2']
          exact ⟨hp.q0, hp.q1, hp.q2, p0, p1, p2, p3, p4, p5⟩
        have hgw : g < wr.heap.size := Nat.lt_of_lt_of_le hg hbw.size
        have HQd : Hid (∀ (X : World) (ob : Obj), Hid ((X.heap[et]? = wr.heap[et]? ∧ X.heap[g]? = wr.heap[g]?) ∧ wr.heap.size ≤ X.heap.size) → Hid (((X.alloc ob).heap[et]? = wr.heap[et]? ∧ (X.alloc ob).heap[g]? = wr.heap[g]?) ∧ wr.heap.size ≤ (X.alloc ob).heap.size)) := by
          intro X ob hX
          have hs := hX.out.2
          exact ⟨⟨by rw [Below.heap_alloc _ _ _ (by omega)]; exact hX.out.1.1, by rw [Below.heap_alloc _ _ _ (by omega)]; exact hX.out.1.2⟩, by simp; omega⟩
        have HQs : Hid (∀ (X : World) (x y z : Value), Hid ((X.heap[et]? = wr.heap[et]? ∧ X.heap[g]? = wr.heap[g]?) ∧ wr.heap.size ≤ X.heap.size) → Hid (((set3 X wr.heap.size x y z).heap[et]? = wr.heap[et]? ∧ (set3 X wr.heap.size x y z).heap[g]? = wr.heap[g]?) ∧ wr.heap.size ≤ (set3 X wr.heap.size x y z).heap.size)) := by
          intro X x y z hX
          have hs := hX.out.2
          exact ⟨⟨by rw [set3_heap X x y z (by omega)]; exact hX.out.1.1, by rw [set3_heap X x y z (by omega)]; exact hX.out.1.2⟩, by rw [set3_size]; exact hs⟩
        have HQk : Hid (∀ X w6 : World, Hid ((X.heap[et]? = wr.heap[et]? ∧ X.heap[g]? = wr.heap[g]?) ∧ wr.heap.size ≤ X.heap.size) → Kept b own' X w6 → Hid ((w6.heap[et]? = wr.heap[et]? ∧ w6.heap[g]? = wr.heap[g]?) ∧ wr.heap.size ≤ w6.heap.size)) := by
          intro X w6 hX hk6
          have hs := hX.out.2
          have hs6 := hk6.size
          exact ⟨⟨(hk6.block et (by omega) hp.ne.1 hp.ne.2.1).trans hX.out.1.1, (hk6.block g (by omega) (by omega) (fun e => by have := hp.pr.old g e; omega)).trans hX.out.1.2⟩, by omega⟩
        have hq0 : Hid ((wr.drew.heap[et]? = wr.heap[et]? ∧ wr.drew.heap[g]? = wr.heap[g]?) ∧ wr.heap.size ≤ wr.drew.heap.size) := ⟨⟨rfl, rfl⟩, Nat.le_refl _⟩
        have hqa := HQd.out wr.drew (.cells #[.int .i64 0, .slice none 0 0, .slice none 0 0] 30) hq0
        have HNu : Hid (∀ w6 : World, Kept b own' (wr.drew.alloc (.cells #[.int .i64 0, .slice none 0 0, .slice none 0 0] 30)) w6 → w6.heap[wr.heap.size]? = some (.cells #[.int .i64 0, .slice none 0 0, .slice none 0 0] 30 (0, 0))) := by
          intro w6 hk6
          have hlt := hp.pr.dk.lt
          rw [hk6.block wr.heap.size (by simp) (by omega) (fun e => by have := HT.out _ e; omega)]
          exact heap_alloc_new wr.drew _
        have HDo1 : Hid _ := HDo.out _ hpd
        have HDo2 : Hid _ := HDo.out _ hpa
        have HP : Hid _ := hp
        clear hp hpq hown hba hbw hI hgk p0 p1 p2 p3 p4 p5 hat hge hlw hbg hgw
        go_wp2
        clear r4
        go_region_held (fun X => X.cell? ⟨et, 0, none⟩ = some (.int .i64 (room : Int)) ∧ X.cell? ⟨et, 1, none⟩ = some (.slice (some ⟨g1, 0, none⟩) 256 c1) ∧ X.cell? ⟨et, 2, none⟩ = some (.slice (some ⟨g2, 0, none⟩) 256 c2) ∧ X.cell? ⟨g, o + k * 6, none⟩ = some (.int .i64 kind) ∧ X.cell? ⟨g, o + k * 6 + 1, none⟩ = some (.int .i64 file) ∧ X.cell? ⟨g, o + k * 6 + 2, none⟩ = some (.int .i64 a2) ∧ X.cell? ⟨g, o + k * 6 + 3, none⟩ = some (.int .i64 b2) ∧ X.cell? ⟨g, o + k * 6 + 4, none⟩ = some (.string text) ∧ X.cell? ⟨g, o + k * 6 + 5, none⟩ = some kv)
          (first | exact HQb.out _ (by assumption) | exact HQb.out _ (HQd.out _ _ (by assumption)) | exact HQb.out _ (HQs.out _ _ _ _ (by assumption)))
          (first
            | (go_at_call 7; refine Calls.mono HDo1.out ?_; rintro e w6 ⟨v', rfl, A', S', x1, x2, d1, d2, own6, rfl, hpr6, hk6, ho6, hx1, hx2⟩; have hp6 := hpd.done hpr6 hk6 ho6 hx1 hx2; have hq6 := HQk.out _ w6 hq0 hk6; have HX : Hid _ := And.intro hx1 hx2; have HO6 : Hid _ := ho6; clear hpr6 hk6 ho6 hx1 hx2)
            | (go_at_call 7; refine Calls.mono HDo2.out ?_; rintro e w6 ⟨v', rfl, A', S', x1, x2, d1, d2, own6, rfl, hpr6, hk6, ho6, hx1, hx2⟩; have hp6 := hpa.done hpr6 hk6 ho6 hx1 hx2; have hq6 := HQk.out _ w6 hqa hk6; obtain ⟨z0, z1, z2, f0, f1, f2⟩ := cells3 (HNu.out w6 hk6); have HX : Hid _ := And.intro hx1 hx2; have HO6 : Hid _ := ho6; clear hpr6 hk6 ho6 hx1 hx2))
        · obtain ⟨nu, hnu⟩ : ∃ nu, nu = w6.heap.size := ⟨_, rfl⟩
          obtain ⟨w7, hw7⟩ : ∃ w7, w7 = w6.alloc (.cells #[.int .i64 (room : Int), .slice (some ⟨x1, 0, none⟩) 256 d1, .slice (some ⟨x2, 0, none⟩) 256 d2] 30) := ⟨_, rfl⟩
          have hb7 : Below w6.heap.size w6 w7 := by rw [hw7]; exact (Below.refl _ _).alloc (Nat.le_refl _) _
          have hp7 := hp6.below hb7
          obtain ⟨n0, n1, n2, _, _, _⟩ := cells3 (show w7.heap[nu]? = some (.cells #[.int .i64 (room : Int), .slice (some ⟨x1, 0, none⟩) 256 d1, .slice (some ⟨x2, 0, none⟩) 256 d2] 30 (0, 0)) by rw [hw7, hnu]; exact heap_alloc_new _ _)
          rw [← hw7, ← hnu]
          clear hw7 hnu hb7
          have m0 := hp7.q0
          have m1 := hp7.q1
          have m2 := hp7.q2
          have k0 := hp7.fr 0 (by omega)
          have k1 := hp7.fr 1 (by omega)
          have k2 := hp7.fr 2 (by omega)
          have HP8 : Hid (Pq w (set3 w7 et (.int .i64 (room : Int)) (.slice (some ⟨x1, 0, none⟩) 256 d1) (.slice (some ⟨x2, 0, none⟩) 256 d2)) b room et A' S' x1 x2 d1 d2 own6 (.int .i64 (room : Int)) (.slice (some ⟨x1, 0, none⟩) 256 d1) (.slice (some ⟨x2, 0, none⟩) 256 d2)) := hp7.put _ _ _
          clear hp7 hp6 hq6 hq0 hqa hpd hpa
          go_wp2
          go_roundw
          case rel => exact ⟨k + 1, A', S', x1, x2, d1, d2, own6, by omega, by omega, by go_num, HP8⟩
          case measure => simp [intOf]; omega
        · obtain ⟨nu, hnu⟩ : ∃ nu, nu = wr.heap.size := ⟨_, rfl⟩
          obtain ⟨w7, hw7⟩ : ∃ w7, w7 = set3 w6 wr.heap.size (.int .i64 (room : Int)) (.slice (some ⟨x1, 0, none⟩) 256 d1) (.slice (some ⟨x2, 0, none⟩) 256 d2) := ⟨_, rfl⟩
          have hp7 : Pq w w7 b room et A' S' x1 x2 d1 d2 own6 (.int .i64 (room : Int)) (.slice (some ⟨g1, 0, none⟩) 256 c1) (.slice (some ⟨g2, 0, none⟩) 256 c2) := by
            have hlt := HP.out.pr.dk.lt
            have l1 := HP.out.pr.rf.l1
            have l2 := HP.out.pr.rf.l2
            have hs0 := HP.out.pr.bel.size
            have hle := HP.out.lt
            obtain ⟨hx1, hx2⟩ := HX.out
            have hsz : (wr.drew.alloc (.cells #[.int .i64 0, .slice none 0 0, .slice none 0 0] 30)).heap.size = wr.heap.size + 1 := by simp
            rw [hsz] at hx1 hx2
            rw [hw7]
            exact hp6.other hs0 (by omega) (fun e => by have := HO6.out wr.heap.size (by omega) e; have := HT.out _ this; omega) (by omega) (by omega) (by omega) _ _ _
          obtain ⟨n0, n1, n2⟩ := set3_at (.int .i64 (room : Int)) (.slice (some ⟨x1, 0, none⟩) 256 d1) (.slice (some ⟨x2, 0, none⟩) 256 d2) z0 z1 z2
          rw [← hw7, ← hnu] at n0 n1 n2
          unfold set3 at hw7
          rw [← hw7, ← hnu]
          clear hw7 z0 z1 z2 f0 f1 f2
          clear hnu
          have m0 := hp7.q0
          have m1 := hp7.q1
          have m2 := hp7.q2
          have k0 := hp7.fr 0 (by omega)
          have k1 := hp7.fr 1 (by omega)
          have k2 := hp7.fr 2 (by omega)
          have HP8 : Hid (Pq w (set3 w7 et (.int .i64 (room : Int)) (.slice (some ⟨x1, 0, none⟩) 256 d1) (.slice (some ⟨x2, 0, none⟩) 256 d2)) b room et A' S' x1 x2 d1 d2 own6 (.int .i64 (room : Int)) (.slice (some ⟨x1, 0, none⟩) 256 d1) (.slice (some ⟨x2, 0, none⟩) 256 d2)) := hp7.put _ _ _
          clear hp7 hp6 hq6 hq0 hqa hpd hpa
          go_wp2
          go_roundw
          case rel => exact ⟨k + 1, A', S', x1, x2, d1, d2, own6, by omega, by omega, by go_num, HP8⟩
          case measure => simp [intOf]; omega
      · have hd : decide ((4096 : Int) < (text.size : Int)) = true := decide_eq_true (by omega)
        go_wp2_with fail
        refine (HA.out _).mono ?_
        rintro e w5 ⟨rfl, hb5⟩
        have HB5 : Hid _ := hb5
        clear hb5
        go_wp2
        go_ret
        exact ⟨rfl, hbw.trans (HB5.out.mono hbw.size)⟩
    · have q0 := hpq.out.q0
      have q1 := hpq.out.q1
      have q2 := hpq.out.q2
      have HSm : Hid _ := same_yes hpq.out.pr
      have hor : n ≤ k ∨ (k < n ∧ 60 ≤ k) := by omega
      clear hlt
      rcases hor with hor | ⟨hor, hor'⟩
      all_goals
        go_wp2_with fail
        refine Calls.mono HSm.out ?_
        rintro e w4 ⟨rfl, hb4⟩
        have HB4 : Hid _ := hb4
        clear hb4
        go_wp2_with fail
        refine (HA.out _).mono ?_
        rintro e w5 ⟨rfl, hb5⟩
        have HB5 : Hid _ := hb5
        clear hb5
        go_wp2
        go_ret
        exact ⟨rfl, HB4.out.trans (HB5.out.mono HB4.out.size)⟩

theorem walk (a0 : Int) (v1 : Value) (a1 : Nat) (w : World) (_b0 : -9223372036854775808 ≤ a0 ∧ a0 ≤ 9223372036854775807) (b1 : Ops w v1 a1) :
    Calls Try.prog 3 #[.int .i64 a0, v1] w fun e w' => e = .returned (.bool true) ∧ Below w.heap.size w w' := by
  by_cases h : a0 < 1 ∨ 16777216 < a0
  · exact walk_out a0 v1 w h
  · obtain ⟨room, rfl⟩ := Int.eq_ofNat_of_zero_le (show 0 ≤ a0 by omega)
    exact walk_in room (by omega) (by omega) v1 a1 w b1

theorem laidOut : laidOutB Try.prog = true := by kernel_rfl

theorem own : ownKnob Try.prog.godebug = none := by kernel_rfl

set_option maxRecDepth 100000 in
theorem lifted (os : Os) (started : os.Started) (H : Type) (enc : TypeId × Value → H) :
    ReturnsInHanded {} Try.checked os 3 .any (Rows.diskPlaysSpec.pre6 enc Try.prog Try.f3 Rows.diskPlaysRow.domain false) (Rows.diskPlaysSpec.post enc Try.prog Try.f3 false true false false) := by
  refine returnsInHanded_of_change_sized (C := Try.checked) own started (by kernel_rfl) Try.func3
    (ChangeSpec.witness6 (enc := enc) (C := Try.checked) false ⟨#[], #[.int .i64 0, .slice none 0 0], []⟩ 8 (by kernel_rfl) (by kernel_rfl) (by kernel_rfl) (by kernel_rfl)) ?_
  intro W base args ds gs before hval0 hW _ hsz0 _
  have hsz : (DataW.weightsEach Try.prog (Try.f3.params.toList ++ Rows.diskPlaysSpec.plain.varTypes Try.prog) (ds ++ gs)).all (· ≤ reachBytes) = true := hsz0
  have hval : ∀ (j : Nat) t v, Try.f3.params[j]? = some t → args[j]? = some v → Value.okWide Try.prog W .any base t v := hval0
  have hW' := hW
  obtain ⟨p, q, hA0, hV, rfl, hfz, hnd⟩ := hW
  have hA : DataW.TrodAll enc Try.prog W 0 (fun _ => true) true Try.f3.params.toList args.toList ds p := hA0
  rw [Try.params3] at hA hval hsz
  obtain ⟨v0, vs0, d0, ds0, p0, q0, hargs, rfl, rfl, h0, r0⟩ := trodAll_cons hA
  obtain ⟨v1, vs1, d1, ds1, p1, q1, rfl, rfl, rfl, h1, r1⟩ := trodAll_cons r0
  obtain ⟨rfl, rfl, rfl⟩ := trodAll_nil r1
  obtain rfl : args = #[v0, v1] := by cases args; simp_all
  obtain ⟨rfl, rfl⟩ := trodVars_none hV
  obtain ⟨a0, rfl, rfl, rfl, w0⟩ := open_int Try.underlying3 (hval 0 3 v0 rfl rfl) h0
  have b0 : -9223372036854775808 ≤ a0 ∧ a0 ≤ 9223372036854775807 := by simpa [Lit.wf, IntKind.min, IntKind.max, IntKind.signed, IntKind.bits] using w0
  have k1 := h1
  have lt1 : ∀ x ∈ p1, x.block < W.heap.size := by obtain ⟨m, hm⟩ := k1; exact DataW.trod_lt m _ _ _ hm
  obtain ⟨a1, b1⟩ := open_opsV (hval 1 22 v1 rfl rfl) h1
  clear hA0 hval0 hsz0
  refine (walk a0 v1 a1 W b0 b1).mono fun e W' ⟨he, bel⟩ => ?_
  subst he
  exact ⟨_, rfl, _, _, _, [], _, [], hW', trodAll_mk1 (shut_bool Try.underlying4 _), (trodAll_cons_mk (shut_int Try.underlying3 w0) (trodAll_cons_mk (Below.trod laidOut (by kernel_rfl) (of_decide_eq_true (by kernel_rfl)) k1 bel lt1) trodAll_mk0)), rfl, bel.frame _, fun h => by cases h⟩

theorem over : Rows.diskPlaysRow.holds Try.pinned (OpenSpec.ofChange Rows.diskPlaysSpec) :=
  OpenClaim.holds_of_wide 3 Try.f3 rfl rfl rfl rfl rfl rfl rfl ⟨rfl, rfl, rfl, rfl, rfl⟩ rfl rfl rfl rfl rfl (by kernel_rfl) Try.func3 (by kernel_rfl)
    (of_decide_eq_true (by kernel_rfl)) (by unfold Func.isWrapper; first | (rw [if_pos (by decide +kernel)]; kernel_rfl) | (rw [if_neg (by decide +kernel)]; exact ⟨rfl, rfl⟩))
    (fun os started H enc _ => lifted os started H enc)


end Go.Proofs.Ytncchapgoedncaa.diskPlays
namespace Go.Proofs.Ytncchapgoedncaa
/-- The statement. -/
theorem diskPlays_holds : Rows.DiskPlaysSaid := diskPlays.over
end Go.Proofs.Ytncchapgoedncaa
