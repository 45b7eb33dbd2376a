/-
  For all posts: SessionKeeps answers true: replies that are handed in and out are the table's own; the argument reads afterwards as before. No condition.
-/
import Derived.Test.YtmnaijmhncaflaaSeTs
import Derived.Test.YtmnaijmhncaflaaSeSame
import Derived.Test.YtmnaijmhncaflaaSeArgs
import Derived.ProofKit
import Derived.OpenShut
import Derived.ShutString
import Derived.SizedLaws
namespace Go.Proofs.Ytmnaijmhncaflaa.sessionKeeps
open Go.ChangeShapes Go.WideShapes Go.ChangeAt Go.RowKit
open Go.ChangeMaps (open_string shut_string)

/-- A cell of a row is written. -/
theorem RowC.setAt {w : World} {size n : Nat} {x : Value} {xs : List Value} {g off c : Nat} (h : RowC w size (.slice (some ⟨g, off, none⟩) n (c + 1)) n xs) (i : Nat) (hi : i < xs.length) : RowC (w.setCell ⟨g, off + i, none⟩ x) size (.slice (some ⟨g, off, none⟩) n (c + 1)) n (xs.set i x) := by
  have hat := h.at
  have hx0 : w.cell? ⟨g, off + i, none⟩ = some (xs[i]'(by omega)) := hat.1 i _ (List.getElem?_eq_getElem _)
  have hc : ∀ j, (w.setCell ⟨g, off + i, none⟩ x).cell? ⟨g, off + j, none⟩ = if j = i then some x else w.cell? ⟨g, off + j, none⟩ := fun j => by
    by_cases e : j = i
    · rw [if_pos e, e]
      exact World.cell?_setCell_same _ _ _ (by rw [hx0])
    · rw [if_neg e]
      exact World.cell?_setCell_other _ _ _ _ (by intro q; injection q with _ q; omega)
  obtain ⟨hl, p0, c0, hv, hn, hcm, _⟩ := h
  injection hv with e1 e2 e3
  subst e1 e3
  refine ⟨by rw [List.length_set]; exact hl, _, _, rfl, hn, hcm, .inr ⟨g, off, rfl, fun j hj => ?_, fun j y hy => ?_⟩⟩
  · obtain ⟨r1, r2⟩ := hat.2.1 j hj
    refine ⟨?_, by rw [World.frozen?_setCell]; exact r2⟩
    rw [hc]
    split
    · rfl
    · exact r1
  · rw [hc]
    by_cases e : j = i
    · subst e
      rw [List.getElem?_set_self (by omega)] at hy
      rw [if_pos rfl]
      exact hy
    · rw [List.getElem?_set_ne (fun q => e q.symm)] at hy
      rw [if_neg e]
      exact hat.1 j y hy

/-- Posts in a block that may be written. -/
theorem RowC.post {w : World} {n i : Nat} {xs : List Value} {g off c : Nat} (h : RowC w 2 (.slice (some ⟨g, off, none⟩) n (c + 1)) n xs) (hi : i < n) : (∃ x, w.cell? ⟨g, off + i * 2, none⟩ = some x) ∧ (∃ x, w.cell? ⟨g, off + i * 2 + 1, none⟩ = some x) ∧ w.frozen? ⟨g, off + i * 2, none⟩ = false ∧ w.frozen? ⟨g, off + i * 2 + 1, none⟩ = false ∧ ∀ u t, ∃ ys, RowC ((w.setCell ⟨g, off + i * 2, none⟩ u).setCell ⟨g, off + i * 2 + 1, none⟩ t) 2 (.slice (some ⟨g, off, none⟩) n (c + 1)) n ys := by
  have hat := h.at
  have hl : xs.length = n * 2 := h.1
  refine ⟨⟨_, hat.1 (i * 2) _ (List.getElem?_eq_getElem (by omega))⟩, ⟨xs[i * 2 + 1]'(by omega), ?_⟩, (hat.2.1 (i * 2) (by omega)).2, ?_, fun u t => ⟨(xs.set (i * 2) u).set (i * 2 + 1) t, ?_⟩⟩
  · rw [Nat.add_assoc]
    exact hat.1 (i * 2 + 1) _ (List.getElem?_eq_getElem (by omega))
  · rw [Nat.add_assoc]
    exact (hat.2.1 (i * 2 + 1) (by omega)).2
  · have h1 := RowC.setAt h (x := u) (i * 2) (by omega)
    have h2 := RowC.setAt h1 (x := t) (i * 2 + 1) (by rw [List.length_set]; omega)
    rw [← Nat.add_assoc] at h2
    exact h2

theorem Tb.far {w : World} {B mb : Nat} (h : Tb w B mb []) (lo : Nat) : Far lo w mb := fun m hm p hp => by
  obtain ⟨m', h1, h2⟩ := h.map
  rw [hm.uniq h1] at hp
  cases m' with
  | nil => cases hp
  | cons _ _ => cases h2

theorem ents_far {w w' : World} {lo : Nat} (hk : ∀ k, lo ≤ k → w'.heap[k]? = w.heap[k]?) : ∀ {s : Se.St} {m : List (Int × Value)}, (∀ p ∈ m, FarV lo p.2) → Ents w s m → Ents w' s m
  | [], [], _, _ => trivial
  | (k, l) :: s, (k', v) :: m, hf, h => by
    obtain ⟨⟨h1, pv, h2, h3, h4⟩, h5⟩ := h
    exact ⟨⟨h1, pv, h2, h3.carryB (fun q hq => hk q (hf (k', v) List.mem_cons_self _ _ _ _ h2 q hq)), h4⟩, ents_far hk (fun p hp => hf p (List.mem_cons_of_mem _ hp)) h5⟩

/-- A block below those of the posts is written. -/
theorem Ts.setFar {w X : World} {B mb lo : Nat} {s : Se.St} (h : Ts w X B mb s) (hf : Far lo X mb) {b o : Nat} (hb : w.heap.size ≤ b) (hlo : b < lo) (hB : b ≠ B) (hm : b ≠ mb) (v : Value) : Ts w (X.setCell ⟨b, o, none⟩ v) B mb s ∧ Far lo (X.setCell ⟨b, o, none⟩ v) mb := by
  have hh : ∀ k, k ≠ b → (X.setCell ⟨b, o, none⟩ v).heap[k]? = X.heap[k]? := fun k hk => Below.heap_setCell _ _ _ _ hk
  obtain ⟨m, h1, h2⟩ := h.tb.map
  refine ⟨⟨h.old.setCell (p := ⟨b, o, none⟩) hb _, ⟨by rw [World.cell?_of_block (a := ⟨B, 0, none⟩) (hh B (Ne.symm hB))]; exact h.tb.c0, ⟨m, h1.carry (hh mb (Ne.symm hm)), ents_far (fun k hk => hh k (by omega)) (hf m h1) h2⟩, h.tb.len⟩, h.new⟩, hf.carry (hh mb (Ne.symm hm))⟩

/-- The table, and the caller's own posts, and an id. -/
structure Km (w X : World) (B mb : Nat) (s : Se.St) (lo : Nat) (v : Value) (n bi : Nat) : Prop where
  ts : Ts w X B mb s
  far : Far lo X mb
  row : ∃ xs, RowC X 2 v n xs
  off : ∀ k, cBlk v = some k → k < lo ∧ w.heap.size ≤ k ∧ k ≠ B ∧ k ≠ mb ∧ k ≠ bi
  i0 : X.cell? ⟨bi, 0, none⟩ = some (.int .i64 1)
  i1 : X.cell? ⟨bi, 1, none⟩ = some (.int .i64 1)

theorem Km.set {w X : World} {B mb : Nat} {s : Se.St} {lo n bi i g off c : Nat} (h : Km w X B mb s lo (.slice (some ⟨g, off, none⟩) n (c + 1)) n bi) (hi : i < n) (u t : Value) : Km w ((X.setCell ⟨g, off + i * 2, none⟩ u).setCell ⟨g, off + i * 2 + 1, none⟩ t) B mb s lo (.slice (some ⟨g, off, none⟩) n (c + 1)) n bi := by
  obtain ⟨xs, hr⟩ := h.row
  obtain ⟨_, _, _, _, hys⟩ := RowC.post hr hi
  obtain ⟨o1, o2, o3, o4, o5⟩ := h.off g rfl
  obtain ⟨t1, f1⟩ := Ts.setFar h.ts h.far (o := off + i * 2) o2 o1 o3 o4 u
  obtain ⟨t2, f2⟩ := Ts.setFar t1 f1 (o := off + i * 2 + 1) o2 o1 o3 o4 t
  have hc : ∀ j, ((X.setCell ⟨g, off + i * 2, none⟩ u).setCell ⟨g, off + i * 2 + 1, none⟩ t).cell? ⟨bi, j, none⟩ = X.cell? ⟨bi, j, none⟩ := fun j => by
    rw [World.cell?_setCell_far _ _ ⟨bi, j, none⟩ _ o5, World.cell?_setCell_far _ _ ⟨bi, j, none⟩ _ o5]
  exact ⟨t2, f2, hys u t, h.off, by rw [hc]; exact h.i0, by rw [hc]; exact h.i1⟩

/-- What was found, in a box, and its posts: the caller's own. -/
structure Kf (W X : World) (v : Value) (n b7 : Nat) : Prop where
  old : Below W.heap.size W X
  row : ∃ xs, RowC X 2 v n xs
  off : ∀ k, cBlk v = some k → W.heap.size ≤ k ∧ k ≠ b7
  c7 : X.cell? ⟨b7, 2, none⟩ = some v

theorem Kf.below {W X Y : World} {v : Value} {n b7 : Nat} (h : Kf W X v n b7) (hb : Below X.heap.size X Y) : Kf W Y v n b7 := by
  obtain ⟨xs, hr⟩ := h.row
  exact ⟨h.old.trans (hb.mono h.old.size), ⟨xs, hr.carry (fun k hk => hb.block k (hr.lt (by omega) hk))⟩, h.off, (hb.cell (p := ⟨b7, 2, none⟩) (World.block_lt_of_cell? _ _ h.c7)).trans h.c7⟩
theorem Kf.set {W X : World} {n b7 i g off c : Nat} (h : Kf W X (.slice (some ⟨g, off, none⟩) n (c + 1)) n b7) (hi : i < n) (u t : Value) : Kf W ((X.setCell ⟨g, off + i * 2, none⟩ u).setCell ⟨g, off + i * 2 + 1, none⟩ t) (.slice (some ⟨g, off, none⟩) n (c + 1)) n b7 := by
  obtain ⟨xs, hr⟩ := h.row
  obtain ⟨_, _, _, _, hys⟩ := RowC.post hr hi
  obtain ⟨o1, o2⟩ := h.off g rfl
  refine ⟨(h.old.setCell (p := ⟨g, off + i * 2, none⟩) o1 _).setCell (p := ⟨g, off + i * 2 + 1, none⟩) o1 _, hys u t, h.off, ?_⟩
  rw [World.cell?_setCell_far _ _ ⟨b7, 2, none⟩ _ o2, World.cell?_setCell_far _ _ ⟨b7, 2, none⟩ _ o2]
  exact h.c7

theorem find_one {ps : List Mo.Po} : Se.find [((1 : Int), (⟨1, ⟨0, 0, ps⟩⟩ : Se.Ls))] 1 1 = (⟨0, 0, ps⟩, 0) := by
  have hm : Se.may 1 1 = true := by decide
  unfold Se.find
  rw [hm]
  simp [Se.get]
theorem put_one {ps : List Mo.Po} (h : ps.length ≤ 64) : Se.putE [] 1 1 ⟨0, 0, ps⟩ = 0 ∧ Se.put [] 1 1 ⟨0, 0, ps⟩ = [((1 : Int), (⟨1, ⟨0, 0, ps⟩⟩ : Se.Ls))] := by
  have hm : Se.may 1 1 = true := by decide
  have e : Se.putE [] 1 1 ⟨0, 0, ps⟩ = 0 := by
    unfold Se.putE
    rw [hm]
    simp [Se.get]
    omega
  refine ⟨e, ?_⟩
  unfold Se.put
  rw [if_pos e]
  rfl


set_option maxHeartbeats 3200000 in
set_option maxRecDepth 20000 in
theorem walk (v0 : Value) (ps : List Mo.Po) (w : World) (_b0 : PoR w v0 ps ∧ ∀ p ∈ ps, PoIn p) :
    Calls Try.prog 6 #[v0] w fun e w' => e = .returned (.bool true) ∧ Below w.heap.size w w' := by
  obtain ⟨hp0, hin⟩ := _b0
  have HA : Hid (∀ u : World, Calls Try.prog 10 #[] u fun e w' => e = .returned (.bool true) ∧ Below u.heap.size u w') := awake_c
  have HNew : Hid _ := NewT_fresh w (Below.refl _ w)
  obtain ⟨B, hB⟩ : ∃ B, B = w.heap.size + 1 := ⟨_, rfl⟩
  obtain ⟨mb, hmb⟩ : ∃ mb, mb = w.heap.size := ⟨_, rfl⟩
  rw [← hB, ← hmb] at HNew
  obtain ⟨p0, c0, hv0, hc1, hc2⟩ := hp0.form
  subst hv0
  have HP0 : Hid (PoR w (.slice p0 ps.length c0) ps) := hp0
  have HBm : Hid (B = w.heap.size + 1 ∧ mb = w.heap.size) := ⟨hB, hmb⟩
  by_cases hl : 64 < ps.length
  · have hl1 : (ps.length : Int) > 64 := by omega
    generalize ps.length = n at hl1 ⊢
    clear hp0 hin hc1 hc2 hl hB hmb HP0
    go_enter Try.func6, Try.ntmps6
    go_wp2_with fail
    refine Calls.mono HNew.out ?_
    rintro e w0 ⟨rfl, hM, _⟩
    have H0 : Hid (Below w.heap.size w w0) := hM.old
    clear hM
    go_wp2_with fail
    refine (HA.out _).mono ?_
    rintro e w3 ⟨rfl, hb3⟩
    have HB3 : Hid _ := hb3
    clear hb3
    go_wp2
    go_ret
    exact ⟨rfl, H0.out.trans (HB3.out.mono H0.out.size)⟩
  · have hl1 : ¬ (ps.length : Int) > 64 := by omega
    obtain ⟨n, hn⟩ : ∃ n, n = ps.length := ⟨_, rfl⟩
    have HN : Hid (n = ps.length ∧ n ≤ 64) := ⟨hn, by omega⟩
    have hn64 : (n : Int) ≤ 64 := by omega
    have HSrc : Hid (∀ X, Below w.heap.size w X → Src Try.prog 2 32 (.slice p0 n c0) n (poCells ps) X) := fun X hX => by
      obtain ⟨p, c, hv, h2, h3, h4, h5⟩ := hp0.below hX
      injection hv with e1 e2 e3
      subst e1 e3
      rw [hn]
      cases p0 with
      | none =>
        have h0 := h4 rfl
        subst h0
        have hx : ps = [] := List.eq_nil_of_length_eq_zero (by omega)
        subst hx
        exact Src.ofNil X Try.underlying32 0
      | some a => exact Src.ofSlice _ Try.underlying32 _ _ _ _ (poCells_len ps) (fun j u hj => h5 a rfl j u hj) (poCells_one ps)
    have hz1 : Hid ((0 + n) * 32 ≤ 140737488355328) := by show _ ≤ _; omega
    have hz2 : Hid (0 + n ≤ maxLen) := by unfold maxLen; show _ ≤ _; omega
    have HSame : Hid (∀ X v, Below w.heap.size w X → PoR X v ps → Calls Try.prog 19 #[v, .slice p0 n c0] X fun e Y => e = .returned (.bool true) ∧ Below X.heap.size X Y) := fun X v hX hv => SamePosts_eq hv (by rw [hn]; exact hp0.below hX)
    have HPut : Hid (∀ X v, Ts w X B mb [] → PoR X v ps → Calls Try.prog 12 #[.pointer (some ⟨B, 0, none⟩), .agg #[.int .i64 1, .int .i64 1], .agg #[.int .i64 0, .int .i64 0, v]] X fun e Y => e = .returned (.int .i64 0) ∧ Ts w Y B mb [((1 : Int), (⟨1, ⟨0, 0, ps⟩⟩ : Se.Ls))] ∧ X.grownBy Y (some mb) ∧ Far X.heap.size Y mb) := fun X v hX hv => by
      refine (hX.put 1 1 ⟨0, 0, ps⟩ hv hin).mono ?_
      rintro e Y ⟨rfl, h1, h2, h3⟩
      rw [(put_one (by omega)).2] at h1
      rw [(put_one (by omega)).1]
      exact ⟨rfl, h1, h2, h3 _ (Nat.le_refl _) (Tb.far hX.tb _)⟩
    have HFind : Hid (∀ X, Ts w X B mb [((1 : Int), (⟨1, ⟨0, 0, ps⟩⟩ : Se.Ls))] → Calls Try.prog 13 #[.pointer (some ⟨B, 0, none⟩), .agg #[.int .i64 1, .int .i64 1]] X fun e Y => ∃ p cc, e = .returned (.tuple #[.agg #[.int .i64 0, .int .i64 0, .slice p n cc], .int .i64 0]) ∧ RowC Y 2 (.slice p n cc) n (poCells ps) ∧ (∀ k, cBlk (.slice p n cc) = some k → X.heap.size ≤ k) ∧ Below X.heap.size X Y) := fun X hX => by
      refine (hX.find 1 1 find_one).mono ?_
      rintro e Y ⟨p, cc, rfl, h1, h2, h3, _⟩
      rw [hn]
      exact ⟨p, cc, rfl, h1, h2, h3⟩
    rw [← hn] at hl1 HP0 ⊢
    generalize [((1 : Int), (⟨1, ⟨0, 0, ps⟩⟩ : Se.Ls))] = s1 at HPut HFind
    clear hp0 hin hc1 hc2 hl hB hmb hn
    go_enter Try.func6, Try.ntmps6
    go_wp2_with fail
    refine Calls.mono HNew.out ?_
    rintro e w0 ⟨rfl, hM, _⟩
    have H0 : Hid (Ts w w0 B mb []) := hM
    clear hM
    go_wp2_with (at_builtin; refine wpList_append_rowC rfl (.tmp 25) (.tmp 26) 32 32 51 rfl Try.underlying32 _ 2 32 infoPo rfl (.slice none 0 0) 0 [] rfl (RowC.nil _ _ _) (.slice p0 n c0) n (poCells ps) rfl (HSrc.out _ H0.out.old) hz1.out hz2.out ?qnext)
    case qnext =>
      intro v1 w1 ho hg hloc
      have hb1 : Below w0.heap.size w0 w1 := ⟨hg.os, hg.tape, hg.output, hg.size, fun k hk => hg.block k hk (by simp [cBlk])⟩
      have HO : Hid (RowC w1 2 v1 n (poCells ps)) := by simpa [Hid] using ho
      have HK : Hid (∀ k, cBlk v1 = some k → w0.heap.size ≤ k) := by
        intro k hk
        rcases hloc k hk with q | q
        · simp [cBlk] at q
        · exact q
      obtain ⟨p1, c1, hv1, _⟩ := HO.out.form
      subst hv1
      have H1 : Hid (Ts w w1 B mb []) := H0.out.below hb1
      obtain ⟨w2, hw2⟩ : ∃ w2, w2 = w1.alloc (.cells #[.int .i64 1, .int .i64 1] 30) := ⟨_, rfl⟩
      obtain ⟨bi, hbi⟩ : ∃ bi, bi = w1.heap.size := ⟨_, rfl⟩
      have hb2 : Below w1.heap.size w1 w2 := by rw [hw2]; exact below_alloc _ _
      have hci : ∀ j, w2.cell? ⟨bi, j, none⟩ = (#[.int .i64 1, .int .i64 1] : Array Value)[j]? := fun j => by rw [hw2, hbi]; exact World.cell?_alloc_mark w1 _ _ _ j
      have H2 : Hid (Ts w w2 B mb []) := H1.out.below hb2
      have HR2 : Hid (RowC w2 2 (.slice p1 n c1) n (poCells ps)) := HO.out.carry (fun k hk => hb2.block k (HO.out.lt (by omega) hk))
      have HPo : Hid (PoR w2 (.slice p1 n c1) ps) := PoR.ofRow (by rw [← HN.out.1]; exact HR2.out)
      have HOff : Hid (∀ k, cBlk (.slice p1 n c1) = some k → k < w2.heap.size ∧ w.heap.size ≤ k ∧ k ≠ B ∧ k ≠ mb ∧ k ≠ bi) := fun k hk => by
        have h1 := HK.out k hk
        have h2 := HO.out.lt (by omega) hk
        have h3 := HBm.out
        have h4 := H0.out.tb.lt
        have h5 := H0.out.old.size
        have h6 := hb2.size
        omega
      have HI : Hid (w2.cell? ⟨bi, 0, none⟩ = some (.int .i64 1) ∧ w2.cell? ⟨bi, 1, none⟩ = some (.int .i64 1)) := ⟨hci 0, hci 1⟩
      clear ho hg hloc hb1 hb2 hci HSrc
      go_wp2_with fail
      rw [← hw2, ← hbi]
      clear hw2 hbi
      refine (HPut.out _ _ H2.out HPo.out).mono ?_
      rintro e w3 ⟨rfl, h3, hg3, hf3⟩
      have HK3 : Hid (Km w w3 B mb s1 w2.heap.size (.slice p1 n c1) n bi) := ⟨h3, hf3, ⟨_, HR2.out.carry (fun k hk => by
        have := HOff.out k hk
        exact hg3.block k this.1 (by intro e; injection e with e; exact this.2.2.2.1 e))⟩, HOff.out, H2.out.cell hg3 HI.out.1, H2.out.cell hg3 HI.out.2⟩
      clear h3 hg3 hf3
      go_wp2
      go_loopw [6] (fun iv wr => ∃ i : Nat, iv = .int .i64 (i : Int) ∧ i ≤ n ∧ Hid (Km w wr B mb s1 w2.heap.size (.slice p1 n c1) n bi)) (fun iv _ => n - (intOf iv).toNat)
      case atStart => exact ⟨0, rfl, Nat.zero_le _, HK3⟩
      case round =>
        clear HK3
        obtain ⟨i, rfl, hi, HKm⟩ := hrel
        by_cases hlt : i < n
        · obtain ⟨xs, hr⟩ := HKm.out.row
          obtain ⟨g, off, c, hv, _⟩ := hr.cells (by omega)
          injection hv with e1 _ e3
          subst e1 e3
          obtain ⟨⟨x0, k0⟩, ⟨x1, k1⟩, f0, f1, _⟩ := RowC.post hr hlt
          have HS : Hid (Km w ((wr.setCell ⟨g, off + i * 2, none⟩ (.string ⟨#[111, 116, 104, 101, 114]⟩)).setCell ⟨g, off + i * 2 + 1, none⟩ (.string ⟨#[101, 108, 115, 101]⟩)) B mb s1 w2.heap.size (.slice (some ⟨g, off, none⟩) n (c + 1)) n bi) := HKm.out.set hlt _ _
          have hi0 : (0 : Int) ≤ (i : Int) := by omega
          have hi1 : (i : Int) < (n : Int) := by omega
          clear hr
          go_wp2
          go_roundw
          case rel => exact ⟨i + 1, by go_num, by omega, HS⟩
          case measure => simp [intOf]; omega
        · obtain rfl : i = n := by omega
          obtain ⟨W5, rfl⟩ : ∃ W5, W5 = wr := ⟨_, rfl⟩
          have i0 := HKm.out.i0
          have i1 := HKm.out.i1
          have HT : Hid (Ts w W5 B mb s1) := HKm.out.ts
          go_wp2_with fail
          refine (HFind.out _ HT.out).mono ?_
          rintro e w5 ⟨p5, c5, rfl, hr5, hk5, hb5⟩
          obtain ⟨w6, hw6⟩ : ∃ w6, w6 = w5.alloc (.cells #[.int .i64 0, .int .i64 0, .slice p5 i c5] 34) := ⟨_, rfl⟩
          obtain ⟨b6, hb6⟩ : ∃ b6, b6 = w5.heap.size := ⟨_, rfl⟩
          have hB6 : Below w5.heap.size w5 w6 := by rw [hw6]; exact below_alloc _ _
          have hr6 : RowC w6 2 (.slice p5 i c5) i (poCells ps) := hr5.carry (fun k hk => hB6.block k (hr5.lt (by omega) hk))
          have hc6 : w6.cell? ⟨b6, 2, none⟩ = some (.slice p5 i c5) := by rw [hw6, hb6]; exact World.cell?_alloc_mark w5 _ _ _ 2
          have HKf : Hid (Kf W5 w6 (.slice p5 i c5) i b6) := ⟨hb5.trans (hB6.mono hb5.size), ⟨_, hr6⟩, fun k hk => ⟨hk5 k hk, by have := hr5.lt (by omega) hk; omega⟩, hc6⟩
          have HP6 : Hid (PoR w6 (.slice p5 i c5) ps) := PoR.ofRow (by rw [← HN.out.1]; exact hr6)
          have HW6 : Hid (Below w.heap.size w w6) := HT.out.old.trans (HKf.out.old.mono HT.out.old.size)
          clear hr5 hk5 hb5 hB6 hr6
          rw [hw6] at hc6
          go_wp2_with fail
          rw [← hw6]
          rw [← hb6]
          clear hw6 hb6 hc6 i0 i1
          refine (HSame.out _ _ HW6.out HP6.out).mono ?_
          rintro e w7 ⟨rfl, hb7⟩
          have HK7 : Hid (Kf W5 w7 (.slice p5 i c5) i b6) := HKf.out.below hb7
          clear hb7
          go_wp2
          go_loopw [9] (fun iv wx => ∃ j : Nat, iv = .int .i64 (j : Int) ∧ j ≤ i ∧ Hid (Kf W5 wx (.slice p5 i c5) i b6)) (fun iv _ => i - (intOf iv).toNat)
          case atStart => exact ⟨0, rfl, Nat.zero_le _, HK7⟩
          case round =>
            clear HK7
            obtain ⟨j, rfl, hj, HKx⟩ := hrel
            by_cases hlj : j < i
            · obtain ⟨xs, hr⟩ := HKx.out.row
              obtain ⟨g, off, c, hv, _⟩ := hr.cells (by omega)
              injection hv with e1 _ e3
              subst e1 e3
              obtain ⟨⟨x0, k0⟩, ⟨x1, k1⟩, f0, f1, _⟩ := RowC.post hr hlj
              have c7 := HKx.out.c7
              have HS : Hid (Kf W5 ((wr.setCell ⟨g, off + j * 2, none⟩ (.string ⟨#[]⟩)).setCell ⟨g, off + j * 2 + 1, none⟩ (.string ⟨#[]⟩)) (.slice (some ⟨g, off, none⟩) i (c + 1)) i b6) := HKx.out.set hlj _ _
              have hi0 : (0 : Int) ≤ (j : Int) := by omega
              have hi1 : (j : Int) < (i : Int) := by omega
              clear hr
              go_wp2
              go_roundw
              case rel => exact ⟨j + 1, by go_num, by omega, HS⟩
              case measure => simp [intOf]; omega
            · obtain rfl : j = i := by omega
              have HT8 : Hid (Ts w wr B mb s1) := HT.out.below HKx.out.old
              have i0 : wr.cell? ⟨bi, 0, none⟩ = some (.int .i64 1) := (HKx.out.old.cell (p := ⟨bi, 0, none⟩) (World.block_lt_of_cell? _ _ HKm.out.i0)).trans HKm.out.i0
              have i1 : wr.cell? ⟨bi, 1, none⟩ = some (.int .i64 1) := (HKx.out.old.cell (p := ⟨bi, 1, none⟩) (World.block_lt_of_cell? _ _ HKm.out.i1)).trans HKm.out.i1
              have c7 := HKx.out.c7
              go_wp2_with fail
              refine (HFind.out _ HT8.out).mono ?_
              rintro e w8 ⟨p8, c8, rfl, hr8, hk8, hb8⟩
              obtain ⟨w9, hw9⟩ : ∃ w9, w9 = w8.alloc (.cells #[.int .i64 0, .int .i64 0, .slice p8 j c8] 34) := ⟨_, rfl⟩
              have hB9 : Below w8.heap.size w8 w9 := by rw [hw9]; exact below_alloc _ _
              have HP9 : Hid (PoR w9 (.slice p8 j c8) ps) := PoR.below (PoR.ofRow (by rw [← HN.out.1]; exact hr8)) hB9
              have HW9 : Hid (Below w.heap.size w w9) := HT8.out.old.trans ((hb8.trans (hB9.mono hb8.size)).mono HT8.out.old.size)
              clear hr8 hk8 hb8 hB9 i0 i1 c7
              go_wp2_with fail
              rw [← hw9]
              clear hw9
              refine (HSame.out _ _ HW9.out HP9.out).mono ?_
              rintro e w10 ⟨rfl, hb10⟩
              have HW10 : Hid (Below w.heap.size w w10) := HW9.out.trans (hb10.mono HW9.out.size)
              clear hb10
              go_wp2_with fail
              refine (HA.out _).mono ?_
              rintro e w11 ⟨rfl, hb11⟩
              have HB11 : Hid _ := hb11
              clear hb11
              go_wp2
              go_ret
              exact ⟨rfl, HW10.out.trans (HB11.out.mono HW10.out.size)⟩

theorem laidOut : laidOutB Try.prog = true := by kernel_rfl

theorem own : ownKnob Try.prog.godebug = none := by kernel_rfl

set_option maxRecDepth 100000 in
theorem lifted (os : Os) (started : os.Started) (H : Type) (enc : TypeId × Value → H) :
    ReturnsInHanded {} Try.checked os 6 .any (Rows.sessionKeepsSpec.pre6 enc Try.prog Try.f6 Rows.sessionKeepsRow.domain false) (Rows.sessionKeepsSpec.post enc Try.prog Try.f6 false true false false) := by
  refine returnsInHanded_of_change_sized (C := Try.checked) own started (by kernel_rfl) Try.func6
    (ChangeSpec.witness6 (enc := enc) (C := Try.checked) false ⟨#[], #[.slice none 0 0], []⟩ 8 (by kernel_rfl) (by kernel_rfl) (by kernel_rfl) (by kernel_rfl)) ?_
  intro W base args ds gs before hval0 hW _ hsz0 _
  have hsz : (DataW.weightsEach Try.prog (Try.f6.params.toList ++ Rows.sessionKeepsSpec.plain.varTypes Try.prog) (ds ++ gs)).all (· ≤ reachBytes) = true := hsz0
  have hval : ∀ (j : Nat) t v, Try.f6.params[j]? = some t → args[j]? = some v → Value.okWide Try.prog W .any base t v := hval0
  have hW' := hW
  obtain ⟨p, q, hA0, hV, rfl, hfz, hnd⟩ := hW
  have hA : DataW.TrodAll enc Try.prog W 0 (fun _ => true) true Try.f6.params.toList args.toList ds p := hA0
  rw [Try.params6] at hA hval hsz
  obtain ⟨v0, vs0, d0, ds0, p0, q0, hargs, rfl, rfl, h0, r0⟩ := trodAll_cons hA
  obtain ⟨rfl, rfl, rfl⟩ := trodAll_nil r0
  obtain rfl : args = #[v0] := by cases args; simp_all
  obtain ⟨rfl, rfl⟩ := trodVars_none hV
  have k0 := h0
  have lt0 : ∀ x ∈ p0, x.block < W.heap.size := by obtain ⟨m, hm⟩ := k0; exact DataW.trod_lt m _ _ _ hm
  obtain ⟨a0, b0⟩ := open_posts11 (hval 0 32 v0 rfl rfl) h0 (fun n hn => by simpa using List.all_eq_true.1 hsz n (DataW.weights_mem_each (j := 0) rfl rfl n hn))
  clear hA0 hval0 hsz0
  refine (walk v0 a0 W b0).mono fun e W' ⟨he, bel⟩ => ?_
  subst he
  exact ⟨_, rfl, _, _, _, [], _, [], hW', trodAll_mk1 (shut_bool Try.underlying4 _), (trodAll_cons_mk (Below.trod laidOut (by kernel_rfl) (of_decide_eq_true (by kernel_rfl)) k0 bel lt0) trodAll_mk0), rfl, bel.frame _, fun h => by cases h⟩

theorem over : Rows.sessionKeepsRow.holds Try.pinned (OpenSpec.ofChange Rows.sessionKeepsSpec) :=
  OpenClaim.holds_of_wide 6 Try.f6 rfl rfl rfl rfl rfl rfl rfl ⟨rfl, rfl, rfl, rfl, rfl⟩ rfl rfl rfl rfl rfl (by kernel_rfl) Try.func6 (by kernel_rfl)
    (of_decide_eq_true (by kernel_rfl)) (by unfold Func.isWrapper; first | (rw [if_pos (by decide +kernel)]; kernel_rfl) | (rw [if_neg (by decide +kernel)]; exact ⟨rfl, rfl⟩))
    (fun os started H enc _ => lifted os started H enc)


end Go.Proofs.Ytmnaijmhncaflaa.sessionKeeps
namespace Go.Proofs.Ytmnaijmhncaflaa
/-- The statement. -/
theorem sessionKeeps_holds : Rows.SessionKeepsSaid := sessionKeeps.over
end Go.Proofs.Ytmnaijmhncaflaa
