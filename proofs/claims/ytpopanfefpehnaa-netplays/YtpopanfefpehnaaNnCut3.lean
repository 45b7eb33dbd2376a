/-
  maps.DeleteFunc with Cut's closure.
-/
import Derived.Test.YtpopanfefpehnaaNnCut2
namespace Go.Proofs.Ytpopanfefpehnaa
open Go.RowKit Go.WideMaps

theorem wf_in {a : Int} (h : (Lit.int .i64 a).wf = true) : In64 a := by
  simpa [In64, Lit.wf, IntKind.min, IntKind.max, IntKind.signed, IntKind.bits] using h

theorem int_lit {d : Nat} {c : Value} {l : List Lit} (h : Try.prog.keyLits d 3 [c] = some l) : ∃ a, c = .int .i64 a ∧ In64 a := by
  cases d with
  | zero => simp [Program.keyLits] at h
  | succ d =>
    unfold Program.keyLits at h
    simp only [Try.underlying3] at h
    cases c <;> simp at h
    obtain ⟨⟨rfl, hw⟩, _⟩ := h
    exact ⟨_, rfl, wf_in hw⟩

set_option maxRecDepth 20000 in
/-- What reads as a way is one. -/
theorem ky_inv {v : Value} {l : Lit} (h : keyOf Try.prog 128 v = some l) : ∃ x : Int × Int, v = .agg #[.int .i64 x.1, .int .i64 x.2] ∧ In64 x.1 ∧ In64 x.2 := by
  unfold keyOf at h
  simp only [arrKey.hu] at h
  split at h
  · rename_i hc
    simp only [Bool.and_eq_true] at hc
    have hf := hc.2
    cases v <;> simp [Value.formed, arrKey.hu] at hf
    rename_i cs
    rw [arrKey.size] at hf
    obtain ⟨c0, c1, hcs⟩ : ∃ c0 c1, cs = #[c0, c1] := by
      obtain ⟨l⟩ := cs
      match l, hf with
      | [c0, c1], _ => exact ⟨c0, c1, rfl⟩
    subst hcs
    obtain ⟨q, hq⟩ := Option.map_eq_some_iff.1 h
    have hk := hq.1
    unfold Program.keyLits at hk
    simp only [arrKey.hu, Value.cells] at hk
    rw [if_pos (by rw [arrKey.size]; rfl), show List.range 2 = [0, 1] from rfl, List.mapM_cons, List.mapM_cons, List.mapM_nil] at hk
    simp [arrKey.one] at hk
    obtain ⟨y0, h0, h1⟩ := Option.bind_eq_some_iff.1 hk
    obtain ⟨a, ha, ha64⟩ := int_lit h0
    obtain ⟨z, hz, _⟩ := Option.map_eq_some_iff.1 h1
    obtain ⟨z1, hz1, _⟩ := Option.bind_eq_some_iff.1 hz
    obtain ⟨y1, hy1, _⟩ := Option.bind_eq_some_iff.1 hz1
    obtain ⟨b, hb, hb64⟩ := int_lit hy1
    exact ⟨(a, b), by rw [ha, hb], ha64, hb64⟩
  · cases h

/-- What the map holds while its entries are gone through. -/
def Atl (D : DataW Unit) (f : Int → Int → Int) (t : Int) (left : Lit → Bool) : Prop := ∀ x y, In64 x → In64 y → D.atKey (kl x y) (.lit (.int .i64 0)) = .lit (.int .i64 (if y = t ∧ left (kl x y) = false then 0 else f x y))

theorem Atl.start {D : DataW Unit} {f : Int → Int → Int} {t : Int} (h : ∀ x y, In64 x → In64 y → D.atKey (kl x y) (.lit (.int .i64 0)) = .lit (.int .i64 (f x y))) : Atl D f t (Maps.has D) := fun x y hx hy => by
  split
  · rename_i e
    exact Maps.atKey_of_not_has e.2 _
  · exact h x y hx hy

theorem kl_same {a b x y : Int} (ha : In64 a) (hb : In64 b) (hx : In64 x) (hy : In64 y) (h : ¬ (x = a ∧ y = b)) : (kl x y).sameKey (kl a b) = false := Maps.sameKey_ne (fun e => h (kl_inj hx hy ha hb e))

theorem Atl.struck {D : DataW Unit} {f : Int → Int → Int} {t a : Int} {left : Lit → Bool} (h : Atl D f t left) (ha : In64 a) (ht : In64 t) : Atl (D.del (kl a t)) f t (fun z => left z && !z.sameKey (kl a t)) := fun x y hx hy => by
  by_cases e : x = a ∧ y = t
  · rw [e.1, e.2, Maps.atKey_del_same, if_pos ⟨rfl, by show (left (kl a t) && !(kl a t).sameKey (kl a t)) = false; rw [WideAt.sameKey_self (kl_key a t)]; simp⟩]
  · rw [Maps.atKey_del_other (fun q => e (kl_inj hx hy ha ht q)), h x y hx hy]
    simp [kl_same ha ht hx hy e]

theorem Atl.passed {D : DataW Unit} {f : Int → Int → Int} {t a b : Int} {left : Lit → Bool} (h : Atl D f t left) (ha : In64 a) (hb : In64 b) (hne : b ≠ t) : Atl D f t (fun z => left z && !z.sameKey (kl a b)) := fun x y hx hy => by
  rw [h x y hx hy]
  by_cases e : x = a ∧ y = b
  · rw [if_neg (fun q => hne (by rw [← e.2]; exact q.1)), if_neg (fun q => hne (by rw [← e.2]; exact q.1))]
  · simp [kl_same ha hb hx hy e]

theorem Atl.end {D : DataW Unit} {f : Int → Int → Int} {t : Int} {left : Lit → Bool} (h : Atl D f t left) (h0 : ∀ z, left z = false) : ∀ x y, In64 x → In64 y → D.atKey (kl x y) (.lit (.int .i64 0)) = .lit (.int .i64 (if y = t then 0 else f x y)) := fun x y hx hy => by
  rw [h x y hx hy]
  by_cases e : y = t
  · rw [if_pos ⟨e, h0 _⟩, if_pos e]
  · rw [if_neg (fun q => e q.1), if_neg e]

def mkK (x : Int × Int) : Value := .agg #[.int .i64 x.1, .int .i64 x.2]

set_option maxHeartbeats 1600000 in
set_option maxRecDepth 20000 in
theorem mapsDelete_c {w : World} {mb n bt : Nat} {f : Int → Int → Int} {t : Int} (hM : Mp w mb n f) (ht : w.cell? ⟨bt, 0, none⟩ = some (.int .i64 t)) (ht64 : In64 t) :
    Calls Try.prog 72 #[.map (some mb), .func (.func 73) #[] #[.pointer (some ⟨bt, 0, none⟩)]] w fun e w' => e = .returned (.tuple #[]) ∧ Mp w' mb n (fun a b => if b = t then 0 else f a b) ∧ w.grownBy w' (some mb) := by
  have hbm : bt ≠ mb := fun e => by rw [e, hM.noCell] at ht; cases ht
  have hbl : bt < w.heap.size := World.block_lt_of_cell? _ _ ht
  have HBt : Hid (∀ X, w.grownBy X (some mb) → X.cell? ⟨bt, 0, none⟩ = some (.int .i64 t)) := fun X hX => (World.cell?_of_block (a := ⟨bt, 0, none⟩) (hX.block bt hbl (fun e => hbm (by injection e)))).trans ht
  obtain ⟨D, hown, hat⟩ := hM
  have HA : Hid (Atl D f t (Maps.has D)) := Atl.start hat
  have HC : Hid (∀ X (x : Int × Int) (c : Int), w.grownBy X (some mb) → Calls Try.prog 73 #[.agg #[.int .i64 x.1, .int .i64 x.2], .int .i64 c, .pointer (some ⟨bt, 0, none⟩)] X fun e w' => e = .returned (.bool (decide (x.2 = t))) ∧ Below X.heap.size X w') := fun X x c hX => cut2_c bt t x.1 x.2 c X (HBt.out X hX)
  have HT : Hid (In64 t) := ht64
  clear hat ht hbm hbl ht64
  go_enter Try.func72, Try.ntmps72
  go_wp2_with (first
    | (at_range; refine wpList_range_own _ rfl _ 72 rfl 128 3 keyed Try.underlying72 _ mb n _ rfl hown ?_; intro w0 hrg0 hg0 hs0)
    | go_in)
  go_frame
  have HR0 : Hid (∃ (left : Lit → Bool) (cnt : Nat) (D : DataW Unit), w0.ranges Try.prog 128 (plainElem Try.prog 3) mb w.heap.size n D left cnt ∧ Atl D f t left ∧ w.grownBy w0 (some mb)) := ⟨_, _, _, hrg0, HA.out, hg0.but _⟩
  clear hrg0 hg0 hs0 hown HA
  go_loopw [4, 5] (fun _ _ wr => Hid (∃ (left : Lit → Bool) (cnt : Nat) (D : DataW Unit), wr.ranges Try.prog 128 (plainElem Try.prog 3) mb w.heap.size n D left cnt ∧ Atl D f t left ∧ w.grownBy wr (some mb)))
    (fun _ _ wr => wr.rangeLeft mb w.heap.size)
  case atStart => exact HR0
  case round =>
    clear HR0
    obtain ⟨left, cnt, D, hrg, hA, hgw⟩ := hrel.out
    have HRg : Hid (wr.ranges Try.prog 128 (plainElem Try.prog 3) mb w.heap.size n D left cnt) := hrg
    have HAt : Hid (Atl D f t left) := hA
    have HGw : Hid (w.grownBy wr (some mb)) := hgw
    clear hrel hA hgw
    go_wp2_with (first
      | (at_next; refine wpList_next_ranges _ rfl _ rfl 128 keyed (plainElem Try.prog 3) mkK (Value.int .i64) (fun key kl hkey => by obtain ⟨x, hx, _⟩ := ky_inv hkey; exact ⟨x, hx⟩) (fun v y hv => by obtain ⟨c, hc, _⟩ := plainElem_int_inv Try.underlying3 hv; exact ⟨c, hc⟩) mb w.heap.size n _ _ _ rfl hrg ?_ ?_)
      | go_in)
    · intro _ hl0
      have HF : Hid (Mp wr mb n (fun a b => if b = t then 0 else f a b) ∧ w.grownBy wr (some mb)) := ⟨⟨D, HRg.out.owns, Atl.end HAt.out hl0⟩, HGw.out⟩
      clear hrg hl0
      go_wp2
      exact bodyPost_end (v := .tuple #[]) (by simp [results, Try.results72]) rfl ⟨rfl, HF.out⟩
    · intro xa xb c kl' y1 y2 w1 cnt1 hkey hlk hRv hat hrg1 hlt hg1 hs1 hen
      have hxx : In64 xa ∧ In64 xb := by
        obtain ⟨x', hx', h1, h2⟩ := ky_inv hkey
        unfold mkK at hx'
        injection hx' with hx'
        simp at hx'
        rw [hx'.1, hx'.2]
        exact ⟨h1, h2⟩
      obtain rfl : kl' = kl xa xb := by
        have := keyOf_ky hxx.1 hxx.2
        unfold ky at this
        unfold mkK at hkey
        rw [this] at hkey
        injection hkey with hkey
        exact hkey.symm
      have HX : Hid (In64 xa ∧ In64 xb) := hxx
      have HRg1 : Hid (w1.ranges Try.prog 128 (plainElem Try.prog 3) mb w.heap.size n D (fun z => left z && !z.sameKey (kl xa xb)) cnt1) := hrg1
      have HG1 : Hid (w.grownBy w1 (some mb)) := HGw.out.andThen hg1 (fun j hj => by cases hj; exact Or.inl (Nat.le_refl _))
      have HLt : Hid (cnt1 < cnt) := hlt
      have HKey : Hid (keyOf Try.prog 128 (.agg #[.int .i64 xa, .int .i64 xb]) = some (kl xa xb)) := keyOf_ky hxx.1 hxx.2
      have hen' : (Instr.entry (.pointer (some ⟨w.heap.size, 0, none⟩))).run Try.prog w1 = .ok (.tuple #[.agg #[.int .i64 xa, .int .i64 xb], .int .i64 c]) w1 := hen
      try unfold mkK
      clear hen
      clear hkey hlk hRv hat hrg1 hlt hg1 hs1 hrg hxx
      obtain ⟨Z, hZ⟩ : ∃ Z, Z = w1.alloc (.cells #[.int .i64 xa, .int .i64 xb] 128) := ⟨_, rfl⟩
      have hbZ : Below w1.heap.size w1 Z := by rw [hZ]; exact below_alloc w1 _
      obtain ⟨bk, hbk⟩ : ∃ bk, bk = w1.heap.size := ⟨_, rfl⟩
      have hlZ : bk < Z.heap.size := by rw [hZ, hbk]; simp
      have hcs : ∀ d, Z.cell? ⟨bk, d, none⟩ = (#[.int .i64 xa, .int .i64 xb] : Array Value)[d]? := fun d => by rw [hZ, hbk]; exact World.cell?_alloc_mark w1 _ _ _ d
      have HGZ : Hid (w.grownBy Z (some mb)) := HG1.out.andThen (grown_below hbZ none) (fun j hj => by cases hj)
      have HRZ : Hid (Z.ranges Try.prog 128 (plainElem Try.prog 3) mb w.heap.size n D (fun z => left z && !z.sameKey (kl xa xb)) cnt1) := HRg1.out.kept (grown_below hbZ none) (by simp) (by simp)
      have HCl : Hid _ := HC.out Z (xa, xb) c HGZ.out
      dsimp only at HCl
      have HY : Hid (∀ Y, Below Z.heap.size Z Y → Y.ranges Try.prog 128 (plainElem Try.prog 3) mb w.heap.size n D (fun z => left z && !z.sameKey (kl xa xb)) cnt1 ∧ w.grownBy Y (some mb) ∧ Y.cell? ⟨bk, 0, none⟩ = some (.int .i64 xa) ∧ Y.cell? ⟨bk, 1, none⟩ = some (.int .i64 xb)) := fun Y hY =>
        ⟨HRZ.out.kept (grown_below hY none) (by simp) (by simp), HGZ.out.andThen (grown_below hY none) (fun j hj => by cases hj), (hY.cell (p := ⟨bk, 0, none⟩) hlZ).trans (hcs 0), (hY.cell (p := ⟨bk, 1, none⟩) hlZ).trans (hcs 1)⟩
      have z0 := hcs 0
      have z1 := hcs 1
      clear hbZ hlZ hcs
      by_cases hq : xb = t
      · subst hq
        rw [show decide (xb = xb) = true by simp] at HCl
        go_wp2_with fail
        rw [← hZ]
        try rw [← hbk]
        clear hen'
        refine Calls.mono HCl.out ?_
        rintro e Y ⟨rfl, hb⟩
        obtain ⟨hrY, hgY, k0, k1⟩ := HY.out Y hb
        have HGY : Hid _ := hgY
        clear hb hZ hbk z0 z1 hgY
        go_wp2_with (first
          | (at_delete; refine wpList_delete_ranges _ rfl _ _ 72 128 rfl 3 keyed Try.underlying72 _ mb w.heap.size n _ _ _ rfl hrY _ _ rfl HKey.out ?_; intro w2 cnt2 hrg2 hle hturn; go_frame)
          | go_in)
        rw [Maps.strike_twice] at hrg2
        have HN : Hid (∃ (left : Lit → Bool) (cnt : Nat) (D : DataW Unit), w2.ranges Try.prog 128 (plainElem Try.prog 3) mb w.heap.size n D left cnt ∧ Atl D f xb left ∧ w.grownBy w2 (some mb)) := ⟨_, _, _, hrg2, HAt.out.struck HX.out.1 HX.out.2, HGY.out.andThen hturn.grown (fun j hj => by cases hj; exact Or.inr rfl)⟩
        have HMs : Hid (w2.rangeLeft mb w.heap.size < wr.rangeLeft mb w.heap.size) := by have q := HLt.out; rw [hrg2.left_eq, HRg.out.left_eq]; show cnt2 < cnt; omega
        clear hrg2 hle hturn hrY k0 k1
        go_roundw
        case rel => first | exact HN | trace_state
        case measure => exact HMs.out
      · rw [show decide (xb = t) = false by simpa using hq] at HCl
        go_wp2_with fail
        rw [← hZ]
        try rw [← hbk]
        clear hen'
        refine Calls.mono HCl.out ?_
        rintro e Y ⟨rfl, hb⟩
        obtain ⟨hrY, hgY, k0, k1⟩ := HY.out Y hb
        have HGY : Hid _ := hgY
        have HRY : Hid (Y.ranges Try.prog 128 (plainElem Try.prog 3) mb w.heap.size n D (fun z => left z && !z.sameKey (kl xa xb)) cnt1) := hrY
        clear hb hZ hbk z0 z1 hgY hrY k0 k1
        have HN : Hid (∃ (left : Lit → Bool) (cnt : Nat) (D : DataW Unit), Y.ranges Try.prog 128 (plainElem Try.prog 3) mb w.heap.size n D left cnt ∧ Atl D f t left ∧ w.grownBy Y (some mb)) := ⟨_, _, _, HRY.out, HAt.out.passed HX.out.1 HX.out.2 hq, HGY.out⟩
        have HMs : Hid (Y.rangeLeft mb w.heap.size < wr.rangeLeft mb w.heap.size) := by have q := HLt.out; rw [World.ranges.left_eq HRY.out, HRg.out.left_eq]; exact q
        go_wp2
        go_roundw
        case rel => first | exact HN | trace_state
        case measure => exact HMs.out

end Go.Proofs.Ytpopanfefpehnaa
