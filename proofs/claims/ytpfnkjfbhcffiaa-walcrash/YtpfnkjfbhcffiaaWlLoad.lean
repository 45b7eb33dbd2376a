/-
  drop and load: the log of a disk. load: what a disk's files hold is replayed. load: the walk. load.
-/
import Derived.Test.YtpfnkjfbhcffiaaWlReplay
import Derived.Test.YtpfnkjfbhcffiaaDkBytes
import Derived.Test.YtpfnkjfbhcffiaaDkTrim
import Derived.Test.YtpfnkjfbhcffiaaDkSwap
namespace Go.Proofs.Ytpfnkjfbhcffiaa
open Go.RowKit

theorem Lg.size1 {w : World} {p : Pl} {s : St} {own : Nat → Prop} (h : Lg w p s own) (i : Nat) (hi : i < 256) :
    Calls Try.prog 59 #[.pointer (some ⟨p.b, 0, none⟩), .int .i64 (i : Int)] w fun e w' => ∃ su : Nat, e = .returned (.tuple #[.int .i64 ((s.A i).length : Int), .int .i64 (su : Int)]) ∧ w' = w.drew := by
  obtain ⟨dk, E, h⟩ := h
  refine (Size_yes h.disk i hi).mono ?_
  rintro e w' ⟨rfl, hw⟩
  exact ⟨_, rfl, hw⟩
theorem Lg.bytes1 {w : World} {p : Pl} {s : St} {own : Nat → Prop} (h : Lg w p s own) (i : Nat) (hi : i < 256) :
    Calls Try.prog 22 #[.pointer (some ⟨p.b, 0, none⟩), .int .i64 (i : Int), .int .i64 0, .int .i64 ((s.A i).length : Int)] w fun e w' => e = .returned (.tuple #[.string ⟨(s.A i).toArray⟩, .int .i64 0]) ∧ w' = w := by
  obtain ⟨dk, E, h⟩ := h
  have := Bytes_yes h.disk i hi 0 (s.A i).length (by omega)
  rw [List.drop_zero, List.take_length] at this
  exact this
theorem Lg.trim {w : World} {p : Pl} {s : St} {own : Nat → Prop} (h : Lg w p s own) (i m : Nat) (hi : i < 256) (hm : m ≤ (s.A i).length) :
    Calls Try.prog 61 #[.pointer (some ⟨p.b, 0, none⟩), .int .i64 (i : Int), .int .i64 (m : Int)] w fun e w' => e = .returned (.int .i64 0) ∧ ∃ S', Aft own w w' p { s with A := upd s.A i ((s.A i).take m), S := S' } := by
  obtain ⟨dk, E, h⟩ := h
  refine (Trim_yes h.disk i m hi hm).mono ?_
  rintro e w' ⟨rfl, h1, h2⟩
  exact ⟨rfl, _, Lg.disked h h1 h2⟩
theorem Lg.room {w : World} {p : Pl} {s : St} {own : Nat → Prop} (h : Lg w p s own) {i : Nat} (hi : i < 256) : (s.A i).length ≤ 16777216 := by
  obtain ⟨dk, E, h⟩ := h
  obtain ⟨V, h⟩ := h.disk
  have := h.len hi
  omega

/-- The files from n on, below k, are empty. -/
def clearTo (A : Nat → List UInt8) (n k : Nat) : Nat → List UInt8 := fun i => if n ≤ i ∧ i < k then [] else A i
theorem clearTo_zero (A : Nat → List UInt8) (n : Nat) : clearTo A n n = A := by
  funext i
  unfold clearTo
  rw [if_neg (by omega)]
theorem clearTo_next (A : Nat → List UInt8) {n k : Nat} (h : n ≤ k) : upd (clearTo A n k) k ((clearTo A n k k).take 0) = clearTo A n (k + 1) := by
  funext i
  unfold upd clearTo
  by_cases e : i = k
  · subst e
    rw [if_pos rfl, List.take_zero, if_pos ⟨h, Nat.lt_succ_self _⟩]
  · rw [if_neg e]
    by_cases q : n ≤ i ∧ i < k
    · rw [if_pos q, if_pos (by omega)]
    · rw [if_neg q, if_neg (by omega)]

set_option maxHeartbeats 400000 in
set_option maxRecDepth 20000 in
theorem drop_c {w : World} {p : Pl} {s : St} {own : Nat → Prop} (h : Lg w p s own) :
    Calls Try.prog 62 #[.pointer (some ⟨p.L, 0, none⟩)] w fun e w' => e = .returned (.tuple #[]) ∧ ∃ S', Aft own w w' p { s with A := clearTo s.A s.n 256, S := S' } := by
  obtain ⟨c0, c1, cn, ct, fn, ft⟩ := h.cells
  have hn := h.nn
  have HA : Hid (Aft own w w p { s with A := clearTo s.A s.n s.n, S := s.S }) := by
    rw [clearTo_zero]
    exact Aft.same h (Below.refl _ _)
  have HT : Hid (∀ wr k S', s.n ≤ k → k < 256 → Aft own w wr p { s with A := clearTo s.A s.n k, S := S' } → wr.cell? ⟨p.L, 0, none⟩ = some (.pointer (some ⟨p.b, 0, none⟩)) ∧ Calls Try.prog 61 #[.pointer (some ⟨p.b, 0, none⟩), .int .i64 (k : Int), .int .i64 0] wr fun e w' => e = .returned (.int .i64 0) ∧ ∃ S'', Aft own w w' p { s with A := clearTo s.A s.n (k + 1), S := S'' }) := by
    intro wr k S' h1 h2 hA
    refine ⟨hA.1.cells.1, (Lg.trim hA.1 k 0 h2 (Nat.zero_le _)).mono ?_⟩
    rintro e w' ⟨rfl, S'', h3⟩
    refine ⟨rfl, S'', ?_⟩
    have := hA.trans h3
    rw [show (upd ({ s with A := clearTo s.A s.n k, S := S' } : St).A k ((({ s with A := clearTo s.A s.n k, S := S' } : St).A k).take 0)) = clearTo s.A s.n (k + 1) from clearTo_next s.A h1] at this
    exact this
  obtain ⟨n, hnn⟩ : ∃ n, n = s.n := ⟨_, rfl⟩
  rw [← hnn] at cn hn
  have HNN : Hid (n = s.n) := hnn
  obtain ⟨L, hL⟩ : ∃ L, L = p.L := ⟨_, rfl⟩
  obtain ⟨b, hb⟩ : ∃ b, b = p.b := ⟨_, rfl⟩
  rw [← hL, ← hb] at HT
  rw [← hL] at cn ⊢
  clear h c0 c1 ct fn ft hL hb hnn
  go_enter Try.func62, Try.ntmps62
  go_wp2
  go_loopw [2] (fun x wr => ∃ (k : Nat) (S' : Nat → Nat), x = .int .i64 (k : Int) ∧ n ≤ k ∧ k ≤ 256 ∧ Hid (Aft own w wr p { s with A := clearTo s.A s.n k, S := S' })) (fun x _ => 256 - (intOf x).toNat)
  case atStart => exact ⟨n, s.S, rfl, Nat.le_refl _, by omega, by rw [HNN.out]; exact HA⟩
  case round =>
    clear HA cn
    obtain ⟨k, S', rfl, h1, h2, HA⟩ := hrel
    by_cases e : k < 256
    · obtain ⟨c0, ht⟩ := HT.out wr k S' (by have := HNN.out; omega) e HA.out
      have HT' : Hid _ := ht
      clear ht
      go_wp2_with fail
      refine Calls.mono HT'.out ?_
      rintro e w2 ⟨rfl, S'', h3⟩
      have H3 : Hid _ := h3
      clear h3
      go_wp2
      go_roundw
      case rel => exact ⟨k + 1, S'', by go_num, by omega, by omega, H3⟩
      case measure => simp [intOf]; omega
    · obtain rfl : k = 256 := by omega
      go_wp2
      exact bodyPost_end (v := .tuple #[]) (by simp [results, Try.results62]) rfl ⟨rfl, S', HA.out⟩

end Go.Proofs.Ytpfnkjfbhcffiaa

namespace Go.Proofs.Ytpfnkjfbhcffiaa
open Go.RowKit

/-- A segment's bytes. -/
def segB (t : Nat) (l : List W.Rec) : ByteArray := W.head t ++ W.recs l
/-- The files of so many segments. -/
def imgA (t : Nat) (segs : List (List W.Rec)) : Nat → List UInt8 := fun i => match segs[i]? with
  | some l => (segB t l).data.toList
  | none => []

/-- What a disk holds: whole segments, then a file that ends in something that is none. -/
structure Disky (A : Nat → List UInt8) (gs : Nat → W.Sv) (t : Nat) (segs : List (List W.Rec)) (last : List W.Rec) : Prop where
  t1 : t ≤ 1
  few : segs.length < 200
  files : ∀ i l, segs[i]? = some l → A i = (segB t l).data.toList ∧ l ≠ []
  chks : W.Chks gs (segs.flatten ++ last)
  /-- either nothing is whole in the file behind them -/
  ends : ((F.take ⟨(A segs.length).toArray⟩).2.2 ≠ 0 ∧ last = []) ∨ ∃ rest : ByteArray, (0 < rest.size ∨ last = []) ∧ (F.take rest).2.2 ≠ 0 ∧ (⟨(A segs.length).toArray⟩ : ByteArray) = segB t last ++ rest

/-- All segments that are found. -/
def found (segs : List (List W.Rec)) (last : List W.Rec) : List (List W.Rec) := if last = [] then segs else segs ++ [last]

theorem found_flat (segs : List (List W.Rec)) (last : List W.Rec) : (found segs last).flatten = segs.flatten ++ last := by
  unfold found
  split
  · rename_i h; rw [h, List.append_nil]
  · simp

/-- How many segments a log's block tells. -/
def segOf (w : World) (L : Nat) : Nat := match w.cell? ⟨L, 57, none⟩ with
  | some (.int _ n) => n.toNat
  | _ => 0
def oneOf : Value → Nat
  | .bool true => 1
  | _ => 0

theorem Aft.segOf {own : Nat → Prop} {w w' : World} {p : Pl} {s : St} (h : Aft own w w' p s) : segOf w' p.L = s.n := by
  unfold Proofs.Ytpfnkjfbhcffiaa.segOf
  rw [h.1.cells.2.2.1]
  simp

theorem take_empty : (F.take ⟨#[]⟩).2.2 ≠ 0 := by decide

theorem arr_list (x : ByteArray) : (⟨x.data.toList.toArray⟩ : ByteArray) = x := rfl

theorem chks_left {gs : Nat → W.Sv} {a b : List W.Rec} (h : W.Chks gs (a ++ b)) : W.Chks gs a := ((W.chks_append a b gs).1 h).1

/-- The k-th round: what replay answers, and what is left. -/
theorem load_round {w wr : World} {p : Pl} {own : Nat → Prop} {A : Nat → List UInt8} {S : Nat → Nat} {gs : Nat → W.Sv} {t : Nat} {segs : List (List W.Rec)} {last : List W.Rec} (D : Disky A gs t segs last) {k : Nat} (hk : k < segs.length)
    {T : Nat} (hT : k = 0 ∨ T = t) (h : Aft own w wr p ⟨A, S, W.folds gs (segs.take k).flatten, k, T⟩) :
    ∃ l, segs[k]? = some l ∧ (A k).length = goodAt l ∧ 0 < goodAt l ∧ ∀ u, Below wr.heap.size wr u → Calls Try.prog 60 #[.pointer (some ⟨p.L, 0, none⟩), .string ⟨(A k).toArray⟩] u fun e w' => e = .returned (.int .i64 (goodAt l : Int)) ∧ Aft own w w' p ⟨A, S, W.folds gs (segs.take (k + 1)).flatten, k, t⟩ := by
  have hl : segs[k]? = some segs[k] := List.getElem?_eq_getElem hk
  obtain ⟨l, hle⟩ : ∃ l, l = segs[k] := ⟨_, rfl⟩
  rw [← hle] at hl
  obtain ⟨hA, hne⟩ := D.files k l hl
  have hlen : (A k).length = 10 + (W.recs l).size := by rw [hA]; unfold segB; rw [F.toL_length, size_app, head_size10 t D.t1]
  have hg : goodAt l = 10 + (W.recs l).size := by unfold goodAt; rw [if_neg hne]
  have htk : segs.take (k + 1) = segs.take k ++ [l] := by rw [List.take_add_one, hl]; rfl
  refine ⟨l, hl, by rw [hlen, hg], by omega, fun u hu => ?_⟩
  have e1 : (⟨(A k).toArray⟩ : ByteArray) = W.head t ++ (W.recs l ++ ⟨#[]⟩) := by
    rw [hA]
    show segB t l = _
    unfold segB
    apply F.ext
    simp
  have hroom := h.1.room (i := k) (by have := D.few; omega)
  have hc : W.Chks (W.folds gs (segs.take k).flatten) l := by
    have := D.chks
    have e : segs.flatten ++ last = (segs.take k).flatten ++ (l ++ ((segs.drop (k + 1)).flatten ++ last)) := by
      have q : segs = segs.take k ++ l :: segs.drop (k + 1) := by rw [hle, List.getElem_cons_drop, List.take_append_drop]
      have q2 : segs.flatten = (segs.take k).flatten ++ (l ++ (segs.drop (k + 1)).flatten) := by
        rw [← List.flatten_cons, ← List.flatten_append, ← q]
      rw [q2]
      simp
    rw [e, W.chks_append, W.chks_append] at this
    exact this.2.1
  have hsz : (W.head t ++ (W.recs l ++ ⟨#[]⟩)).size ≤ 100000000 := by
    rw [← e1]
    show (A k).toArray.size ≤ _
    rw [List.size_toArray]
    have : (A k).length ≤ 16777216 := hroom
    omega
  rw [e1]
  refine (replay_yes (h.1.below hu) t D.t1 l ⟨#[]⟩ hsz take_empty hc (by rcases hT with e | e; exact .inl e; exact .inr e.symm)).mono ?_
  rintro e w' ⟨rfl, ha⟩
  refine ⟨rfl, ?_⟩
  rw [htk, List.flatten_append, W.folds_append, List.flatten_cons, List.flatten_nil, List.append_nil]
  exact h.trans (Aft.from hu ha)

/-- The last round. -/
theorem load_end {w wr : World} {p : Pl} {own : Nat → Prop} {A : Nat → List UInt8} {S : Nat → Nat} {gs : Nat → W.Sv} {t : Nat} {segs : List (List W.Rec)} {last : List W.Rec} (D : Disky A gs t segs last)
    {T : Nat} (hT : segs.length = 0 ∨ T = t) (h : Aft own w wr p ⟨A, S, W.folds gs segs.flatten, segs.length, T⟩) :
    ∃ T', (T' = T ∨ T' = t) ∧ (last ≠ [] → T' = t) ∧ goodAt last ≤ (A segs.length).length ∧ ¬ (0 < goodAt last ∧ goodAt last = (A segs.length).length) ∧ (last ≠ [] → 0 < goodAt last ∧ (A segs.length).take (goodAt last) = (segB t last).data.toList) ∧ (last = [] → goodAt last = 0) ∧
      ∀ u, Below wr.heap.size wr u → Calls Try.prog 60 #[.pointer (some ⟨p.L, 0, none⟩), .string ⟨(A segs.length).toArray⟩] u fun e w' => e = .returned (.int .i64 (goodAt last : Int)) ∧ Aft own w w' p ⟨A, S, W.folds gs (segs.flatten ++ last), segs.length, T'⟩ := by
  have hroom : (A segs.length).length ≤ 16777216 := h.1.room (i := segs.length) (by have := D.few; omega)
  have hxs : (⟨(A segs.length).toArray⟩ : ByteArray).size = (A segs.length).length := by show (A segs.length).toArray.size = _; rw [List.size_toArray]
  have h10 := head_size10 t D.t1
  rcases D.ends with ⟨q1, rfl⟩ | ⟨rest, q1, q2, q3⟩
  · refine ⟨T, .inl rfl, fun e => absurd rfl e, ?_, ?_, fun e => absurd rfl e, fun _ => rfl, fun u hu => ?_⟩
    · show 0 ≤ _; omega
    · rintro ⟨e, _⟩; exact absurd e (by show ¬ 0 < 0; omega)
    · refine (replay_no (h.1.below hu) _ (by rw [hxs]; omega) q1).mono ?_
      rintro e w' ⟨rfl, hb⟩
      rw [List.append_nil]
      exact ⟨rfl, h.trans (Aft.same h.1 (hu.trans (hb.mono hu.size)))⟩
  · have e1 : (⟨(A segs.length).toArray⟩ : ByteArray) = W.head t ++ (W.recs last ++ rest) := by rw [q3]; unfold segB; rw [ByteArray.append_assoc]
    have hlen : (A segs.length).length = 10 + (W.recs last).size + rest.size := by rw [← hxs, e1, size_app, size_app, h10]; omega
    have hg : goodAt last ≤ 10 + (W.recs last).size := by unfold goodAt; split <;> omega
    have hno : ¬ (0 < goodAt last ∧ goodAt last = (A segs.length).length) := by
      rcases q1 with q1 | q1
      · omega
      · rw [q1]
        show ¬ (0 < 0 ∧ _)
        omega
    refine ⟨t, .inr rfl, fun _ => rfl, by omega, hno, fun hne => ?_, fun e => by rw [e]; rfl, fun u hu => ?_⟩
    · have hg2 : goodAt last = 10 + (W.recs last).size := by unfold goodAt; rw [if_neg hne]
      refine ⟨by omega, ?_⟩
      have e2 : A segs.length = (segB t last ++ rest).data.toList := by rw [← q3]
      have e3 : (segB t last).data.toList.length = goodAt last := by rw [F.toL_length, hg2]; unfold segB; rw [size_app, h10]
      rw [e2, F.toL_append, ← e3, List.take_left]
    · have hc : W.Chks (W.folds gs segs.flatten) last := ((W.chks_append segs.flatten last gs).1 D.chks).2
      rw [e1]
      refine (replay_yes (h.1.below hu) t D.t1 last rest (by rw [← e1, hxs]; omega) q2 hc (by rcases hT with e | e; exact .inl e; exact .inr e.symm)).mono ?_
      rintro e w' ⟨rfl, ha⟩
      rw [W.folds_append]
      exact ⟨rfl, h.trans (Aft.from hu ha)⟩

end Go.Proofs.Ytpfnkjfbhcffiaa

namespace Go.Proofs.Ytpfnkjfbhcffiaa
open Go.RowKit

/-- While load goes: the first k segments are replayed. -/
def Going (own : Nat → Prop) (w wr : World) (p : Pl) (A : Nat → List UInt8) (gs : Nat → W.Sv) (t : Nat) (segs : List (List W.Rec)) (k : Nat) : Prop :=
  ∃ S' T, (k = 0 ∧ T = 0 ∨ T = t) ∧ Aft own w wr p ⟨A, S', W.folds gs (segs.take k).flatten, k, T⟩
/-- All that is whole is replayed. -/
def Gone (own : Nat → Prop) (w wr : World) (p : Pl) (gs : Nat → W.Sv) (t : Nat) (segs : List (List W.Rec)) (last : List W.Rec) : Prop :=
  ∃ A' S' T, T ≤ 1 ∧ (found segs last ≠ [] → T = t) ∧ (∀ i l, (found segs last)[i]? = some l → A' i = (segB t l).data.toList) ∧ Aft own w wr p ⟨A', S', W.folds gs (segs.flatten ++ last), (found segs last).length, T⟩

theorem going_cells {own : Nat → Prop} {w wr : World} {p : Pl} {A : Nat → List UInt8} {gs : Nat → W.Sv} {t : Nat} {segs : List (List W.Rec)} {k : Nat} (h : Going own w wr p A gs t segs k) :
    wr.cell? ⟨p.L, 0, none⟩ = some (.pointer (some ⟨p.b, 0, none⟩)) ∧ wr.cell? ⟨p.L, 57, none⟩ = some (.int .i64 (k : Int)) ∧ segOf wr p.L = k := by
  obtain ⟨S', T, _, h⟩ := h
  exact ⟨h.1.cells.1, h.1.cells.2.2.1, h.segOf⟩

/-- One round: size, bytes, replay, trim; then the count, if anything is whole. -/
structure Round (wr : World) (L b k len good : Nat) (x : ByteArray) (Done : World → Prop) (Keep : World → Prop) : Prop where
  size : Calls Try.prog 59 #[.pointer (some ⟨b, 0, none⟩), .int .i64 (k : Int)] wr fun e w' => ∃ su : Nat, e = .returned (.tuple #[.int .i64 (len : Int), .int .i64 (su : Int)]) ∧ w' = wr.drew
  bytes : Calls Try.prog 22 #[.pointer (some ⟨b, 0, none⟩), .int .i64 (k : Int), .int .i64 0, .int .i64 (len : Int)] wr.drew fun e w' => e = .returned (.tuple #[.string x, .int .i64 0]) ∧ w' = wr.drew
  replay : Calls Try.prog 60 #[.pointer (some ⟨L, 0, none⟩), .string x] wr.drew fun e w' => e = .returned (.int .i64 (good : Int)) ∧ w'.cell? ⟨L, 0, none⟩ = some (.pointer (some ⟨b, 0, none⟩)) ∧
    Calls Try.prog 61 #[.pointer (some ⟨b, 0, none⟩), .int .i64 (k : Int), .int .i64 (good : Int)] w' fun e w'' => e = .returned (.int .i64 0) ∧ w''.cell? ⟨L, 57, none⟩ = some (.int .i64 (k : Int)) ∧ w''.frozen? ⟨L, 57, none⟩ = false ∧ Keep w'' ∧ Done (w''.setCell ⟨L, 57, none⟩ (.int .i64 ((k : Int) + 1)))

theorem round_some {own : Nat → Prop} {w wr : World} {p : Pl} {A : Nat → List UInt8} {gs : Nat → W.Sv} {t : Nat} {segs : List (List W.Rec)} {last : List W.Rec} (D : Disky A gs t segs last) {k : Nat} (hk : k < segs.length) (h : Going own w wr p A gs t segs k) :
    ∃ len x, 0 < len ∧ Round wr p.L p.b k len len x (fun w' => Going own w w' p A gs t segs (k + 1)) (fun _ => True) := by
  obtain ⟨S', T, hT, h⟩ := h
  have hf := D.few
  obtain ⟨l, hl, hlen, hpos, hrep⟩ := load_round D hk (by rcases hT with e | e; exact .inl e.1; exact .inr e) h
  have hd : Below wr.heap.size wr wr.drew := (Below.refl _ _).drew
  refine ⟨goodAt l, ⟨(A k).toArray⟩, hpos, ⟨?_, ?_, ?_⟩⟩
  · rw [← hlen]; exact h.1.size1 k (by omega)
  · rw [← hlen]; exact (h.1.below hd).bytes1 k (by omega)
  · refine (hrep _ hd).mono ?_
    rintro e w' ⟨rfl, ha⟩
    refine ⟨rfl, ha.1.cells.1, (ha.1.trim k (goodAt l) (by omega) (by show _ ≤ (A k).length; omega)).mono ?_⟩
    rintro e w'' ⟨rfl, S'', hb⟩
    have e1 : upd A k ((A k).take (goodAt l)) = A := by rw [← hlen, List.take_length, upd_self]
    have hb' : Aft own w w'' p ⟨A, S'', W.folds gs (segs.take (k + 1)).flatten, k, t⟩ := by
      have := ha.trans hb
      rw [show (upd ({ A := A, S := S', gs := W.folds gs (segs.take (k + 1)).flatten, n := k, turn := t } : St).A k ((({ A := A, S := S', gs := W.folds gs (segs.take (k + 1)).flatten, n := k, turn := t } : St).A k).take (goodAt l))) = A from e1] at this
      exact this
    refine ⟨rfl, hb'.1.cells.2.2.1, hb'.1.cells.2.2.2.2.1, trivial, S'', t, .inr rfl, ?_⟩
    have := hb'.trans (hb'.1.setN (k + 1) (by omega))
    rw [show ((k + 1 : Nat) : Int) = (k : Int) + 1 by omega] at this
    exact this

theorem round_end {own : Nat → Prop} {w wr : World} {p : Pl} {A : Nat → List UInt8} {gs : Nat → W.Sv} {t : Nat} {segs : List (List W.Rec)} {last : List W.Rec} (D : Disky A gs t segs last) (h : Going own w wr p A gs t segs segs.length) :
    ∃ len good x, ¬ (0 < good ∧ good = len) ∧ (0 < good ↔ last ≠ []) ∧ Round wr p.L p.b segs.length len good x (fun w' => last ≠ [] → Gone own w w' p gs t segs last) (fun w' => last = [] → Gone own w w' p gs t segs last) := by
  obtain ⟨S', T, hT, h⟩ := h
  rw [List.take_length] at h
  have hf := D.few
  obtain ⟨T', hT1, hT2, hle, hnot, hyes, hno, hrep⟩ := load_end D (by rcases hT with e | e; exact .inl e.1; exact .inr e) h
  have hd : Below wr.heap.size wr wr.drew := (Below.refl _ _).drew
  have hT1' : T' ≤ 1 := by
    have := D.t1
    rcases hT1 with e | e
    · rcases hT with q | q <;> omega
    · omega
  refine ⟨(A segs.length).length, goodAt last, ⟨(A segs.length).toArray⟩, hnot, ⟨fun q e => by rw [hno e] at q; omega, fun q => (hyes q).1⟩, ⟨?_, ?_, ?_⟩⟩
  · exact h.1.size1 segs.length (by omega)
  · exact (h.1.below hd).bytes1 segs.length (by omega)
  · refine (hrep _ hd).mono ?_
    rintro e w' ⟨rfl, ha⟩
    refine ⟨rfl, ha.1.cells.1, (ha.1.trim segs.length (goodAt last) (by omega) hle).mono ?_⟩
    rintro e w'' ⟨rfl, S'', hb⟩
    have hb' := ha.trans hb
    refine ⟨rfl, hb'.1.cells.2.2.1, hb'.1.cells.2.2.2.2.1, fun hl => ?_, fun hl => ?_⟩
    · have ef : found segs last = segs := by unfold found; rw [if_pos hl]
      refine ⟨_, S'', T', hT1', ?_, ?_, by rw [ef]; exact hb'⟩
      · intro hne
        rw [ef] at hne
        rcases hT1 with e | e
        · rcases hT with q | q
          · exact absurd (List.eq_nil_of_length_eq_zero q.1) hne
          · omega
        · exact e
      · intro i l hi
        rw [ef] at hi
        have hil : i < segs.length := (List.getElem?_eq_some_iff.1 hi).1
        show upd A segs.length _ i = _
        rw [upd_other _ _ (by omega)]
        exact (D.files i l hi).1
    · have ef : found segs last = segs ++ [last] := by unfold found; rw [if_neg hl]
      refine ⟨upd A segs.length ((A segs.length).take (goodAt last)), S'', T', hT1', fun _ => hT2 hl, ?_, ?_⟩
      · intro i l hi
        rw [ef] at hi
        by_cases e : i = segs.length
        · subst e
          rw [upd_same, (hyes hl).2]
          have : last = l := by simpa using hi
          rw [this]
        · rw [upd_other _ _ e]
          have hil : i < segs.length := by
            have := (List.getElem?_eq_some_iff.1 hi).1
            rw [List.length_append] at this
            simp at this
            omega
          rw [List.getElem?_append_left hil] at hi
          exact (D.files i l hi).1
      · have := hb'.trans (hb'.1.setN (segs.length + 1) (by omega))
        rw [show ((segs.length + 1 : Nat) : Int) = (segs.length : Int) + 1 by omega] at this
        rw [ef, List.length_append]
        exact this

end Go.Proofs.Ytpfnkjfbhcffiaa

namespace Go.Proofs.Ytpfnkjfbhcffiaa
open Go.RowKit

theorem img_clear {t n : Nat} {l : List (List W.Rec)} {A : Nat → List UInt8} (hn : n = l.length) (h : ∀ i x, l[i]? = some x → A i = (segB t x).data.toList) (i : Nat) (hi : i < 256) : clearTo A n 256 i = imgA t l i := by
  unfold clearTo imgA
  by_cases e : n ≤ i
  · rw [if_pos ⟨e, hi⟩, List.getElem?_eq_none (by omega)]
  · rw [if_neg (by omega), List.getElem?_eq_getElem (by omega)]
    exact h i _ (List.getElem?_eq_getElem (by omega))

set_option maxHeartbeats 1600000 in
set_option maxRecDepth 20000 in
theorem load_c {w : World} {p : Pl} {own : Nat → Prop} {A : Nat → List UInt8} {S : Nat → Nat} {gs : Nat → W.Sv} {t : Nat} {segs : List (List W.Rec)} {last : List W.Rec} (D : Disky A gs t segs last) (h : Lg w p ⟨A, S, gs, 0, 0⟩ own) :
    Calls Try.prog 24 #[.pointer (some ⟨p.L, 0, none⟩)] w fun e w' => e = .returned (.tuple #[]) ∧ ∃ A' S' T, T ≤ 1 ∧ (found segs last ≠ [] → T = t) ∧ (∀ i, i < 256 → A' i = imgA t (found segs last) i) ∧ Aft own w w' p ⟨A', S', W.folds gs (segs.flatten ++ last), (found segs last).length, T⟩ := by
  have HG0 : Hid (Going own w w p A gs t segs 0) := ⟨S, 0, .inl ⟨rfl, rfl⟩, Aft.same h (Below.refl _ _)⟩
  have HDy : Hid (Disky A gs t segs last) := D
  have hfew := D.few
  have HC : Hid (∀ wr k, Going own w wr p A gs t segs k → wr.cell? ⟨p.L, 0, none⟩ = some (.pointer (some ⟨p.b, 0, none⟩)) ∧ wr.cell? ⟨p.L, 57, none⟩ = some (.int .i64 (k : Int)) ∧ segOf wr p.L = k) := fun wr k q => going_cells q
  have HCg : Hid (∀ wr, Gone own w wr p gs t segs last → (found segs last).length ≤ 200 ∧ wr.cell? ⟨p.L, 57, none⟩ = some (.int .i64 ((found segs last).length : Int)) ∧ segOf wr p.L = (found segs last).length) := by
    rintro wr ⟨A', S', T, _, _, _, q⟩
    exact ⟨q.1.nn, q.1.cells.2.2.1, q.segOf⟩
  have HS : Hid (∀ wr k, Going own w wr p A gs t segs k → k < segs.length → ∃ len x, 0 < len ∧ Round wr p.L p.b k len len x (fun w' => Going own w w' p A gs t segs (k + 1)) (fun _ => True)) := fun wr k q hk => round_some D hk q
  have HE : Hid (∀ wr, Going own w wr p A gs t segs segs.length → ∃ len good x, ¬ (0 < good ∧ good = len) ∧ (0 < good ↔ last ≠ []) ∧ Round wr p.L p.b segs.length len good x (fun w' => last ≠ [] → Gone own w w' p gs t segs last) (fun w' => last = [] → Gone own w w' p gs t segs last)) := fun wr q => round_end D q
  have HDr : Hid (∀ wr, Gone own w wr p gs t segs last → Calls Try.prog 62 #[.pointer (some ⟨p.L, 0, none⟩)] wr fun e w' => e = .returned (.tuple #[]) ∧ ∃ A' S' T, T ≤ 1 ∧ (found segs last ≠ [] → T = t) ∧ (∀ i, i < 256 → A' i = imgA t (found segs last) i) ∧ Aft own w w' p ⟨A', S', W.folds gs (segs.flatten ++ last), (found segs last).length, T⟩) := by
    rintro wr ⟨A', S', T, h1, h2, h3, h4⟩
    refine (drop_c h4.1).mono ?_
    rintro e w' ⟨rfl, S'', h5⟩
    exact ⟨rfl, _, S'', T, h1, h2, fun i hi => img_clear rfl h3 i hi, h4.trans h5⟩
  obtain ⟨L, hL⟩ : ∃ L, L = p.L := ⟨_, rfl⟩
  obtain ⟨b, hb⟩ : ∃ b, b = p.b := ⟨_, rfl⟩
  rw [← hL] at HC HCg HDr HS HE ⊢
  rw [← hb] at HC HS HE
  clear h D hL hb
  go_enter Try.func24, Try.ntmps24
  go_wp2
  go_loopw [2] (fun x wr => (x = .bool true ∧ ∃ k, k ≤ segs.length ∧ Hid (Going own w wr p A gs t segs k)) ∨ (x = .bool false ∧ Hid (Gone own w wr p gs t segs last))) (fun x wr => oneOf x + (300 - segOf wr L))
  case atStart => exact .inl ⟨rfl, 0, Nat.zero_le _, HG0⟩
  case round =>
    clear HG0
    rcases hrel with ⟨rfl, k, hk, HG⟩ | ⟨rfl, HG⟩
    · obtain ⟨c0, c57, hso⟩ := HC.out wr k HG.out
      have HSO : Hid _ := hso
      clear hso
      by_cases hlt : k < segs.length
      · obtain ⟨len, x, hpos, hround⟩ := HS.out wr k HG.out hlt
        have HR : Hid _ := hround
        have hk200 : k < 200 := by omega
        have t1 : ((len : Int) == (len : Int)) = true := by simp
        clear hround
        go_wp2_with fail
        refine Calls.mono HR.out.size ?_
        rintro e w1 ⟨su, rfl, hw⟩
        subst hw
        go_wp2_with fail
        refine Calls.mono HR.out.bytes ?_
        rintro e w1 ⟨rfl, hw⟩
        subst hw
        go_wp2_with fail
        refine Calls.mono HR.out.replay ?_
        rintro e w2 ⟨rfl, d0, htrim⟩
        have HTr : Hid _ := htrim
        clear htrim c0 c57
        go_wp2_with fail
        refine Calls.mono HTr.out ?_
        rintro e w3 ⟨rfl, d57, df, hkeep, hdone⟩
        have HKp : Hid _ := hkeep
        have HDn : Hid _ := hdone
        clear hkeep hdone d0
        go_wp2
        go_roundw
        case rel => exact .inl ⟨rfl, k + 1, by omega, HDn.out⟩
        case measure =>
          have e1 := HSO.out
          have e2 := (HC.out _ _ HDn.out).2.2
          rw [e1, e2]
          simp [oneOf]
          omega
      · obtain rfl : k = segs.length := by omega
        obtain ⟨len, good, x, hnot, hiff, hround⟩ := HE.out wr HG.out
        have HR : Hid _ := hround
        have hk200 : segs.length < 200 := by omega
        obtain ⟨m, hm⟩ : ∃ m, m = segs.length := ⟨_, rfl⟩
        have HM : Hid (m = segs.length) := hm
        rw [← hm] at c57 hk200
        rw [← hm] at HR
        clear hround hm
        by_cases hg : 0 < good
        · have HL : Hid (last ≠ []) := hiff.1 hg
          have t1 : ((good : Int) == (len : Int)) = false := by simp; omega
          clear hnot hiff hk hlt
          go_wp2_with fail
          refine Calls.mono HR.out.size ?_
          rintro e w1 ⟨su, rfl, hw⟩
          subst hw
          go_wp2_with fail
          refine Calls.mono HR.out.bytes ?_
          rintro e w1 ⟨rfl, hw⟩
          subst hw
          go_wp2_with fail
          refine Calls.mono HR.out.replay ?_
          rintro e w2 ⟨rfl, d0, htrim⟩
          have HTr : Hid _ := htrim
          clear htrim c0 c57
          go_wp2_with fail
          refine Calls.mono HTr.out ?_
          rintro e w3 ⟨rfl, d57, df, hkeep, hdone⟩
          have HKp : Hid _ := hkeep
          have HDn : Hid _ := hdone
          clear hkeep hdone d0
          go_wp2
          go_roundw
          case rel => exact .inr ⟨rfl, HDn.out HL.out⟩
          case measure =>
            have e1 := HSO.out
            have e2 := (HCg.out _ (HDn.out HL.out)).2.2
            have e3 := HM.out
            have e4 : (found segs last).length = m + 1 := by unfold found; rw [if_neg HL.out, List.length_append, e3]; rfl
            rw [e1, e2]
            simp [oneOf]
            omega
        · obtain rfl : good = 0 := by omega
          have HL : Hid (last = []) := by
            show last = []
            apply Classical.byContradiction
            intro q
            have := hiff.2 q
            omega
          clear hnot hiff hk hlt hg
          go_wp2_with fail
          refine Calls.mono HR.out.size ?_
          rintro e w1 ⟨su, rfl, hw⟩
          subst hw
          go_wp2_with fail
          refine Calls.mono HR.out.bytes ?_
          rintro e w1 ⟨rfl, hw⟩
          subst hw
          go_wp2_with fail
          refine Calls.mono HR.out.replay ?_
          rintro e w2 ⟨rfl, d0, htrim⟩
          have HTr : Hid _ := htrim
          clear htrim c0 c57
          go_wp2_with fail
          refine Calls.mono HTr.out ?_
          rintro e w3 ⟨rfl, d57, df, hkeep, hdone⟩
          have HKp : Hid _ := hkeep
          have HDn : Hid _ := hdone
          clear hkeep hdone d0
          go_wp2
          go_roundw
          case rel => exact .inr ⟨rfl, HKp.out HL.out⟩
          case measure =>
            have e1 := HSO.out
            have e2 := (HCg.out _ (HKp.out HL.out)).2.2
            have e4 : (found segs last).length = segs.length := by unfold found; rw [if_pos HL.out]
            rw [e1, e2]
            simp [oneOf]
            omega
    · obtain ⟨h200, c57, _⟩ := HCg.out wr HG.out
      have HDr' : Hid _ := HDr.out wr HG.out
      go_wp2_with fail
      refine Calls.mono HDr'.out ?_
      rintro e w1 ⟨rfl, hd⟩
      have HD : Hid _ := hd
      clear hd
      go_wp2
      exact bodyPost_end (v := .tuple #[]) (by simp [results, Try.results24]) rfl ⟨rfl, HD.out⟩

end Go.Proofs.Ytpfnkjfbhcffiaa
