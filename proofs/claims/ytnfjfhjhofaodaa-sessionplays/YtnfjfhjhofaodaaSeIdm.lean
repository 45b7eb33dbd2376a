/-
  The ids of a table, rising; a row of ids that was sorted; the document's Put, whole.
-/
import Derived.Test.YtnfjfhjhofaodaaSeRefY
import Derived.Test.YtnfjfhjhofaodaaSeKept
import Derived.Test.YtnfjfhjhofaodaaSeSort
namespace Go.Proofs.Ytnfjfhjhofaodaa
open Go.RowKit Go.Sort

def idsOf (s : Se.St) : List (Int × Int) := s.map fun p => (p.1, p.2.seq)
theorem idsOf_len (s : Se.St) : (idsOf s).length = s.length := by simp [idsOf]
theorem idsOf_rise {s : Se.St} (h : Se.Rise s) : (idsOf s).Pairwise (fun p q => p.1 < q.1) := by
  unfold idsOf
  rw [List.pairwise_map]
  exact h
theorem rise_inj {α : Type} : ∀ {L : List (Int × α)}, L.Pairwise (fun p q => p.1 < q.1) → ∀ {p q : Int × α}, p ∈ L → q ∈ L → p.1 = q.1 → p = q
  | [], _, _, _, hp, _, _ => by cases hp
  | x :: L, h, p, q, hp, hq, e => by
    obtain ⟨h1, h2⟩ := List.pairwise_cons.1 h
    rcases List.mem_cons.1 hp with ep | ep
    · rcases List.mem_cons.1 hq with eq | eq
      · rw [ep, eq]
      · have := h1 q eq
        rw [← ep] at this
        omega
    · rcases List.mem_cons.1 hq with eq | eq
      · have := h1 p ep
        rw [← eq] at this
        omega
      · exact rise_inj h2 ep eq e
theorem get_mem {x : Int} {l : Se.Ls} : ∀ {s : Se.St}, Se.get s x = some l → (x, l) ∈ s
  | [], h => by cases h
  | (k, m) :: s, h => by
    have h' : (if k = x then some m else Se.get s x) = some l := h
    split at h'
    · rename_i e
      injection h' with h'
      rw [e, h']
      exact List.mem_cons_self
    · exact List.mem_cons_of_mem _ (get_mem h')
theorem get_ids {x : Int} {l : Se.Ls} {s : Se.St} (h : Se.get s x = some l) : (x, l.seq) ∈ idsOf s := List.mem_map.2 ⟨(x, l), get_mem h, rfl⟩

/-- Rows by cells are rows as the sort sees them. -/
theorem holdsK_of_row {w : World} {g off c : Nat} {T : List (Int × Int)} (h : RowC w 2 (.slice (some ⟨g, off, none⟩) T.length (c + 1)) T.length (T.flatMap idc)) : HoldsK idc 2 w g off T.toArray := by
  obtain ⟨h1, h2, h3⟩ := h.at
  intro j hj
  rw [size_flatK] at hj
  have hj' : j < T.length * 2 := by simpa using hj
  have hi : j / 2 < T.length := by omega
  have hx := flat_at idc_len T (j / 2) T[j / 2] (List.getElem?_eq_getElem hi) (j % 2) (by omega)
  have hjj : j / 2 * 2 + j % 2 = j := by omega
  rw [hjj] at hx
  have hl : j % 2 < (idc T[j / 2]).length := by rw [idc_len]; omega
  rw [List.getElem?_eq_getElem hl] at hx
  refine ⟨?_, (h2 j (by omega)).2⟩
  rw [h1 j _ hx, get_flatK _ _ _ _ hj]
  have e1 : T.toArray[j / 2]! = T[j / 2] := by rw [getElem!_pos T.toArray (j / 2) (by simpa using hi)]; simp
  rw [e1, getElem!_pos (idc T[j / 2]) (j % 2) hl]
  rfl
theorem holdsK_cells {w : World} {g off : Nat} {d : Array (Int × Int)} (h : HoldsK idc 2 w g off d) : ∀ j x, (d.toList.flatMap idc)[j]? = some x → w.cell? ⟨g, off + j, none⟩ = some x := by
  intro j x hx
  have hj := (List.getElem?_eq_some_iff.1 hx).1
  rw [flat_len idc_len] at hj
  have hj' : j < d.size * 2 := by simpa using hj
  have hi : j / 2 < d.toList.length := by omega
  have hi' : j / 2 < d.size := by simpa using hi
  have hx' := flat_at idc_len d.toList (j / 2) d.toList[j / 2] (List.getElem?_eq_getElem hi) (j % 2) (by omega)
  have hjj : j / 2 * 2 + j % 2 = j := by omega
  rw [hjj, hx] at hx'
  have q := (h j (by rw [size_flatK]; exact hj')).1
  rw [get_flatK _ _ _ _ hj'] at q
  rw [q]
  have hl : j % 2 < (idc d.toList[j / 2]).length := by rw [idc_len]; omega
  rw [List.getElem?_eq_getElem hl] at hx'
  injection hx' with hx'
  rw [hx']
  have e1 : d[j / 2]! = d.toList[j / 2] := by rw [getElem!_pos d (j / 2) hi']; simp
  show some (id _) = _
  rw [e1, getElem!_pos (idc d.toList[j / 2]) (j % 2) hl]
  rfl
theorem holdsK_sorted {w : World} {g off n : Nat} {d d' : Array (Int × Int)} {os : Array Obj} (h : HoldsK idc 2 w g off d) (hg : g < w.heap.size) (hs : d'.size = d.size) : HoldsK idc 2 (sortWorldK idc 2 w g off n d' os) g off d' := by
  unfold sortWorldK putRowK
  refine holds_grow id _ os g off _ ?_ (holds_putRow id (Sort.ahead w n) g off (flatK idc 2 d) (flatK idc 2 d') h (by rw [size_flatK, size_flatK, hs]))
  simpa [putRow, mapBlock, Sort.ahead] using hg

/-- What was sorted is the one rising list. -/
theorem sorted_ids {T : List (Int × Int)} {L : List (Int × Int)} {d' : Array (Int × Int)} (hL : L.Pairwise (fun p q => p.1 < q.1)) (hn : T.Nodup) (hm : ∀ p, p ∈ T ↔ p ∈ L) (hp : PermIn 0 T.toArray.size T.toArray d') (hs : SortedIn (ltOf fun x y : Int × Int => Lib.compareInt x.1 y.1) 0 T.toArray.size d') : d'.toList = L := by
  obtain ⟨h1, _, h3⟩ := hp
  have e1 : (d'.extract 0 T.toArray.size).toList = d'.toList := by rw [← h1]; simp
  have e2 : (T.toArray.extract 0 T.toArray.size).toList = T := by simp
  rw [e1, e2] at h3
  refine eq_of_mem_rise ?_ hL (fun p => by rw [h3.mem_iff]; exact hm p)
  rw [List.pairwise_iff_getElem]
  intro i j hi hj hij
  have hi' : i < d'.size := by simpa using hi
  have hj' : j < d'.size := by simpa using hj
  have := hs i j (by omega) hij (by rw [← h1]; exact hj')
  rw [ltSes, getElem!_pos d' j hj', getElem!_pos d' i hi'] at this
  have hle : ¬ (d'[j].1 < d'[i].1) := by simpa using this
  have hmi : d'.toList[i] ∈ L := (hm _).1 (h3.mem_iff.1 (List.getElem_mem _))
  have hmj : d'.toList[j] ∈ L := (hm _).1 (h3.mem_iff.1 (List.getElem_mem _))
  have hne : d'.toList[i].1 ≠ d'.toList[j].1 := fun e => by
    have e3 := rise_inj hL hmi hmj e
    have hnd : d'.toList.Nodup := h3.nodup_iff.2 hn
    exact List.pairwise_iff_getElem.1 hnd i j hi hj hij e3
  have q1 : d'.toList[i] = d'[i] := by simp
  have q2 : d'.toList[j] = d'[j] := by simp
  rw [q1, q2] at hne ⊢
  omega

/-- The document's Put. -/
theorem rPut_c {w : World} {t : List Row} {v : Value} (h : RT w v t) (a b : Int) (r : Mo.Re) {pv : Value} (hp : PoR w pv r.posts) : Calls Try.prog 14 #[v, .agg #[.int .i64 a, .int .i64 b], .agg #[.int .i64 r.err, .int .i64 r.at_, pv]] w (RPo w t a b r) := by
  cases hm : Se.may a b with
  | false => exact rPut_bad h a b r hp hm
  | true =>
    by_cases hl : 64 < r.posts.length
    · exact rPut_long h a b r hp hm hl
    · have hl : r.posts.length ≤ 64 := by omega
      rcases bare_get (x := a) (t := t) with ⟨h1, h2⟩ | ⟨i, l, v0, h1, h2, h3⟩
      · by_cases hc : 64 ≤ t.length
        · exact rPut_full h a b r hp hm hl h1 h2 hc
        · exact rPut_yes h a b r hp hm hl (.inl ⟨h1, h2, by omega⟩)
      · by_cases hc : b ≤ l.seq
        · exact rPut_old h a b r hp hm hl h1 h2 hc
        · exact rPut_yes h a b r hp hm hl (.inr ⟨i, l, v0, h1, h2, by omega⟩)

end Go.Proofs.Ytnfjfhjhofaodaa
