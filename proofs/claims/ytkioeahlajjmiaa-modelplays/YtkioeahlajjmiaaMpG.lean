import Derived.Test.YtkioeahlajjmiaaMpF
import Derived.Test.YtkioeahlajjmiaaMpC
import Derived.Test.YtkioeahlajjmiaaMoMv
import Derived.Test.YtkioeahlajjmiaaMoEnds2
import Derived.Test.YtkioeahlajjmiaaMpCp2
import Derived.Test.YtkioeahlajjmiaaMoDo6

/-
  The law's told: a model tells what the document's does.
-/
namespace Go.Proofs.Ytkioeahlajjmiaa
open Go.RowKit

/-- The names of a workspace's channels. -/
def wantN (sp : ByteArray) (t : List Rw) : List ByteArray := (t.filter (fun r => decide (r.cn.space = sp))).map (·.cn.name)
theorem wantN_take {sp : ByteArray} {t : List Rw} {k : Nat} {r : Rw} (h : t[k]? = some r) : wantN sp (t.take (k + 1)) = wantN sp (t.take k) ++ (if r.cn.space = sp then [r.cn.name] else []) := by
  unfold wantN
  rw [filt_take _ h]
  by_cases e : r.cn.space = sp
  · simp [e]
  · simp [e]
theorem wantN_le (sp : ByteArray) (t : List Rw) (k : Nat) : (wantN sp (t.take k)).length ≤ t.length := by
  unfold wantN
  rw [List.length_map]
  exact filt_le _ _ _
/-- The workspaces that are asked. -/
def spcL (t : List Rw) (i : Nat) : List ByteArray := [⟨#[119]⟩, ⟨#[118]⟩, ⟨#[110, 111, 110, 101]⟩] ++ (t.take i).map (·.cn.space)
theorem spcL_succ {t : List Rw} {i : Nat} {r : Rw} (h : t[i]? = some r) : spcL t (i + 1) = spcL t i ++ [r.cn.space] := by
  unfold spcL
  rw [List.take_add_one, h, List.map_append, ← List.append_assoc]
  rfl
theorem spcL_len (t : List Rw) : (spcL t t.length).length = 3 + t.length := by
  unfold spcL
  rw [List.take_length]
  simp
  omega
theorem sorted_nodup {l : List ByteArray} (h : Mp.Sorted id Mp.ltB l) : l.Nodup := h.imp (fun {a b} hab e => by subst e; exact Mp.linB.irr _ hab)
theorem sorted_risen {l : List ByteArray} (h : Mp.Sorted id Mp.ltB l) : risen l = l := by
  refine risen_of ?_
  rw [List.pairwise_map]
  exact h.imp (fun {a b} hab => decide_eq_true (List.le_of_lt hab))
theorem wantN_sorted {t : List Rw} (h : Mp.Sorted Rw.key Mp.ltK t) (sp : ByteArray) : Mp.Sorted id Mp.ltB (wantN sp t) := by
  unfold wantN Mp.Sorted at *
  rw [List.pairwise_map]
  have h2 := h.filter (fun r => decide (r.cn.space = sp))
  refine List.Pairwise.imp_of_mem (fun {a b} ha hb hab => ?_) h2
  have e1 : a.cn.space = sp := of_decide_eq_true (List.mem_filter.1 ha).2
  have e2 : b.cn.space = sp := of_decide_eq_true (List.mem_filter.1 hb).2
  rcases hab with q | q
  · exact absurd q (by
      show ¬ Mp.ltB a.cn.space b.cn.space
      rw [e1, e2]; exact Mp.linB.irr _)
  · exact q.2
theorem wantN_mem {t : List Rw} {sp y : ByteArray} : y ∈ wantN sp t ↔ ∃ r ∈ t, r.key = (sp, y) := by
  unfold wantN
  rw [List.mem_map]
  constructor
  · rintro ⟨r, hr, rfl⟩
    obtain ⟨h1, h2⟩ := List.mem_filter.1 hr
    exact ⟨r, h1, by rw [← of_decide_eq_true h2]; rfl⟩
  · rintro ⟨r, hr, hk⟩
    injection hk with h1 h2
    exact ⟨r, List.mem_filter.2 ⟨hr, decide_eq_true h1⟩, h2⟩

section
variable {w : World} {B : Nat} {s : Mo.St} {who : Nat → Nat} {n bc bo : Nat} {f : ByteArray → ByteArray → Option Nat} {cs : Nat → Mo.Ch} {L : Nat → Prop} {pl po : Option Addr} {cl co : Nat} {t : List Rw} {off : List ByteArray} {q : Mp.Dm}
theorem members_told (h : MdV w B s who n bc bo f cs) (hn : n < 1099511627776) (hq : t.map (·.cn) = q.list) (hR : Mp.Rel s q) (hl : Lb q) {r : Rw} (hr : r ∈ t) :
    Calls Try.prog 12 #[.pointer (some ⟨B, 0, none⟩), .string r.cn.space, .string r.cn.name] w fun e w' => ∃ p m c, e = .returned (.tuple #[.slice p m c, .int .i64 0]) ∧ StrV w' (.slice p m c) r.cn.mems ∧ Below w.heap.size w w' := by
  have hc : r.cn ∈ q.list := by rw [← hq]; exact List.mem_map.2 ⟨r, hr, rfl⟩
  have hlk : Mp.look q r.cn.space r.cn.name = some r.cn := (Mp.look_iff hR.rise).2 ⟨hc, rfl⟩
  have hs : s.ch r.cn.space r.cn.name = some (Mp.toCh r.cn) := by rw [hR.ch, hlk]; rfl
  obtain ⟨k, hf, hk⟩ := h.hasCh hs
  have hlb := hl _ hc
  have hso := hR.mems _ hc
  refine (Members_c h hn (Ok.label hlb.1) (Ok.label hlb.2.1) hf (T := r.cn.mems) (sorted_nodup hso) (fun a => ?_)).mono ?_
  · rw [hk]
    show _ ↔ _ ∧ Mp.isIn a r.cn.mems = true
    rw [Mp.isIn_iff]
    exact ⟨fun ha => ⟨Ok.label (hlb.2.2 a ha), ha⟩, fun ha => ha.2⟩
  · rintro e w' ⟨p, m, c, rfl, h1, _, h3⟩
    rw [sorted_risen hso] at h1
    exact ⟨p, m, c, rfl, h1, h3⟩
theorem len_told (h : MdV w B s who n bc bo f cs) (hq : t.map (·.cn) = q.list) (hR : Mp.Rel s q) (hl : Lb q) {r : Rw} (hr : r ∈ t) :
    Calls Try.prog 17 #[.pointer (some ⟨B, 0, none⟩), .string r.cn.space, .string r.cn.name] w fun e w' => e = .returned (.tuple #[.int .i64 (r.cn.posts.length : Int), .int .i64 0]) ∧ w' = w := by
  have hc : r.cn ∈ q.list := by rw [← hq]; exact List.mem_map.2 ⟨r, hr, rfl⟩
  have hlk : Mp.look q r.cn.space r.cn.name = some r.cn := (Mp.look_iff hR.rise).2 ⟨hc, rfl⟩
  have hs : s.ch r.cn.space r.cn.name = some (Mp.toCh r.cn) := by rw [hR.ch, hlk]; rfl
  obtain ⟨k, hf, hk⟩ := h.hasCh hs
  have hlb := hl _ hc
  have h9 := Len_c h (Ok.label hlb.1) (Ok.label hlb.2.1) hf
  rw [hk] at h9
  exact h9
theorem chans_told (h : MdV w B s who n bc bo f cs) (hn : n < 1099511627776) (hq : t.map (·.cn) = q.list) (hR : Mp.Rel s q) (sp : ByteArray) :
    Calls Try.prog 13 #[.pointer (some ⟨B, 0, none⟩), .string sp] w fun e w' => ∃ p m c, e = .returned (.slice p m c) ∧ StrV w' (.slice p m c) (wantN sp t) ∧ Below w.heap.size w w' := by
  have hst := sorted_cn hq hR.rise
  have hws := wantN_sorted hst sp
  refine (Channels_c h hn sp).mono ?_
  rintro e w' ⟨p, m, c, T, rfl, hnd, hT, h1, _, h3⟩
  have hr : risen T = wantN sp t := by
    rw [← sorted_risen hws]
    refine risen_same hnd (sorted_nodup hws) (fun a => ?_)
    rw [hT, wantN_mem]
    constructor
    · rintro ⟨k, hk⟩
      have hs : s.ch sp a = some (cs k) := by rw [h.ch, hk]; rfl
      rw [hR.ch] at hs
      cases hlk : Mp.look q sp a with
      | none => rw [hlk] at hs; cases hs
      | some c' =>
        obtain ⟨h1, h2⟩ := (Mp.look_iff hR.rise).1 hlk
        rw [← hq] at h1
        obtain ⟨r, hr, rfl⟩ := List.mem_map.1 h1
        exact ⟨r, hr, h2⟩
    · rintro ⟨r, hr, hk⟩
      have hlk := look_some hq hst hr hk
      have hs : s.ch sp a = some (Mp.toCh r.cn) := by rw [hR.ch, hlk]; rfl
      obtain ⟨k, hf, _⟩ := h.hasCh hs
      exact ⟨k, hf⟩
  rw [hr] at h1
  exact ⟨p, m, c, rfl, h1, h3⟩
theorem none_told (h : MdV w B s who n bc bo f cs) (hR : Mp.Rel s q) (hl : Lb q) (y : ByteArray) : f ⟨#[110, 111, 110, 101, 32, 111, 102]⟩ y = none := by
  refine h.noCh ?_
  rw [hR.ch]
  cases hlk : Mp.look q ⟨#[110, 111, 110, 101, 32, 111, 102]⟩ y with
  | none => rfl
  | some c =>
    exfalso
    obtain ⟨h1, h2⟩ := (Mp.look_iff hR.rise).1 hlk
    injection h2 with h2 _
    have := (hl c h1).1
    rw [h2, no_blank] at this
    cases this

set_option maxHeartbeats 12800000 in
set_option maxRecDepth 20000 in
theorem told_c (h : MdV w B s who n bc bo f cs) (hn : n < 1099511627776) (hd : DvT L w pl cl po co t off) (hq : t.map (·.cn) = q.list) (hR : Mp.Rel s q) (hl : Lb q) (hz : t.length ≤ 1000000) :
    Calls Try.prog 23 #[.pointer (some ⟨B, 0, none⟩), .agg #[.slice pl t.length cl, .slice po off.length co]] w fun e w' => e = .returned (.bool true) ∧ Below w.heap.size w w' := by
  obtain ⟨m, hm⟩ : ∃ m, m = t.length := ⟨_, rfl⟩
  obtain ⟨u, hu⟩ : ∃ u, u = w.alloc (.cells #[.slice pl m cl, .slice po off.length co] 54) := ⟨_, rfl⟩
  obtain ⟨bn, hbn⟩ : ∃ bn, bn = w.heap.size := ⟨_, rfl⟩
  have HU : Hid (Below w.heap.size w u) := by rw [hu]; exact below_alloc _ _
  have HBq : Hid (Bq bn (.slice pl m cl) (.slice po off.length co) u) := by rw [hu, hbn]; exact Bq.start _ _ _ _
  have HBn : Hid (∀ X, Below u.heap.size u X → Bq bn (.slice pl m cl) (.slice po off.length co) X) := fun X hX => HBq.out.below hX
  have HM : Hid (m = t.length ∧ m ≤ 1000000) := ⟨hm, by omega⟩
  have HEl : Hid (∀ X, Below u.heap.size u X → ∀ i, i < m → ∃ r g off', t[i]? = some r ∧ pl = some ⟨g, off', none⟩ ∧ X.cell? ⟨g, off' + i * 4, none⟩ = some (.string r.cn.space) ∧ X.cell? ⟨g, off' + i * 4 + 1, none⟩ = some (.string r.cn.name) ∧ X.cell? ⟨g, off' + i * 4 + 2, none⟩ = some (.slice r.pm r.cn.mems.length r.cm) ∧ X.cell? ⟨g, off' + i * 4 + 3, none⟩ = some (.slice r.pp r.cn.posts.length r.cp)) := fun X hX i hi => by
    have hi' : i < t.length := by omega
    have hx : t[i]? = some t[i] := List.getElem?_eq_getElem hi'
    obtain ⟨g, off', h1, k0, k1, k2, k3⟩ := (hd.ls.below (HU.out.trans (hX.mono HU.out.size))).at hx
    exact ⟨_, g, off', hx, h1, k0, k1, k2, k3⟩
  have HMem : Hid (∀ X, Below u.heap.size u X → ∀ r, r ∈ t → Calls Try.prog 12 #[.pointer (some ⟨B, 0, none⟩), .string r.cn.space, .string r.cn.name] X fun e w' => ∃ p m c, e = .returned (.tuple #[.slice p m c, .int .i64 0]) ∧ StrV w' (.slice p m c) r.cn.mems ∧ Below X.heap.size X w') := fun X hX r hr => members_told (h.below (HU.out.trans (hX.mono HU.out.size))) hn hq hR hl hr
  have HLen : Hid (∀ X, Below u.heap.size u X → ∀ r, r ∈ t → Calls Try.prog 17 #[.pointer (some ⟨B, 0, none⟩), .string r.cn.space, .string r.cn.name] X fun e w' => e = .returned (.tuple #[.int .i64 (r.cn.posts.length : Int), .int .i64 0]) ∧ w' = X) := fun X hX r hr => len_told (h.below (HU.out.trans (hX.mono HU.out.size))) hq hR hl hr
  have HChs : Hid (∀ X, Below u.heap.size u X → ∀ sp, Calls Try.prog 13 #[.pointer (some ⟨B, 0, none⟩), .string sp] X fun e w' => ∃ p m c, e = .returned (.slice p m c) ∧ StrV w' (.slice p m c) (wantN sp t) ∧ Below X.heap.size X w') := fun X hX sp => chans_told (h.below (HU.out.trans (hX.mono HU.out.size))) hn hq hR sp
  have HN1 : Hid (∀ X, Below u.heap.size u X → Calls Try.prog 12 #[.pointer (some ⟨B, 0, none⟩), .string ⟨#[110, 111, 110, 101, 32, 111, 102]⟩, .string ⟨#[116, 104, 101, 115, 101]⟩] X fun e w' => e = .returned (.tuple #[.slice none 0 0, .int .i64 3]) ∧ w' = X) := fun X hX => Members_none (h.below (HU.out.trans (hX.mono HU.out.size))) (by unfold Ok maxLen; decide) (by unfold Ok maxLen; decide) (none_told h hR hl _)
  have HN2 : Hid (∀ X, Below u.heap.size u X → Calls Try.prog 17 #[.pointer (some ⟨B, 0, none⟩), .string ⟨#[110, 111, 110, 101, 32, 111, 102]⟩, .string ⟨#[116, 104, 101, 115, 101]⟩] X fun e w' => e = .returned (.tuple #[.int .i64 0, .int .i64 3]) ∧ w' = X) := fun X hX => Len_none (h.below (HU.out.trans (hX.mono HU.out.size))) (by unfold Ok maxLen; decide) (by unfold Ok maxLen; decide) (none_told h hR hl _)
  have HSt : Hid (∀ X, Below u.heap.size u X → ∀ r, r ∈ t → StrV X (.slice r.pm r.cn.mems.length r.cm) r.cn.mems) := fun X hX r hr => ((hd.rows r hr).1.below (HU.out.trans (hX.mono HU.out.size))).strv
  have hm6 : m ≤ 1000000 := HM.out.2
  rw [← hm]
  clear h hn hd hq hR hl hz hm
  go_enter Try.func23, Try.ntmps23
  go_upto_region 2 with fail
  rw [← hu]
  obtain ⟨u1, hu1⟩ : ∃ u1, u1 = u.alloc (.cells #[.string ⟨#[119]⟩, .string ⟨#[118]⟩, .string ⟨#[110, 111, 110, 101]⟩] 9) := ⟨_, rfl⟩
  have hus : u.heap.size = bn + 1 := by rw [hu, hbn]; simp
  have HMk1 : Hid (Mk u u1 1 (.slice (some ⟨bn + 1, 0, none⟩) 3 3) 3 (tx (spcL t 0))) := by
    have hc : ∀ j, u1.cell? ⟨bn + 1, j, none⟩ = (#[.string ⟨#[119]⟩, .string ⟨#[118]⟩, .string ⟨#[110, 111, 110, 101]⟩] : Array Value)[j]? := fun j => by rw [hu1, ← hus]; exact World.cell?_alloc_mark u _ _ _ j
    refine ⟨by rw [hu1]; exact below_alloc _ _, ⟨rfl, _, _, rfl, Nat.le_refl _, by unfold maxLen; omega, .inr ⟨bn + 1, 0, rfl, fun j hj => ?_, fun j x hx => ?_⟩⟩, fun j hj => by simp [cBlk] at hj; omega⟩
    · refine ⟨?_, by rw [hu1, ← hus, World.frozen?_alloc_mark]; simp⟩
      rw [Nat.zero_add, hc]
      have : j < 3 := by omega
      rw [Array.getElem?_eq_getElem (by simpa using this)]
      rfl
    · rw [Nat.zero_add, hc]
      simpa [tx, spcL] using hx
  rw [← hu1, ← hbn]
  clear hu hu1 hbn hus
  go_wp2
  go_loopw [5, 6] (fun sv iv wr => ∃ (i n' c' : Nat) (q' : Option Addr), iv = .int .i64 (i : Int) ∧ i ≤ m ∧ sv = .slice q' n' c' ∧ Hid (n' = 3 + i ∧ Mk u wr 1 (.slice q' n' c') n' (tx (spcL t i)))) (fun _ iv _ => m - (intOf iv).toNat)
  case atStart => exact ⟨0, 3, 3, _, rfl, Nat.zero_le _, rfl, rfl, HMk1.out⟩
  case round =>
    clear HMk1
    obtain ⟨i, n', c', q', rfl, him, rfl, HS⟩ := hrel
    have n0 := (HBn.out wr HS.out.2.1).c0
    by_cases hlt : i < m
    · have hi0 : (0 : Int) ≤ (i : Int) := by omega
      have hi1 : (i : Int) < (m : Int) := by omega
      obtain ⟨r, g, off', hr, hpl, k0, _, _, _⟩ := HEl.out wr HS.out.2.1 i hlt
      rw [hpl] at n0
      have HT : Hid (spcL t (i + 1) = spcL t i ++ [r.cn.space]) := spcL_succ hr
      clear hr hpl
      obtain ⟨r1, r2, r3⟩ := (HS.out.2).app (by decide) (t := 25) (e := 9) Try.underlying25 #[.string r.cn.space] rfl (fun u hu => by simp at hu; rcases hu with rfl <;> rfl)
      have HRowA : Hid (RowC (wr.alloc (.cells #[.string r.cn.space] 9)) 1 (.slice q' n' c') n' (tx (spcL t i))) := r1
      have HSrcA : Hid (Src Try.prog 1 25 (.slice (some ⟨wr.heap.size, 0, none⟩) 1 1) 1 [.string r.cn.space] (wr.alloc (.cells #[.string r.cn.space] 9))) := r2
      have HEndA : Hid (∀ Y L', RowC Y 1 L' (n' + 1) (tx (spcL t i) ++ [.string r.cn.space]) → (wr.alloc (.cells #[.string r.cn.space] 9)).grownBy Y (cBlk (.slice q' n' c')) → (∀ j, cBlk L' = some j → cBlk (.slice q' n' c') = some j ∨ wr.heap.size + 1 ≤ j) → ∃ p' c2, L' = .slice p' (n' + 1) c2 ∧ Hid (Mk u Y 1 (.slice p' (n' + 1) c2) (n' + 1) (tx (spcL t i) ++ [.string r.cn.space])) ∧ Hid (∀ k, k < wr.heap.size → cBlk (.slice q' n' c') ≠ some k → Y.heap[k]? = wr.heap[k]?)) := fun Y L' a1 a2 a3 => r3 Y L' a1 a2 a3
      have hLA : Hid ((n' + 1) * 16 ≤ 140737488355328 ∧ n' + 1 ≤ maxLen) := by have h1 := HS.out.1; have h2 := HM.out; unfold maxLen; exact ⟨by omega, by omega⟩
      clear r1 r2 r3 
      go_wp2_with (at_builtin; refine wpList_append_rowC rfl (.tmp 27) (.tmp 34) 25 25 9 rfl Try.underlying25 _ 1 16 infoStr rfl (.slice q' n' c') n' (tx (spcL t i)) rfl HRowA.out _ 1 _ rfl HSrcA.out hLA.out.1 hLA.out.2 ?qnextA)
      case qnextA =>
        intro L' YA a1 a2 a3
        obtain ⟨pA, cA, rfl, HCA, HKpA⟩ := HEndA.out YA L' a1 a2 a3
        clear a1 a2 a3 HRowA HSrcA HEndA hLA
        have HN : Hid (n' + 1 = 3 + (i + 1) ∧ Mk u YA 1 (.slice pA (n' + 1) cA) (n' + 1) (tx (spcL t (i + 1)))) := by
          refine ⟨by have := HS.out.1; omega, ?_⟩
          rw [HT.out, tx_snoc]
          exact HCA.out
        go_wp2
        go_roundw
        case rel => exact ⟨i + 1, n' + 1, cA, pA, by go_num, by omega, rfl, HN⟩
        case measure => simp [intOf]; omega

    · obtain rfl : m = i := by omega
      have HSp : Hid (Mk u wr 1 (.slice q' n' c') n' (tx (spcL t m))) := HS.out.2
      clear HS hlt him
      obtain ⟨SL, hSL⟩ : ∃ SL, SL = spcL t m := ⟨_, rfl⟩
      rw [← hSL] at HSp
      have HLn : Hid (n' = SL.length ∧ n' ≤ 1000003) := by
        have h1 : (tx SL).length = n' * 1 := HSp.out.2.1.1
        rw [tx_len] at h1
        have h2 : SL.length = 3 + t.length := by rw [hSL, HM.out.1]; exact spcL_len t
        have := HM.out
        exact ⟨by omega, by omega⟩
      have HW : Hid (Below u.heap.size u wr) := HSp.out.1
      have HSc : Hid (∀ X, Below wr.heap.size wr X → ∀ j, j < n' → ∃ sp g o, SL[j]? = some sp ∧ q' = some ⟨g, o, none⟩ ∧ X.cell? ⟨g, o + j, none⟩ = some (.string sp)) := fun X hX j hj => by
        have hj' : j < SL.length := by have := HLn.out; omega
        have hx : SL[j]? = some SL[j] := List.getElem?_eq_getElem hj'
        have hT : Tx wr (.slice q' n' c') SL := by
          have h9 := HSp.out.2.1
          unfold Tx
          rw [← HLn.out.1]
          exact h9
        obtain ⟨g, o, h1, h2⟩ := (hT.below hX).at hx
        exact ⟨_, g, o, hx, h1, h2⟩
      clear hSL
      go_wp2
      clear n0
      obtain ⟨Z, hZ⟩ : ∃ Z, Z = wr := ⟨_, rfl⟩
      rw [← hZ] at HSp HW HSc ⊢
      clear hZ wr
      go_loopw [7] (fun iv wr => ∃ i : Nat, iv = .int .i64 (i : Int) ∧ i ≤ n' ∧ Hid (Below Z.heap.size Z wr)) (fun iv _ => n' - (intOf iv).toNat)
      case atStart => exact ⟨0, rfl, Nat.zero_le _, Below.refl _ _⟩
      case round =>
        obtain ⟨i, rfl, hin, HZ⟩ := hrel
        have hn6 : n' ≤ 1000003 := HLn.out.2
        by_cases hlt : i < n'
        · have hi0 : (0 : Int) ≤ (i : Int) := by omega
          have hi1 : (i : Int) < (n' : Int) := by omega
          obtain ⟨sp, g1, o1, hsp, hq1, -⟩ := HSc.out wr HZ.out i hlt
          have HSp1 : Hid (∀ X, Below wr.heap.size wr X → X.cell? ⟨g1, o1 + i, none⟩ = some (.string sp)) := fun X hX => by
            obtain ⟨sp', g', o', h1, h2, h3⟩ := HSc.out X (HZ.out.trans (hX.mono HZ.out.size)) i hlt
            rw [hsp] at h1
            rw [hq1] at h2
            injection h1 with h1
            injection h2 with h2
            injection h2 with h2 h4
            rw [h1, h2, h4]
            exact h3
          subst hq1
          clear hsp
          have HWr : Hid (Below u.heap.size u wr) := HW.out.trans (HZ.out.mono HW.out.size)
          go_wp2
          obtain ⟨Z2, hZ2⟩ : ∃ Z2, Z2 = wr := ⟨_, rfl⟩
          rw [← hZ2] at HZ HSp1 HWr ⊢
          clear hZ2 wr
          go_loopw [8, 9] (fun lv kv wr => ∃ (k n3 c3 : Nat) (q3 : Option Addr), kv = .int .i64 (k : Int) ∧ k ≤ m ∧ lv = .slice q3 n3 c3 ∧ Hid (n3 = (wantN sp (t.take k)).length ∧ Mk Z2 wr 1 (.slice q3 n3 c3) n3 (tx (wantN sp (t.take k))))) (fun _ kv _ => m - (intOf kv).toNat)
          case atStart => exact ⟨0, 0, 0, none, rfl, Nat.zero_le _, rfl, rfl, Mk.nil _ _ _ (Below.refl _ _)⟩
          case round =>
            obtain ⟨k, n3, c3, q3, rfl, hkm, rfl, HS3⟩ := hrel
            have HX : Hid (Below u.heap.size u wr) := HWr.out.trans (HS3.out.2.1.mono HWr.out.size)
            have n0 := (HBn.out wr HX.out).c0
            by_cases hlt3 : k < m
            · have hk0 : (0 : Int) ≤ (k : Int) := by omega
              have hk1 : (k : Int) < (m : Int) := by omega
              obtain ⟨r, g, off', hr, hpl, k0, k1, k2, k3⟩ := HEl.out wr HX.out k hlt3
              rw [hpl] at n0
              have HT : Hid (wantN sp (t.take (k + 1)) = wantN sp (t.take k) ++ (if r.cn.space = sp then [r.cn.name] else [])) := wantN_take hr
              have HrM : Hid (r ∈ t) := List.mem_of_getElem? hr
              obtain ⟨b10, hb10⟩ : ∃ b10, b10 = wr.heap.size := ⟨_, rfl⟩
              obtain ⟨X1, hX1⟩ : ∃ X1, X1 = wr.alloc (.cells #[.string r.cn.space, .string r.cn.name, .slice r.pm r.cn.mems.length r.cm, .slice r.pp r.cn.posts.length r.cp] 84) := ⟨_, rfl⟩
              have HX1 : Hid (Below wr.heap.size wr X1) := by rw [hX1]; exact below_alloc _ _
              have HC10 : Hid (X1.cell? ⟨b10, 0, none⟩ = some (.string r.cn.space) ∧ X1.cell? ⟨b10, 1, none⟩ = some (.string r.cn.name) ∧ X1.cell? ⟨b10, 2, none⟩ = some (.slice r.pm r.cn.mems.length r.cm) ∧ X1.cell? ⟨b10, 3, none⟩ = some (.slice r.pp r.cn.posts.length r.cp)) := by
                rw [hX1, hb10]
                exact ⟨World.cell?_alloc_mark wr _ _ _ 0, World.cell?_alloc_mark wr _ _ _ 1, World.cell?_alloc_mark wr _ _ _ 2, World.cell?_alloc_mark wr _ _ _ 3⟩
              have HNb : Hid (∀ g', cBlk (.slice q3 n3 c3) = some g' → g' ≠ b10) := fun g' hg' e => by
                have := RowC.lt HS3.out.2.2.1 (by decide) hg'
                omega
              clear hr hpl
              go_upto_region 14 with fail
              rw [← hX1, ← hb10]
              clear hX1 hb10 k0 k1 k2 k3 n0
              have HX1w : Hid (Below Z2.heap.size Z2 X1) := HS3.out.2.1.trans (HX1.out.mono HS3.out.2.1.size)
              have sc := HSp1.out X1 HX1w.out
              obtain ⟨c0, c1, c2, c3'⟩ := HC10.out
              obtain ⟨X2, hX2⟩ : ∃ X2, X2 = X1.drew := ⟨_, rfl⟩
              have HX2 : Hid (Below wr.heap.size wr X2) := by rw [hX2]; exact HX1.out.drew
              have HD10 : Hid (X2.cell? ⟨b10, 0, none⟩ = some (.string r.cn.space) ∧ X2.cell? ⟨b10, 1, none⟩ = some (.string r.cn.name) ∧ X2.cell? ⟨b10, 2, none⟩ = some (.slice r.pm r.cn.mems.length r.cm) ∧ X2.cell? ⟨b10, 3, none⟩ = some (.slice r.pp r.cn.posts.length r.cp)) := by rw [hX2]; exact HC10.out
              have HMk3 : Hid (Mk Z2 X2 1 (.slice q3 n3 c3) n3 (tx (wantN sp (t.take k)))) := HS3.out.2.below (by decide) HX2.out
              by_cases e : r.cn.space = sp
              · have hbe : (r.cn.space.toList == sp.toList) = true := by rw [beqB]; exact decide_eq_true e
                have HT2 : Hid (wantN sp (t.take (k + 1)) = wantN sp (t.take k) ++ [r.cn.name]) := by have h9 := HT.out; rw [if_pos e] at h9; exact h9
                clear e
                go_region
                rw [← hX2]
                clear sc c0 c1 c2 c3' hX2
                obtain ⟨c0, c1, c2, c3'⟩ := HD10.out
                obtain ⟨r1, r2, r3⟩ := (HMk3.out).app (by decide) (t := 25) (e := 9) Try.underlying25 #[.string r.cn.name] rfl (fun u hu => by simp at hu; rcases hu with rfl <;> rfl)
                have HRowC : Hid (RowC (X2.alloc (.cells #[.string r.cn.name] 9)) 1 (.slice q3 n3 c3) n3 (tx (wantN sp (t.take k)))) := r1
                have HSrcC : Hid (Src Try.prog 1 25 (.slice (some ⟨X2.heap.size, 0, none⟩) 1 1) 1 [.string r.cn.name] (X2.alloc (.cells #[.string r.cn.name] 9))) := r2
                have HEndC : Hid (∀ Y L', RowC Y 1 L' (n3 + 1) (tx (wantN sp (t.take k)) ++ [.string r.cn.name]) → (X2.alloc (.cells #[.string r.cn.name] 9)).grownBy Y (cBlk (.slice q3 n3 c3)) → (∀ j, cBlk L' = some j → cBlk (.slice q3 n3 c3) = some j ∨ X2.heap.size + 1 ≤ j) → ∃ p' c2, L' = .slice p' (n3 + 1) c2 ∧ Hid (Mk Z2 Y 1 (.slice p' (n3 + 1) c2) (n3 + 1) (tx (wantN sp (t.take k)) ++ [.string r.cn.name])) ∧ Hid (∀ k, k < X2.heap.size → cBlk (.slice q3 n3 c3) ≠ some k → Y.heap[k]? = X2.heap[k]?)) := fun Y L' a1 a2 a3 => r3 Y L' a1 a2 a3
                have hLC : Hid ((n3 + 1) * 16 ≤ 140737488355328 ∧ n3 + 1 ≤ maxLen) := by have h1 := wantN_le sp t k; have h2 := HS3.out.1; have h3 := HM.out; unfold maxLen; exact ⟨by omega, by omega⟩
                clear r1 r2 r3 
                go_wp2_with (at_builtin; refine wpList_append_rowC rfl (.tmp 61) (.tmp 64) 25 25 9 rfl Try.underlying25 _ 1 16 infoStr rfl (.slice q3 n3 c3) n3 (tx (wantN sp (t.take k))) rfl HRowC.out _ 1 _ rfl HSrcC.out hLC.out.1 hLC.out.2 ?qnextC)
                case qnextC =>
                  intro L' YC a1 a2 a3
                  obtain ⟨pC, cC, rfl, HCC, HKpC⟩ := HEndC.out YC L' a1 a2 a3
                  clear a1 a2 a3 HRowC HSrcC HEndC hLC
                  clear c0 c1 c2 c3'
                  have HE10 : Hid (YC.cell? ⟨b10, 0, none⟩ = some (.string r.cn.space) ∧ YC.cell? ⟨b10, 1, none⟩ = some (.string r.cn.name) ∧ YC.cell? ⟨b10, 2, none⟩ = some (.slice r.pm r.cn.mems.length r.cm) ∧ YC.cell? ⟨b10, 3, none⟩ = some (.slice r.pp r.cn.posts.length r.cp)) := by
                    have hl := World.block_lt_of_cell? _ _ HD10.out.1
                    have hb := HKpC.out b10 hl (fun e => HNb.out b10 e rfl)
                    exact ⟨(World.cell?_of_block (a := ⟨b10, 0, none⟩) hb).trans HD10.out.1, (World.cell?_of_block (a := ⟨b10, 1, none⟩) hb).trans HD10.out.2.1, (World.cell?_of_block (a := ⟨b10, 2, none⟩) hb).trans HD10.out.2.2.1, (World.cell?_of_block (a := ⟨b10, 3, none⟩) hb).trans HD10.out.2.2.2⟩
                  have HYu : Hid (Below u.heap.size u YC) := HWr.out.trans (HCC.out.1.mono HWr.out.size)
                  obtain ⟨c0, c1, c2, c3'⟩ := HE10.out
                  go_wp2_with fail
                  refine (HMem.out YC HYu.out r HrM.out).mono ?_
                  rintro e M1 ⟨pm, mm, cm, rfl, hstv, hbM⟩
                  have HM1 : Hid (Below YC.heap.size YC M1 ∧ StrV M1 (.slice pm mm cm) r.cn.mems) := ⟨hbM, hstv⟩
                  have HMu : Hid (Below u.heap.size u M1) := HYu.out.trans (hbM.mono HYu.out.size)
                  have HF10 : Hid (M1.cell? ⟨b10, 0, none⟩ = some (.string r.cn.space) ∧ M1.cell? ⟨b10, 1, none⟩ = some (.string r.cn.name) ∧ M1.cell? ⟨b10, 2, none⟩ = some (.slice r.pm r.cn.mems.length r.cm) ∧ M1.cell? ⟨b10, 3, none⟩ = some (.slice r.pp r.cn.posts.length r.cp)) := by
                    have hl := World.block_lt_of_cell? _ _ HE10.out.1
                    have hb := hbM.block b10 hl
                    exact ⟨(World.cell?_of_block (a := ⟨b10, 0, none⟩) hb).trans HE10.out.1, (World.cell?_of_block (a := ⟨b10, 1, none⟩) hb).trans HE10.out.2.1, (World.cell?_of_block (a := ⟨b10, 2, none⟩) hb).trans HE10.out.2.2.1, (World.cell?_of_block (a := ⟨b10, 3, none⟩) hb).trans HE10.out.2.2.2⟩
                  clear hstv hbM c0 c1 c2 c3'
                  obtain ⟨c0, c1, c2, c3'⟩ := HF10.out
                  go_wp2_with fail
                  refine (HLen.out M1 HMu.out r HrM.out).mono ?_
                  rintro e M2 ⟨rfl, hM2⟩
                  have hM2 := hM2.symm
                  subst hM2
                  have HSm : Hid _ := sameTexts_c HM1.out.2 (HSt.out M1 HMu.out r HrM.out)
                  go_wp2_with fail
                  refine Calls.mono HSm.out ?_
                  rintro e M3 ⟨rfl, hb3⟩
                  have HN : Hid (n3 + 1 = (wantN sp (t.take (k + 1))).length ∧ Mk Z2 M3 1 (.slice pC (n3 + 1) cC) (n3 + 1) (tx (wantN sp (t.take (k + 1))))) := by
                    refine ⟨by rw [HT2.out, List.length_append, ← HS3.out.1]; rfl, ?_⟩
                    rw [HT2.out, tx_snoc]
                    exact HCC.out.below (by decide) (HM1.out.1.trans (hb3.mono HM1.out.1.size))
                  clear hb3 c0 c1 c2 c3' HSm

                  go_wp2
                  go_roundw
                  case rel => exact ⟨k + 1, _, _, _, by go_num, by omega, rfl, HN⟩
                  case measure => simp [intOf]; omega

              · have hbe : (r.cn.space.toList == sp.toList) = false := by rw [beqB]; exact decide_eq_false e
                have HN : Hid (n3 = (wantN sp (t.take (k + 1))).length ∧ Mk Z2 X2 1 (.slice q3 n3 c3) n3 (tx (wantN sp (t.take (k + 1))))) := by
                  have h9 := HT.out
                  rw [if_neg e, List.append_nil] at h9
                  rw [h9]
                  exact ⟨HS3.out.1, HMk3.out⟩
                clear e
                go_region
                rw [← hX2]
                clear sc c0 c1 c2 c3' hX2
                go_wp2
                go_roundw
                case rel => exact ⟨k + 1, _, _, _, by go_num, by omega, rfl, HN⟩
                case measure => simp [intOf]; omega

            · obtain rfl : m = k := by omega
              have HWt : Hid (StrV wr (.slice q3 n3 c3) (wantN sp t)) := by
                have h9 := HS3.out.2.2.1
                have h8 := HS3.out.1
                rw [HM.out.1, List.take_length] at h9 h8
                have hT : Tx wr (.slice q3 n3 c3) (wantN sp t) := by unfold Tx; rw [← h8]; exact h9
                exact hT.strv
              have HZw : Hid (Below Z2.heap.size Z2 wr) := HS3.out.2.1
              have sc := HSp1.out wr HZw.out
              clear HS3 hlt3
              go_wp2_with fail
              refine (HChs.out wr HX.out sp).mono ?_
              rintro e M1 ⟨pm, mm, cm, rfl, hstv, hbM⟩
              have HSm : Hid _ := sameTexts_c hstv (HWt.out.below hbM)
              have HM1 : Hid (Below Z.heap.size Z M1) := (HZ.out.trans (HZw.out.mono HZ.out.size)).trans (hbM.mono (HZ.out.trans (HZw.out.mono HZ.out.size)).size)
              clear hstv hbM sc n0
              go_wp2_with fail
              refine Calls.mono HSm.out ?_
              rintro e M2 ⟨rfl, hb2⟩
              have HN : Hid (Below Z.heap.size Z M2) := HM1.out.trans (hb2.mono HM1.out.size)
              clear hb2 HSm
              go_wp2
              go_roundw
              case rel => exact ⟨i + 1, by go_num, by omega, HN⟩
              case measure => simp [intOf]; omega
        · obtain rfl : n' = i := by omega
          have HXu : Hid (Below u.heap.size u wr) := HW.out.trans (HZ.out.mono HW.out.size)
          go_wp2_with fail
          refine (HN1.out wr HXu.out).mono ?_
          rintro e M1 ⟨rfl, hM1⟩
          have hM1 := hM1.symm
          subst hM1
          go_wp2_with fail
          refine (HN2.out wr HXu.out).mono ?_
          rintro e M2 ⟨rfl, hM2⟩
          have hM2 := hM2.symm
          subst hM2
          have HE : Hid (Below w.heap.size w wr) := HU.out.trans (HXu.out.mono HU.out.size)
          go_wp2
          go_ret
          exact ⟨rfl, HE.out⟩
end
end Go.Proofs.Ytkioeahlajjmiaa

/-
  The law's state: a model, the document's two, and a copy.
-/
namespace Go.Proofs.Ytkioeahlajjmiaa
open Go.RowKit

theorem Do_any {X : World} {B : Nat} {s : Mo.St} {who : Nat → Nat} {n : Nat} (h : Md X B s who n) (hn : n < 1099511627776) (o : Mo.Op) (ho : OpOk o) : Calls Try.prog 10 #[.pointer (some ⟨B, 0, none⟩), opV o] X (DoOut who X B s n o) := by
  obtain ⟨bc, bo, f, cs, hV⟩ := h
  unfold opV
  cases hm : Mo.may o with
  | false => exact Do_bad hV o ho hm
  | true =>
    rcases may_kind hm with q | q | q | q | q | q | q
    · exact Do_1 hV hn o ho hm q
    · exact Do_2 hV hn o ho hm q
    · exact Do_3 hV o ho hm q
    · exact Do_4 hV o ho hm q
    · exact Do_5 hV hn o ho hm q
    · exact Do_6 hV o ho hm q
    · exact Do_7 hV hn o ho hm q

theorem Dv.below {L : Nat → Prop} {w w' : World} {v : Value} {q : Mp.Dm} (h : Dv L w v q) (hb : Below w.heap.size w w') : Dv L w' v q := by
  obtain ⟨pl, cl, po, co, t, hv, ht, hd⟩ := h
  exact ⟨pl, cl, po, co, t, hv, ht, hd.below hb⟩
/-- It stays where its blocks stay, and may be told of others. -/
theorem Dv.move {L L' : Nat → Prop} {w w' : World} {v : Value} {q : Mp.Dm} (h : Dv L w v q) (hk : ∀ g, L g → g < w.heap.size → w'.heap[g]? = w.heap[g]?) (hl : ∀ g, L g → g < w.heap.size → L' g) : Dv L' w' v q := by
  obtain ⟨pl, cl, po, co, t, hv, ht, hd⟩ := h
  have h1 : DvT (fun g => L' g ∧ L g) w pl cl po co t q.off := hd.weak (fun g hg hs => ⟨hl g hg hs, hg⟩)
  exact ⟨pl, cl, po, co, t, hv, ht, (h1.carry (fun g hg hs => hk g hg.2 hs)).weak (fun g hg _ => hg.1)⟩
def Sf (who : Nat → Nat) (b4 b6 g : Nat) : Prop := who g = 0 ∧ g ≠ b4 ∧ g ≠ b6
/-- The copy, if there is one. -/
def Cp9 (S : Nat → Prop) (X : World) (o0 o1 cv : Value) : Prop := cv = .pointer none ∨ ∃ Bc sc whoc nc qo, cv = .pointer (some ⟨Bc, 0, none⟩) ∧ Md X Bc sc whoc nc ∧ nc ≤ 1000 ∧ (∀ k, whoc k ≠ 0 → S k) ∧ Dv S X (.agg #[o0, o1]) qo ∧ Mp.Rel sc qo ∧ Lb qo ∧ Sz 1000 qo
theorem Cp9.move {S S' : Nat → Prop} {X Y : World} {o0 o1 cv : Value} (h : Cp9 S X o0 o1 cv) (hs : X.heap.size ≤ Y.heap.size) (hk : ∀ g, S g → g < X.heap.size → Y.heap[g]? = X.heap[g]?) (hl : ∀ g, S g → g < X.heap.size → S' g) : Cp9 S' Y o0 o1 cv := by
  rcases h with h | ⟨Bc, sc, whoc, nc, qo, h1, h2, h3, h4, h5, h6, h7, h8⟩
  · exact .inl h
  · exact .inr ⟨Bc, sc, whoc, nc, qo, h1, h2.carry hs (fun i hi => hk i (h4 i hi) (h2.here i hi)), h3, fun k hk' => hl k (h4 k hk') (h2.here k hk'), h5.move hk hl, h6, h7, h8⟩
/-- The model, the boxes of the document's, the copy. -/
structure Core (w X : World) (B : Nat) (s : Mo.St) (who : Nat → Nat) (n b4 b6 : Nat) (l0 l1 o0 o1 cv : Value) : Prop where
  md : Md X B s who n
  old : Below w.heap.size w X
  low : ∀ k, who k ≠ 0 → w.heap.size ≤ k
  q4 : Bq b4 l0 l1 X
  q6 : Bq b6 o0 o1 X
  ne : b4 ≠ b6
  w4 : who b4 = 0
  w6 : who b6 = 0
  h4 : w.heap.size ≤ b4
  h6 : w.heap.size ≤ b6
  cp : Cp9 (Sf who b4 b6) X o0 o1 cv
section
variable {w X Y : World} {B : Nat} {s s' : Mo.St} {who who' : Nat → Nat} {n n' b4 b6 : Nat} {l0 l1 o0 o1 cv : Value}
theorem Core.new (h : Core w X B s who n b4 b6 l0 l1 o0 o1 cv) (g : Nat) (hg : X.heap.size ≤ g) : Sf who b4 b6 g := by
  refine ⟨?_, ?_, ?_⟩
  · by_cases e : who g = 0
    · exact e
    · have := h.md.here g e; omega
  · have := h.q4.lt; omega
  · have := h.q6.lt; omega
theorem Core.below (h : Core w X B s who n b4 b6 l0 l1 o0 o1 cv) (hb : Below X.heap.size X Y) : Core w Y B s who n b4 b6 l0 l1 o0 o1 cv :=
  ⟨h.md.below hb, h.old.trans (hb.mono h.old.size), h.low, h.q4.below hb, h.q6.below hb, h.ne, h.w4, h.w6, h.h4, h.h6, h.cp.move hb.size (fun g _ hg => hb.block g hg) (fun _ hg _ => hg)⟩
theorem Core.aft (h : Core w X B s who n b4 b6 l0 l1 o0 o1 cv) (ha : AftM who X Y B s' n' who') : Core w Y B s' who' n' b4 b6 l0 l1 o0 o1 cv := by
  have hk : ∀ g, who g = 0 → g < X.heap.size → Y.heap[g]? = X.heap[g]? := fun g hg hs => ha.2.2.block g hs hg
  have hold := h.old
  refine ⟨ha.1, ⟨ha.2.2.os.trans hold.os, ha.2.2.tape.trans hold.tape, ha.2.2.output.trans hold.output, Nat.le_trans hold.size ha.2.2.size, fun k hk' => ?_⟩, fun k hk' => ?_, h.q4.keep (hk b4 h.w4 h.q4.lt), h.q6.keep (hk b6 h.w6 h.q6.lt), h.ne, ha.2.1 b4 h.q4.lt h.w4, ha.2.1 b6 h.q6.lt h.w6, h.h4, h.h6, ?_⟩
  · have h0 : who k = 0 := by
      by_cases e : who k = 0
      · exact e
      · have := h.low k e; omega
    rw [hk k h0 (Nat.lt_of_lt_of_le hk' hold.size)]
    exact hold.block k hk'
  · by_cases e : k < X.heap.size
    · by_cases e2 : who k = 0
      · exact absurd (ha.2.1 k e e2) hk'
      · exact h.low k e2
    · have := hold.size; omega
  · exact h.cp.move ha.2.2.size (fun g hg hs => hk g hg.1 hs) (fun g hg hs => ⟨ha.2.1 g hs hg.1, hg.2⟩)
theorem Dv.aft {v : Value} {q : Mp.Dm} (h : Dv (Sf who b4 b6) X v q) (ha : AftM who X Y B s' n' who') : Dv (Sf who' b4 b6) Y v q :=
  h.move (fun g hg hs => ha.2.2.block g hs hg.1) (fun g hg hs => ⟨ha.2.1 g hs hg.1, hg.2⟩)
theorem other_heap {X : World} {b g : Nat} (x y : Value) (h : g ≠ b) : ((X.setCell ⟨b, 0, none⟩ x).setCell ⟨b, 1, none⟩ y).heap[g]? = X.heap[g]? := by
  rw [Below.heap_setCell _ _ _ _ h, Below.heap_setCell _ _ _ _ h]
/-- The first box is another one. -/
theorem Core.set4 (h : Core w X B s who n b4 b6 l0 l1 o0 o1 cv) (x y : Value) : Core w ((X.setCell ⟨b4, 0, none⟩ x).setCell ⟨b4, 1, none⟩ y) B s who n b4 b6 x y o0 o1 cv := by
  have hs : ((X.setCell ⟨b4, 0, none⟩ x).setCell ⟨b4, 1, none⟩ y).heap.size = X.heap.size := by rw [size_set9, size_set9]
  exact ⟨h.md.carry (by rw [hs]; exact Nat.le_refl _) (fun i hi => other_heap x y (fun e => hi (by rw [e]; exact h.w4))), (h.old.setCell (p := ⟨b4, 0, none⟩) h.h4 _).setCell (p := ⟨b4, 1, none⟩) h.h4 _, h.low, (h.q4.set0 x).set1 y, h.q6.keep (other_heap x y h.ne.symm), h.ne, h.w4, h.w6, h.h4, h.h6, h.cp.move (by rw [hs]; exact Nat.le_refl _) (fun _ hg _ => other_heap x y hg.2.1) (fun _ hg _ => hg)⟩
theorem Dv.set4 {v : Value} {q : Mp.Dm} (h : Dv (Sf who b4 b6) X v q) (x y : Value) : Dv (Sf who b4 b6) ((X.setCell ⟨b4, 0, none⟩ x).setCell ⟨b4, 1, none⟩ y) v q := h.move (fun _ hg _ => other_heap x y hg.2.1) (fun _ hg _ => hg)
/-- The second box is another one, with another copy. -/
theorem Core.set6 (h : Core w X B s who n b4 b6 l0 l1 o0 o1 cv) (x y cv' : Value) (hc : Cp9 (Sf who b4 b6) X x y cv') : Core w ((X.setCell ⟨b6, 0, none⟩ x).setCell ⟨b6, 1, none⟩ y) B s who n b4 b6 l0 l1 x y cv' := by
  have hs : ((X.setCell ⟨b6, 0, none⟩ x).setCell ⟨b6, 1, none⟩ y).heap.size = X.heap.size := by rw [size_set9, size_set9]
  exact ⟨h.md.carry (by rw [hs]; exact Nat.le_refl _) (fun i hi => other_heap x y (fun e => hi (by rw [e]; exact h.w6))), (h.old.setCell (p := ⟨b6, 0, none⟩) h.h6 _).setCell (p := ⟨b6, 1, none⟩) h.h6 _, h.low, h.q4.keep (other_heap x y h.ne), (h.q6.set0 x).set1 y, h.ne, h.w4, h.w6, h.h4, h.h6, hc.move (by rw [hs]; exact Nat.le_refl _) (fun _ hg _ => other_heap x y hg.2.2) (fun _ hg _ => hg)⟩
theorem Dv.set6 {v : Value} {q : Mp.Dm} (h : Dv (Sf who b4 b6) X v q) (x y : Value) : Dv (Sf who b4 b6) ((X.setCell ⟨b6, 0, none⟩ x).setCell ⟨b6, 1, none⟩ y) v q := h.move (fun _ hg _ => other_heap x y hg.2.2) (fun _ hg _ => hg)
end
/-- All that is so at a round's beginning. -/
def Pst (w X : World) (B b4 b6 i : Nat) (cv : Value) : Prop := ∃ who s q l0 l1 o0 o1, Core w X B s who i b4 b6 l0 l1 o0 o1 cv ∧ Dv (Sf who b4 b6) X (.agg #[l0, l1]) q ∧ Mp.Rel s q ∧ Lb q ∧ Sz i q
theorem Sz.le {i : Nat} {q : Mp.Dm} (h : Sz i q) (hi : i ≤ 1000000) {t : List Rw} {off : List ByteArray} (ht : t.map (·.cn) = q.list) (hoff : off = q.off) : t.length ≤ 1000000 ∧ off.length ≤ 1000000 ∧ ∀ p ∈ t, p.cn.mems.length ≤ 1000000 := by
  have h1 := h.1
  rw [← ht, List.length_map] at h1
  have h2 := h.2.1
  refine ⟨by omega, by rw [hoff]; omega, fun p hp => ?_⟩
  have h3 := (h.2.2 p.cn (by rw [← ht]; exact List.mem_map.2 ⟨p, hp, rfl⟩)).1
  omega

end Go.Proofs.Ytkioeahlajjmiaa
