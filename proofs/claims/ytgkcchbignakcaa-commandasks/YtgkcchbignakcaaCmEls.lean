/-
  Lists of entries and of posts, wherever they lie: messages and replies, put.
-/
import Derived.Test.YtgkcchbignakcaaCmMSets
import Derived.Test.YtgkcchbignakcaaCmListW
import Derived.Test.YtgkcchbignakcaaCmCalls
namespace Go.Proofs.Ytgkcchbignakcaa
open Go.RowKit

/-- A list that lies somewhere. -/
def EntsIn (w : World) (p : Option Addr) (l : List (Int × ByteArray)) : Prop :=
  l = [] ∨ ∃ g o, p = some ⟨g, o, none⟩ ∧ g < w.heap.size ∧ ∀ (i : Nat) (e : Int × ByteArray), l[i]? = some e → w.cell? ⟨g, o + i * 2, none⟩ = some (.int .i64 e.1) ∧ w.cell? ⟨g, o + i * 2 + 1, none⟩ = some (.string e.2)

theorem EntsIn.below {w w' : World} {p : Option Addr} {l : List (Int × ByteArray)} (h : EntsIn w p l) (hb : Below w.heap.size w w') : EntsIn w' p l := by
  rcases h with h | ⟨g, o, h1, h2, h3⟩
  · exact .inl h
  · refine .inr ⟨g, o, h1, Nat.lt_of_lt_of_le h2 hb.size, fun i e he => ?_⟩
    rw [hb.cell (p := ⟨g, o + i * 2, none⟩) h2, hb.cell (p := ⟨g, o + i * 2 + 1, none⟩) h2]
    exact h3 i e he

theorem EntsAt.toIn {N : Nat} {w : World} {p : Option Addr} {l : List (Int × ByteArray)} (h : EntsAt N w p l) : EntsIn w p l := by
  rcases h with h | ⟨nb, h1, h2, h3, h4, h5⟩
  · exact .inl h.1
  · exact .inr ⟨nb, 0, h2, h4, fun i e he => by rw [Nat.zero_add]; exact h5 i e he⟩

def EntsOk (l : List (Int × ByteArray)) : Prop := ∀ e ∈ l, fit e.1 ∧ fits e.2

theorem small_Ents (l : List (Int × ByteArray)) : Cm.small (l.map fun e => [nf e.1, tf e.2]).flatten := small_of (fun p hp => by
  simp only [List.mem_flatten, List.mem_map] at hp
  obtain ⟨q, ⟨e, he, rfl⟩, hq⟩ := hp
  simp [nf, tf] at hq
  rcases hq with rfl | rfl <;> simp)

theorem smallp_Ents (l : List (Int × ByteArray)) : Cm.small (pEnts l) := small_of (fun p hp => by
  unfold pEnts at hp
  rcases List.mem_cons.1 hp with rfl | hp
  · simp
  · simp only [List.mem_flatten, List.mem_map] at hp
    obtain ⟨q, ⟨e, he, rfl⟩, hq⟩ := hp
    simp [nf, tf] at hq
    rcases hq with rfl | rfl <;> simp)

theorem len_Ents : ∀ (l : List (Int × ByteArray)), (l.map fun e => [nf e.1, tf e.2]).flatten.length = 2 * l.length
  | [] => rfl
  | a :: r => by simp only [List.map_cons, List.flatten_cons, List.length_append, List.length_cons, List.length_nil, len_Ents r]; omega

theorem EntsIn.list {w : World} {b o c : Nat} {p : Option Addr} {l : List (Int × ByteArray)} (h : EntsIn w p l) (hk : EntsOk l) (hl : l.length < 9223372036854775808) (hc : w.cell? ⟨b, o, none⟩ = some (.slice p l.length c)) : ListC w 56 16 b o (pEnts l) := by
  rcases h with h | ⟨g, q, hp, hg, h3⟩
  · have h1 := @list_w_ents w b o p l.length c 0 0 hc (fun e => absurd (by rw [h]; rfl) e) hl (l.map fun e => [nf e.1, tf e.2]) (by simp)
    unfold pEnts
    refine h1 (fun _ k q hq => ?_) (small_Ents l)
    rw [h] at hq
    simp at hq
  · have h1 := @list_w_ents w b o p l.length c g q hc (fun _ => hp) hl (l.map fun e => [nf e.1, tf e.2]) (by simp)
    unfold pEnts
    refine h1 (fun _ k x hx => ?_) (small_Ents l)
    rw [List.getElem?_map] at hx
    cases he : l[k]? with
    | none => rw [he] at hx; cases hx
    | some e =>
      rw [he] at hx
      simp only [Option.map_some, Option.some.injEq] at hx
      subst hx
      obtain ⟨c1, c2⟩ := h3 k e he
      obtain ⟨k1, k2⟩ := hk e (List.mem_of_getElem? he)
      have hw : WalkC w (fields g (q + k * 2) .ent) [[nf e.1], [tf e.2]].flatten := walk_w2 ⟨⟨e.1, k1, c1, rfl⟩, ⟨e.2, by unfold fits at k2; omega, c2, rfl⟩, trivial⟩ (small_of (fun p hp => by simp [nf, tf] at hp; rcases hp with rfl | rfl <;> simp)) (by simp [fields])
      exact walk_sub hw (small_of (fun p hp => by simp [nf, tf] at hp; rcases hp with rfl | rfl <;> simp))

/-- A list that lies somewhere. -/
def PostsIn (w : World) (p : Option Addr) (l : List (ByteArray × ByteArray)) : Prop :=
  l = [] ∨ ∃ g o, p = some ⟨g, o, none⟩ ∧ g < w.heap.size ∧ ∀ (i : Nat) (e : ByteArray × ByteArray), l[i]? = some e → w.cell? ⟨g, o + i * 2, none⟩ = some (.string e.1) ∧ w.cell? ⟨g, o + i * 2 + 1, none⟩ = some (.string e.2)

theorem PostsIn.below {w w' : World} {p : Option Addr} {l : List (ByteArray × ByteArray)} (h : PostsIn w p l) (hb : Below w.heap.size w w') : PostsIn w' p l := by
  rcases h with h | ⟨g, o, h1, h2, h3⟩
  · exact .inl h
  · refine .inr ⟨g, o, h1, Nat.lt_of_lt_of_le h2 hb.size, fun i e he => ?_⟩
    rw [hb.cell (p := ⟨g, o + i * 2, none⟩) h2, hb.cell (p := ⟨g, o + i * 2 + 1, none⟩) h2]
    exact h3 i e he

theorem PostsAt.toIn {N : Nat} {w : World} {p : Option Addr} {l : List (ByteArray × ByteArray)} (h : PostsAt N w p l) : PostsIn w p l := by
  rcases h with h | ⟨nb, h1, h2, h3, h4, h5⟩
  · exact .inl h.1
  · exact .inr ⟨nb, 0, h2, h4, fun i e he => by rw [Nat.zero_add]; exact h5 i e he⟩

def PostsOk (l : List (ByteArray × ByteArray)) : Prop := ∀ e ∈ l, fits e.1 ∧ fits e.2

theorem small_Posts (l : List (ByteArray × ByteArray)) : Cm.small (l.map fun e => [tf e.1, tf e.2]).flatten := small_of (fun p hp => by
  simp only [List.mem_flatten, List.mem_map] at hp
  obtain ⟨q, ⟨e, he, rfl⟩, hq⟩ := hp
  simp [tf] at hq
  rcases hq with rfl | rfl <;> simp)

theorem smallp_Posts (l : List (ByteArray × ByteArray)) : Cm.small (pPosts l) := small_of (fun p hp => by
  unfold pPosts at hp
  rcases List.mem_cons.1 hp with rfl | hp
  · simp
  · simp only [List.mem_flatten, List.mem_map] at hp
    obtain ⟨q, ⟨e, he, rfl⟩, hq⟩ := hp
    simp [tf] at hq
    rcases hq with rfl | rfl <;> simp)

theorem len_Posts : ∀ (l : List (ByteArray × ByteArray)), (l.map fun e => [tf e.1, tf e.2]).flatten.length = 2 * l.length
  | [] => rfl
  | a :: r => by simp only [List.map_cons, List.flatten_cons, List.length_append, List.length_cons, List.length_nil, len_Posts r]; omega

theorem PostsIn.list {w : World} {b o c : Nat} {p : Option Addr} {l : List (ByteArray × ByteArray)} (h : PostsIn w p l) (hk : PostsOk l) (hl : l.length < 9223372036854775808) (hc : w.cell? ⟨b, o, none⟩ = some (.slice p l.length c)) : ListC w 57 64 b o (pPosts l) := by
  rcases h with h | ⟨g, q, hp, hg, h3⟩
  · have h1 := @list_w_posts w b o p l.length c 0 0 hc (fun e => absurd (by rw [h]; rfl) e) hl (l.map fun e => [tf e.1, tf e.2]) (by simp)
    unfold pPosts
    refine h1 (fun _ k q hq => ?_) (small_Posts l)
    rw [h] at hq
    simp at hq
  · have h1 := @list_w_posts w b o p l.length c g q hc (fun _ => hp) hl (l.map fun e => [tf e.1, tf e.2]) (by simp)
    unfold pPosts
    refine h1 (fun _ k x hx => ?_) (small_Posts l)
    rw [List.getElem?_map] at hx
    cases he : l[k]? with
    | none => rw [he] at hx; cases hx
    | some e =>
      rw [he] at hx
      simp only [Option.map_some, Option.some.injEq] at hx
      subst hx
      obtain ⟨c1, c2⟩ := h3 k e he
      obtain ⟨k1, k2⟩ := hk e (List.mem_of_getElem? he)
      have hw : WalkC w (fields g (q + k * 2) .post) [[tf e.1], [tf e.2]].flatten := walk_w2 ⟨⟨e.1, by unfold fits at k1; omega, c1, rfl⟩, ⟨e.2, by unfold fits at k2; omega, c2, rfl⟩, trivial⟩ (small_of (fun p hp => by simp [tf] at hp; rcases hp with rfl | rfl <;> simp)) (by simp [fields])
      exact walk_sub hw (small_of (fun p hp => by simp [tf] at hp; rcases hp with rfl | rfl <;> simp))


def MsgD.cellsC (x : MsgD) (c : Nat) : List Value := [.int .i64 x.kind, .int .i64 x.group, .int .i64 x.frm, .int .i64 x.to, .int .i64 x.term, .int .i64 x.index, .int .i64 x.at_, .slice x.p x.ents.length c, .int .i64 x.commit, .bool x.ok, .string x.data]
def RepD.cellsC (x : RepD) (c : Nat) : List Value := [.int .i64 x.err, .int .i64 x.at_, .slice x.p x.posts.length c]
def MsgD.Ok (x : MsgD) : Prop := fit x.kind ∧ fit x.group ∧ fit x.frm ∧ fit x.to ∧ fit x.term ∧ fit x.index ∧ fit x.at_ ∧ fit x.commit ∧ fits x.data ∧ EntsOk x.ents ∧ x.ents.length ≤ 1000
def RepD.Ok (x : RepD) : Prop := fit x.err ∧ fit x.at_ ∧ PostsOk x.posts ∧ x.posts.length ≤ 1000

theorem small_app {a b : List (Cm.K × Cm.V)} (ha : Cm.small a) (hb : Cm.small b) : Cm.small (a ++ b) := fun p hp => by
  rcases List.mem_append.1 hp with h | h
  · exact ha p h
  · exact hb p h
theorem small_nf (v : Int) : Cm.small [nf v] := small_of (fun p hp => by simp [nf] at hp; subst hp; simp)
theorem small_tf (v : ByteArray) : Cm.small [tf v] := small_of (fun p hp => by simp [tf] at hp; subst hp; simp)
theorem small_bf (v : Int) : Cm.small [(Cm.K.n 1, Cm.V.n v)] := small_of (fun p hp => by simp at hp; subst hp; simp)
theorem small_nil : Cm.small [] := fun p hp => by simp at hp
theorem MsgD.small (x : MsgD) : Cm.small x.pss.flatten := by
  unfold MsgD.pss
  simp only [List.flatten_cons, List.flatten_nil]
  exact small_app (small_nf _) (small_app (small_nf _) (small_app (small_nf _) (small_app (small_nf _) (small_app (small_nf _) (small_app (small_nf _) (small_app (small_nf _) (small_app (small_nf _) (small_app (small_bf _) (small_app (smallp_Ents _) (small_app (small_tf _) small_nil))))))))))
theorem RepD.small (x : RepD) : Cm.small x.pss.flatten := by
  unfold RepD.pss
  simp only [List.flatten_cons, List.flatten_nil]
  exact small_app (small_nf _) (small_app (small_nf _) (small_app (smallp_Posts _) small_nil))
theorem MsgD.len (x : MsgD) : x.pss.flatten.length = 11 + 2 * x.ents.length := by
  simp only [MsgD.pss, pEnts, List.flatten_cons, List.flatten_nil, List.length_append, List.length_cons, List.length_nil, len_Ents]; omega
theorem RepD.len (x : RepD) : x.pss.flatten.length = 3 + 2 * x.posts.length := by
  simp only [RepD.pss, pPosts, List.flatten_cons, List.flatten_nil, List.length_append, List.length_cons, List.length_nil, len_Posts]; omega

theorem MsgD.walk {w : World} {b o c : Nat} (x : MsgD) (h : At w b o (x.cellsC c)) (hk : x.Ok) (he : EntsIn w x.p x.ents) : WalkC w (fields b o .msg) x.pss.flatten := by
  obtain ⟨h0, h1, h2, h3, h4, h5, h6, h7, h8, h9, h10⟩ := hk
  exact walk_w2 ⟨FW.int (i := 0) h rfl h0, FW.int (i := 1) h rfl h1, FW.int (i := 2) h rfl h2, FW.int (i := 3) h rfl h3, FW.int (i := 4) h rfl h4, FW.int (i := 5) h rfl h5, FW.int (i := 6) h rfl h6, FW.int (i := 8) h rfl h7, FW.bool (i := 9) h rfl, he.list h9 (by omega) (h 7 _ rfl).1, FW.str (i := 10) h rfl h8, trivial⟩ x.small (by simp [fields])

theorem RepD.walk {w : World} {b o c : Nat} (x : RepD) (h : At w b o (x.cellsC c)) (hk : x.Ok) (he : PostsIn w x.p x.posts) : WalkC w (fields b o .reply) x.pss.flatten := by
  obtain ⟨h0, h1, h2, h3⟩ := hk
  exact walk_w2 ⟨FW.errno (i := 0) h rfl h0, FW.int (i := 1) h rfl h1, he.list h2 (by omega) (h 2 _ rfl).1, trivial⟩ x.small (by simp [fields])

end Go.Proofs.Ytgkcchbignakcaa
