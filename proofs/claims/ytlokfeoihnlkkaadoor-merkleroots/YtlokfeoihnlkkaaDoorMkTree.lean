/- A stack of trees, put together as they come: plain; its row in memory. -/
import Derived.Test.YtlokfeoihnlkkaaDoorMkBend
namespace Go.Proofs.YtlokfeoihnlkkaaDoor
open Go.RowKit

theorem root_join {d c : List ByteArray} {e : Nat} (hd : d.length = 2 ^ e) (hc0 : 0 < c.length) (hc : c.length ≤ 2 ^ e) : rootL (d ++ c) = nodeD (rootL d) (rootL c) := by
  have hp := Nat.two_pow_pos e
  have hl : (d ++ c).length = 2 ^ e + c.length := by rw [List.length_append, hd]
  have hs : spl (d ++ c).length = d.length := by rw [hl, hd]; exact spl_of (by omega) (by rw [Nat.pow_succ]; omega)
  rw [rootL_two (by omega), hs, List.take_left, List.drop_left]
theorem pow_two {a b : Nat} (h : 2 ^ a < 2 ^ b) : 2 ^ a * 2 ≤ 2 ^ b := by
  have := (Nat.pow_lt_pow_iff_right (a := 2) (by decide)).1 h
  rw [← Nat.pow_succ]
  exact Nat.pow_le_pow_right (by decide) this
/-- trees of falling sizes, each a power of two -/
def Dec : List (List ByteArray) → Prop
  | [] => True
  | c :: L => (∃ e, c.length = 2 ^ e) ∧ (∀ d ∈ L, d.length < c.length) ∧ Dec L
theorem Dec.sum : ∀ (L : List (List ByteArray)) (c : List ByteArray), Dec (c :: L) → L.flatten.length < c.length
  | [], c, h => by
    obtain ⟨⟨e, he⟩, _⟩ := h
    have := Nat.two_pow_pos e
    simp; omega
  | d :: L, c, h => by
    obtain ⟨⟨e, he⟩, h2, h3⟩ := h
    have ih := Dec.sum L d h3
    obtain ⟨⟨e', he'⟩, _⟩ := h3
    have hlt := h2 d List.mem_cons_self
    have := pow_two (a := e') (b := e) (by omega)
    rw [List.flatten_cons, List.length_append]
    omega
theorem Dec.push : ∀ (L : List (List ByteArray)) (c : List ByteArray), Dec L → (∃ e, c.length = 2 ^ e) → (∀ d ∈ L, c.length < d.length) → Dec (L ++ [c])
  | [], c, _, h2, _ => ⟨h2, (fun d hd => by cases hd), trivial⟩
  | x :: L, c, ⟨h1, h2, h3⟩, h4, h5 => ⟨h1, (fun d hd => by
      rcases List.mem_append.1 hd with q | q
      · exact h2 d q
      · rw [List.mem_singleton.1 q]; exact h5 x List.mem_cons_self), Dec.push L c h3 h4 (fun d hd => h5 d (List.mem_cons_of_mem _ hd))⟩
theorem Dec.pop : ∀ (L : List (List ByteArray)) (d : List ByteArray), Dec (L ++ [d]) → Dec L ∧ (∃ e, d.length = 2 ^ e) ∧ ∀ x ∈ L, d.length < x.length
  | [], d, h => ⟨trivial, h.1, fun x hx => by cases hx⟩
  | x :: L, d, ⟨h1, h2, h3⟩ => by
    obtain ⟨a, b, c⟩ := Dec.pop L d h3
    refine ⟨⟨h1, fun y hy => h2 y (List.mem_append_left _ hy), a⟩, b, fun y hy => ?_⟩
    rcases List.mem_cons.1 hy with rfl | hy
    · exact h2 d (by simp)
    · exact c y hy
theorem Dec.drop : ∀ (L : List (List ByteArray)) (k : Nat), Dec L → Dec (L.drop k)
  | _, 0, h => h
  | [], _ + 1, _ => trivial
  | _ :: L, k + 1, h => Dec.drop L k h.2.2
theorem Dec.pos {L : List (List ByteArray)} (h : Dec L) : ∀ c ∈ L, 0 < c.length := by
  induction L with
  | nil => intro c hc; cases hc
  | cons x L ih =>
    intro c hc
    rcases List.mem_cons.1 hc with rfl | hc
    · obtain ⟨⟨e, he⟩, _⟩ := h
      have := Nat.two_pow_pos e
      omega
    · exact ih h.2.2 c hc
theorem Dec.len {L : List (List ByteArray)} (h : Dec L) : L.length ≤ L.flatten.length := by
  induction L with
  | nil => simp
  | cons x L ih =>
    have := ih h.2.2
    have hx := h.pos x List.mem_cons_self
    rw [List.flatten_cons, List.length_append, List.length_cons]
    omega
/-- the root of what stands from place i on -/
theorem Dec.step {L : List (List ByteArray)} {i : Nat} (h : Dec L) (hi : i + 1 < L.length) : rootL ((L.drop i).flatten) = nodeD (rootL L[i]) (rootL ((L.drop (i + 1)).flatten)) := by
  have e : L.drop i = L[i] :: L.drop (i + 1) := List.drop_eq_getElem_cons (by omega)
  have hd := Dec.drop L i h
  rw [e] at hd ⊢
  have hs := Dec.sum _ _ hd
  obtain ⟨⟨p, hp⟩, _⟩ := hd
  rw [List.flatten_cons]
  have hne : L.drop (i + 1) = L[i + 1] :: L.drop (i + 2) := List.drop_eq_getElem_cons hi
  have hpos := h.pos L[i + 1] (List.getElem_mem hi)
  have hc0 : 0 < ((L.drop (i + 1)).flatten).length := by rw [hne, List.flatten_cons, List.length_append]; omega
  exact root_join hp hc0 (by omega)
theorem Dec.last {L : List (List ByteArray)} {d : List ByteArray} : rootL (((L ++ [d]).drop L.length).flatten) = rootL d := by
  rw [List.drop_left]
  simp

/-- the cells of a stack of trees -/
def trCells : List (List ByteArray) → List Value
  | [] => []
  | c :: L => .int .i64 (c.length : Int) :: .string (rootL c) :: trCells L
def trArr (c : List ByteArray) : Array Value := #[.int .i64 (c.length : Int), .string (rootL c)]
theorem trCells_len : ∀ L, (trCells L).length = L.length * 2
  | [] => rfl
  | c :: L => by rw [trCells, List.length_cons, List.length_cons, trCells_len L, List.length_cons]; omega
theorem trCells_app : ∀ (L M : List (List ByteArray)), trCells (L ++ M) = trCells L ++ trCells M
  | [], M => rfl
  | c :: L, M => by rw [List.cons_append, trCells, trCells_app L M]; rfl
theorem trCells_at : ∀ (L : List (List ByteArray)) (k : Nat) (c : List ByteArray), L[k]? = some c → (trCells L)[k * 2]? = some (.int .i64 (c.length : Int)) ∧ (trCells L)[k * 2 + 1]? = some (.string (rootL c))
  | [], k, c, h => by simp at h
  | x :: L, 0, c, h => by
    have e : x = c := by simpa using h
    subst e
    exact ⟨rfl, rfl⟩
  | x :: L, k + 1, c, h => by
    have := trCells_at L k c (by simpa using h)
    rw [show (k + 1) * 2 = k * 2 + 2 from by omega]
    exact this
theorem info_tree : (Tryd.prog.info? 34).map (fun i => (i.zero, i.size, i.bytes)) = some (some (.agg #[.int .i64 0, .string ⟨#[]⟩]), 2, 24) := by kernel_rfl
/-- the stack's row -/
def TrRow (w : World) (base : Nat) (v : Value) (L : List (List ByteArray)) : Prop := w.ownsRow base 34 2 v L.length (trCells L)
theorem TrRow.up {w w' : World} {base : Nat} {v : Value} {L : List (List ByteArray)} (h : TrRow w base v L) (hb : Below w.heap.size w w') : TrRow w' base v L := by
  refine ⟨h.1, ?_⟩
  rcases h.2 with hn | ⟨g, cap, cur, hv, hbs, hg, rest⟩
  · exact .inl hn
  · exact .inr ⟨g, cap, cur, hv, hbs, (hb.block g (Array.getElem?_eq_some_iff.1 hg).1).trans hg, rest⟩
theorem TrRow.set {w : World} {base g : Nat} {v : Value} {L : List (List ByteArray)} (h : TrRow w base v L) (hg : v.ownBlock ≠ some g) (p : Nat) (u : Value) : TrRow (w.setCell ⟨g, p, none⟩ u) base v L := by
  refine ⟨h.1, ?_⟩
  rcases h.2 with hn | ⟨q, cap, cur, hv, hbs, hq, rest⟩
  · exact .inl hn
  · refine .inr ⟨q, cap, cur, hv, hbs, ?_, rest⟩
    have hne : q ≠ g := fun e => hg (by rw [hv, e]; rfl)
    exact ((gb_set (w := w) g p u).block q (Array.getElem?_eq_some_iff.1 hq).1 (fun e => hne (Option.some.inj e))).trans hq
theorem TrRow.cut {w : World} {base g cap : Nat} {L : List (List ByteArray)} {d : List ByteArray} (h : TrRow w base (.slice (some ⟨g, 0, none⟩) (L.length + 1) cap) (L ++ [d])) : TrRow w base (.slice (some ⟨g, 0, none⟩) L.length cap) L := by
  refine ⟨trCells_len L, ?_⟩
  rcases h.2 with ⟨hn, _⟩ | ⟨q, cap', cur, hv, hbs, hq, hnc, hcm, hcs, ht⟩
  · cases hn
  · rw [List.length_append, List.length_singleton] at hnc ht hv
    cases hv
    refine .inr ⟨g, cap, cur, rfl, hbs, hq, by omega, hcm, hcs, ?_⟩
    have e : (cur.toList.take ((L.length + 1) * 2)).take (L.length * 2) = (trCells (L ++ [d])).take (L.length * 2) := by rw [ht]
    rw [List.take_take, Nat.min_eq_left (by omega), trCells_app] at e
    rw [e]
    exact List.take_left' (trCells_len L)
theorem add0 (g j : Nat) : (⟨g, 0, none⟩ : Addr).add j = ⟨g, j, none⟩ := by
  unfold Addr.add
  split <;> simp_all
theorem TrRow.cells {w : World} {base g n cap : Nat} {L : List (List ByteArray)} {k : Nat} {c : List ByteArray} (h : TrRow w base (.slice (some ⟨g, 0, none⟩) n cap) L) (hk : L[k]? = some c) :
    w.cell? ⟨g, k * 2, none⟩ = some (.int .i64 (c.length : Int)) ∧ w.cell? ⟨g, k * 2 + 1, none⟩ = some (.string (rootL c)) := by
  obtain ⟨a, b⟩ := trCells_at L k c hk
  have q : ∀ j u, (trCells L)[j]? = some u → w.cell? ((⟨g, 0, none⟩ : Addr).add j) = some u := World.ownsRow.cells (g := g) h rfl
  have qa := q _ _ a
  have qb := q _ _ b
  rw [add0] at qa qb
  exact ⟨qa, qb⟩
theorem TrRow.nil (w : World) (base : Nat) : TrRow w base (.slice none 0 0) [] := own_nil _ _ _ _
theorem TrRow.form {w : World} {base : Nat} {v : Value} {L : List (List ByteArray)} (h : TrRow w base v L) : ∃ A c, v = .slice A L.length c ∧ L.length ≤ c ∧ (L ≠ [] → ∃ g, A = some ⟨g, 0, none⟩ ∧ base ≤ g ∧ g < w.heap.size) := by
  rcases h.2 with ⟨rfl, hn⟩ | ⟨g, cap, cur, rfl, hb, hg, hnc, _⟩
  · exact ⟨none, 0, by rw [hn], by omega, fun q => absurd (List.eq_nil_of_length_eq_zero hn) q⟩
  · exact ⟨some ⟨g, 0, none⟩, cap, rfl, hnc, fun _ => ⟨g, rfl, hb, (Array.getElem?_eq_some_iff.1 hg).1⟩⟩
theorem TrRow.block {w : World} {base : Nat} {v : Value} {L : List (List ByteArray)} (h : TrRow w base v L) : v.ownBlock ≠ some w.heap.size := fun e => by
  rcases h.2 with ⟨rfl, _⟩ | ⟨g, cap, cur, rfl, hb, hg, _⟩
  · cases e
  · have hlt := (Array.getElem?_eq_some_iff.1 hg).1
    have e2 : g = w.heap.size := Option.some.inj e
    omega
end Go.Proofs.YtlokfeoihnlkkaaDoor
