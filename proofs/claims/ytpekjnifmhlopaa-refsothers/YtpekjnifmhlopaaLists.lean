/- Texts in one: OApp, RfMem, Lists. -/
import Derived.Test.YtpekjnifmhlopaaDkMem
import Derived.Deep.RegionLaw
import Derived.Test.YtpekjnifmhlopaaWRead
import Derived.WalkKit
/- append of a slice that may be nil or empty, onto a slice of the call's own: laws for the walk. -/
namespace Go.Proofs.Ytpekjnifmhlopaa
open Go.RowKit

section
variable {P : Program} (w : World)
theorem run_app_none (base : Nat) (t ty e : TypeId) (i : TypeInfo) (size : Nat) (ht : P.underlying t = some (.slice e)) (hi : P.info? e = some i)
    (v : Value) (n c : Nat) (xs : List Value) (hown : w.ownsRow base e size v n xs) :
    (Builtin.append_ #[t, t] ty #[v, .slice none 0 c]).run P w = .ok v w := by
  rcases hown.2 with ⟨rfl, rfl⟩ | ⟨g, cap, cur, rfl, _, _, hnc, _⟩
  · simp [Builtin.append_, run_underlying ht, sizeOf, typeInfo, hi, Builtin.lenOf, Builtin.firstCells]
  · simp [Builtin.append_, run_underlying ht, sizeOf, typeInfo, hi, Builtin.lenOf, Builtin.firstCells, hnc, storeCells]
/-- what a slice that is appended holds: m elements, news -/
def News (A : Option Addr) (m : Nat) (news : List Value) : Prop := (A = none → m = 0) ∧ ∀ ad, A = some ad → ∀ j u, news[j]? = some u → w.cell? (ad.add j) = some u
theorem run_app (t ty : TypeId) (base : Nat) (e : TypeId) (i : TypeInfo) (z : Value) (size bytes : Nat) (ht : P.underlying t = some (.slice e)) (hi : P.info? e = some i) (hz : i.zero = some z)
    (hsize : i.size = size) (hby : i.bytes = bytes) (hzs : z.cells.size = size) (hsz : 0 < size)
    (v : Value) (n : Nat) (xs : List Value) (hown : w.ownsRow base e size v n xs)
    (A : Option Addr) (m c : Nat) (news : List Value) (hl : news.length = m * size) (hnews : News w A m news) (h1 : ∀ u ∈ news, u.oneCell' = true)
    (h63 : n + m ≤ maxLen) (hbytes : (n + m) * bytes ≤ 140737488355328) (hbase : base ≤ w.heap.size) :
    ∃ v' w', (Builtin.append_ #[t, t] ty #[v, .slice A m c]).run P w = .ok v' w' ∧ w'.ownsRow base e size v' (n + m) (xs ++ news) ∧ w.grownBy w' v.ownBlock := by
  cases A with
  | none =>
    obtain rfl := hnews.1 rfl
    have e0 : news = [] := List.eq_nil_of_length_eq_zero (by rw [hl]; omega)
    subst e0
    exact ⟨v, w, run_app_none w base t ty e i size ht hi v n c xs hown, by rw [List.append_nil]; exact hown, World.grownBy.refl _ _⟩
  | some ad =>
    obtain ⟨v', w', h2, h3, h4, _⟩ := run_append_own_at (P := P) w base t ty e i z size bytes ht hi hz hsize hby hzs hsz v n xs hown ad m c news hl (hnews.2 ad rfl) h1 h63 hbytes hbase
    exact ⟨v', w', h2, h3, h4⟩
theorem wp_app {o : Oper} {a : Act} {K : Act → World → Prop} {Q : Exit → Act → World → Prop} (s x : Operand) (t : TypeId)
    (ho : o.op = .call { callee := .builtin .append, args := #[s, x], argTypes := #[t, t] })
    (base : Nat) (e : TypeId) (i : TypeInfo) (z : Value) (size bytes : Nat) (ht : P.underlying t = some (.slice e)) (hi : P.info? e = some i) (hz : i.zero = some z)
    (hsize : i.size = size) (hby : i.bytes = bytes) (hzs : z.cells.size = size) (hsz : 0 < size)
    (v : Value) (n : Nat) (xs : List Value) (hs : a.eval s = v) (hown : w.ownsRow base e size v n xs)
    (A : Option Addr) (m c : Nat) (news : List Value) (hx : a.eval x = .slice A m c) (hl : news.length = m * size) (hnews : News w A m news) (h1 : ∀ u ∈ news, u.oneCell' = true)
    (h63 : n + m ≤ maxLen) (hbytes : (n + m) * bytes ≤ 140737488355328) (hbase : base ≤ w.heap.size)
    (h : ∀ v' w', w'.ownsRow base e size v' (n + m) (xs ++ news) → w.grownBy w' v.ownBlock → K (a.put o.dst v') w') : o.wp P a w K Q := by
  obtain ⟨v', w', hr, h2, h3⟩ := run_app (P := P) w t o.type base e i z size bytes ht hi hz hsize hby hzs hsz v n xs hown A m c news hl hnews h1 h63 hbytes hbase
  unfold Oper.wp execOp
  simp only [ho, resolve, invoke, builtin, Sem.run_bind, Sem.run_pure, Result.andThen_ok, List.map_toArray, List.map_cons, List.map_nil, hs, hx, hr]
  exact h v' w' h2 h3
theorem wpList_app {ops : Array Oper} {rest : List Oper} {o : Oper} {a : Act} {Q : Exit → Act → World → Prop} (hgd : o.guard = none) (s x : Operand) (t : TypeId)
    (ho : o.op = .call { callee := .builtin .append, args := #[s, x], argTypes := #[t, t] })
    (base : Nat) (e : TypeId) (i : TypeInfo) (z : Value) (size bytes : Nat) (ht : P.underlying t = some (.slice e)) (hi : P.info? e = some i) (hz : i.zero = some z)
    (hsize : i.size = size) (hby : i.bytes = bytes) (hzs : z.cells.size = size) (hsz : 0 < size)
    (v : Value) (n : Nat) (xs : List Value) (hs : a.eval s = v) (hown : w.ownsRow base e size v n xs)
    (A : Option Addr) (m c : Nat) (news : List Value) (hx : a.eval x = .slice A m c) (hl : news.length = m * size) (hnews : News w A m news) (h1 : ∀ u ∈ news, u.oneCell' = true)
    (h63 : n + m ≤ maxLen) (hbytes : (n + m) * bytes ≤ 140737488355328) (hbase : base ≤ w.heap.size)
    (h : ∀ v' w', w'.ownsRow base e size v' (n + m) (xs ++ news) → w.grownBy w' v.ownBlock → wpList P ops Q rest (a.put o.dst v') w') : wpList P ops Q (o :: rest) a w :=
  wpList_plain hgd fun _ hK => wp_app w s x t ho base e i z size bytes ht hi hz hsize hby hzs hsz v n xs hs hown A m c news hx hl hnews h1 h63 hbytes hbase fun v' w' h2 h3 => hK _ _ (h v' w' h2 h3)
/-- at a step of a region that draws -/
theorem step_app {ops : Array Oper} {o : Oper} {a : Act} {K : Act → World → Prop} {Q : Exit → Act → World → Prop} {E : Prop} (hgd : o.guard = none) (s x : Operand) (t : TypeId)
    (ho : o.op = .call { callee := .builtin .append, args := #[s, x], argTypes := #[t, t] })
    (base : Nat) (e : TypeId) (i : TypeInfo) (z : Value) (size bytes : Nat) (ht : P.underlying t = some (.slice e)) (hi : P.info? e = some i) (hz : i.zero = some z)
    (hsize : i.size = size) (hby : i.bytes = bytes) (hzs : z.cells.size = size) (hsz : 0 < size)
    (v : Value) (n : Nat) (xs : List Value) (hs : a.eval s = v) (hown : w.ownsRow base e size v n xs)
    (A : Option Addr) (m c : Nat) (news : List Value) (hx : a.eval x = .slice A m c) (hl : news.length = m * size) (hnews : News w A m news) (h1 : ∀ u ∈ news, u.oneCell' = true)
    (h63 : n + m ≤ maxLen) (hbytes : (n + m) * bytes ≤ 140737488355328) (hbase : base ≤ w.heap.size)
    (h : ∀ v' w', w'.ownsRow base e size v' (n + m) (xs ++ news) → w.grownBy w' v.ownBlock → K (a.put o.dst v') w') :
    if Region.wanted o (yielded ops a.tmps) = true then Oper.wp P o a w K Q else E := by
  have hw : Region.wanted o (yielded ops a.tmps) = true := by simp [Region.wanted, hgd]
  rw [if_pos hw]
  exact wp_app w s x t ho base e i z size bytes ht hi hz hsize hby hzs hsz v n xs hs hown A m c news hx hl hnews h1 h63 hbytes hbase h
end
theorem sv_one (T : List ByteArray) : ∀ u ∈ T.map sv, u.oneCell' = true := fun u hu => by
  obtain ⟨x, _, rfl⟩ := List.mem_map.1 hu
  rfl
theorem ent_one : ∀ (L : List Ent), ∀ u ∈ entCells L, u.oneCell' = true
  | [], u, hu => by simp [entCells] at hu
  | e :: L, u, hu => by
    simp only [entCells, List.mem_cons] at hu
    rcases hu with rfl | rfl | rfl | hu
    · rfl
    · rfl
    · rfl
    · exact ent_one L u hu
theorem own_nil (w : World) (base : Nat) (e : TypeId) (size : Nat) : w.ownsRow base e size (.slice none 0 0) 0 [] := ⟨by simp, .inl ⟨rfl, rfl⟩⟩
theorem Txs.news {w : World} {B : Nat} {A : Option Addr} {T : List ByteArray} (h : Txs w B A T) : News w A T.length (T.map sv) := by
  refine ⟨fun e => ?_, fun ad e j u hu => ?_⟩
  · cases T with
    | nil => rfl
    | cons x T =>
      obtain ⟨ad, e1, _⟩ := h 0 x rfl
      rw [e] at e1; cases e1
  · rw [List.getElem?_map] at hu
    cases hx : T[j]? with
    | none => rw [hx] at hu; cases hu
    | some x =>
      rw [hx] at hu
      obtain ⟨ad', e1, _, h2⟩ := h j x hx
      rw [e] at e1; cases e1
      rw [h2]; exact hu
theorem add_add (ad : Addr) (j k : Nat) (hk : k ≠ 0) : ad.add (j + k) = ⟨(ad.add j).block, (ad.add j).off + k, none⟩ := by
  unfold Addr.add
  rw [if_neg (by omega)]
  split
  · subst_vars; simp
  · simp [Nat.add_assoc]
theorem entCells_get : ∀ (L : List Ent) (j : Nat) (u : Value), (entCells L)[j]? = some u → ∃ x, L[j / 3]? = some x ∧ ((j % 3 = 0 ∧ u = .string x.name) ∨ (j % 3 = 1 ∧ u = .bool x.dir) ∨ (j % 3 = 2 ∧ u = .string x.id))
  | [], j, u, h => by simp [entCells] at h
  | e :: L, 0, u, h => by simp [entCells] at h; exact ⟨e, rfl, .inl ⟨rfl, h.symm⟩⟩
  | e :: L, 1, u, h => by simp [entCells] at h; exact ⟨e, rfl, .inr (.inl ⟨rfl, h.symm⟩)⟩
  | e :: L, 2, u, h => by simp [entCells] at h; exact ⟨e, rfl, .inr (.inr ⟨rfl, h.symm⟩)⟩
  | e :: L, j + 3, u, h => by
    have h2 : (entCells L)[j]? = some u := h
    obtain ⟨x, h3, h4⟩ := entCells_get L j u h2
    refine ⟨x, ?_, ?_⟩
    · rw [show (j + 3) / 3 = j / 3 + 1 from by omega, List.getElem?_cons_succ]; exact h3
    · rw [show (j + 3) % 3 = j % 3 from by omega]; exact h4
theorem Ens.news {w : World} {B : Nat} {A : Option Addr} {L : List Ent} (h : Ens w B A L) : News w A L.length (entCells L) := by
  refine ⟨fun e => ?_, fun ad e j u hu => ?_⟩
  · cases L with
    | nil => rfl
    | cons x T =>
      obtain ⟨ad, e1, _⟩ := h 0 x rfl
      rw [e] at e1; cases e1
  · obtain ⟨x, h1, h2⟩ := entCells_get L j u hu
    obtain ⟨ad', e1, _, k0, k1, k2⟩ := h (j / 3) x h1
    rw [e] at e1; cases e1
    rcases h2 with ⟨hm, rfl⟩ | ⟨hm, rfl⟩ | ⟨hm, rfl⟩
    · rw [show j = j / 3 * 3 from by omega]; exact k0
    · rw [show j = j / 3 * 3 + 1 from by omega, add_add _ _ _ (by decide)]; exact k1
    · rw [show j = j / 3 * 3 + 2 from by omega, add_add _ _ _ (by decide)]; exact k2
end Go.Proofs.Ytpekjnifmhlopaa

/- Lists of refs in memory. -/
namespace Go.Proofs.Ytpekjnifmhlopaa
open Go.RowKit

def rfArr (f : Rf) : Array Value := #[.string f.name, .string f.id]
def rfCells : List Rf → List Value
  | [] => []
  | f :: l => (rfArr f).toList ++ rfCells l
theorem rfCells_app : ∀ a b : List Rf, rfCells (a ++ b) = rfCells a ++ rfCells b
  | [], b => rfl
  | x :: a, b => by rw [List.cons_append, rfCells, rfCells_app a b, rfCells, List.append_assoc]
theorem rfCells_len : ∀ l : List Rf, (rfCells l).length = l.length * 2
  | [] => rfl
  | f :: l => by
    rw [rfCells, List.length_append, rfCells_len l, List.length_cons]
    have : (rfArr f).toList.length = 2 := rfl
    omega
theorem rfCells_at : ∀ (l : List Rf) (k j : Nat) (f : Rf), l[k]? = some f → j < 2 → (rfCells l)[k * 2 + j]? = (rfArr f).toList[j]?
  | [], k, j, f, h, _ => by simp at h
  | x :: l, 0, j, f, h, hj => by
    simp at h
    subst h
    rw [rfCells, Nat.zero_mul, Nat.zero_add, List.getElem?_append_left (show j < (rfArr x).toList.length from hj)]
  | x :: l, k + 1, j, f, h, hj => by
    rw [List.getElem?_cons_succ] at h
    have ih := rfCells_at l k j f h hj
    have e : (rfArr x).toList.length = 2 := rfl
    rw [rfCells, List.getElem?_append_right (by omega), show (k + 1) * 2 + j - (rfArr x).toList.length = k * 2 + j from by omega]
    exact ih
theorem rfCells_one (l : List Rf) : ∀ u ∈ rfCells l, u.oneCell' = true := by
  induction l with
  | nil => intro u hu; cases hu
  | cons f l ih =>
    intro u hu
    rcases List.mem_append.1 hu with h | h
    · simp [rfArr] at h
      rcases h with rfl | rfl <;> rfl
    · exact ih u h
theorem rfArr_one (f : Rf) : (rfArr f).all (·.oneCell') = true := by
  unfold rfArr
  rw [Array.all_eq_true_iff_forall_mem]
  intro v hv
  simp at hv
  rcases hv with rfl | rfl <;> rfl
theorem rfInfo (f : Rf) : (Try.prog.info? 40).map (·.size) = some (rfArr f).size := by
  rw [show (rfArr f).size = 2 from rfl]
  kernel_rfl
theorem info_ref : (Try.prog.info? 40).map (fun i => (i.zero, i.size, i.bytes)) = some (some (.agg #[.string ⟨#[]⟩, .string ⟨#[]⟩]), 2, 32) := by kernel_rfl
/-- the refs that a slice holds, all in blocks below B -/
def Rfs (w : World) (B : Nat) (A : Option Addr) (L : List Rf) : Prop :=
  ∀ k x, L[k]? = some x → ∃ ad, A = some ad ∧ (ad.add (k * 2)).block < B ∧ w.cell? (ad.add (k * 2)) = some (.string x.name) ∧ w.cell? ⟨(ad.add (k * 2)).block, (ad.add (k * 2)).off + 1, none⟩ = some (.string x.id)
theorem Rfs.below {w w' : World} {B : Nat} {A : Option Addr} {L : List Rf} (h : Rfs w B A L) (b : Below B w w') : Rfs w' B A L := fun k x hx => by
  obtain ⟨ad, e, hb, h0, h1⟩ := h k x hx
  exact ⟨ad, e, hb, (b.cell hb).trans h0, (b.cell (p := ⟨(ad.add (k * 2)).block, (ad.add (k * 2)).off + 1, none⟩) hb).trans h1⟩
theorem Rfs.mono {w : World} {B B' : Nat} {A : Option Addr} {L : List Rf} (h : Rfs w B A L) (hB : B ≤ B') : Rfs w B' A L := fun k x hx => by
  obtain ⟨ad, e, hb, hc⟩ := h k x hx
  exact ⟨ad, e, by omega, hc⟩
theorem Rfs.nil (w : World) (B : Nat) (A : Option Addr) : Rfs w B A [] := fun k x h => by simp at h
theorem Rfs.up {w w' : World} {A : Option Addr} {L : List Rf} (h : Rfs w w.heap.size A L) (b : Below w.heap.size w w') : Rfs w' w'.heap.size A L := (h.below b).mono b.size
theorem Rfs.addr {w : World} {B : Nat} {A : Option Addr} {L : List Rf} (h : Rfs w B A L) (hL : 0 < L.length) : ∃ ad, A = some ad := by
  obtain ⟨ad, e, _⟩ := h 0 L[0] (List.getElem?_eq_getElem hL)
  exact ⟨ad, e⟩
/-- a slice that owns its row holds these refs -/
theorem own_refs {w : World} {base : Nat} {v : Value} {L : List Rf} (h : w.ownsRow base 40 2 v L.length (rfCells L)) : ∃ A c, v = .slice A L.length c ∧ L.length ≤ c ∧ Rfs w w.heap.size A L := by
  rcases h.2 with ⟨rfl, hn⟩ | ⟨g, cap, cur, rfl, hb, hg, hnc, hcm, hcs, htake⟩
  · obtain rfl : L = [] := List.eq_nil_of_length_eq_zero hn
    exact ⟨none, 0, rfl, Nat.le_refl _, Rfs.nil _ _ _⟩
  · refine ⟨.some ⟨g, 0, none⟩, cap, rfl, hnc, fun k f hk => ⟨_, rfl, ?_⟩⟩
    have hlt : k < L.length := (List.getElem?_eq_some_iff.1 hk).1
    have hcell : ∀ j, j < 2 → w.cell? ⟨g, k * 2 + j, none⟩ = (rfArr f).toList[j]? := fun j hj => by
      rw [cell_of_row w g _ cur _ (0, 0) hg, ← rfCells_at L k j f hk hj, ← htake, List.getElem?_take_of_lt (by omega)]
      simp
    rw [zero_add]
    exact ⟨(Array.getElem?_eq_some_iff.1 hg).1, hcell 0 (by omega), hcell 1 (by omega)⟩
/-- texts that memory bears -/
def SizedR (L : List Rf) : Prop := ∀ f ∈ L, f.name.size ≤ 140737488355328 ∧ f.id.size ≤ 140737488355328
theorem rfCells_get : ∀ (L : List Rf) (j : Nat) (u : Value), (rfCells L)[j]? = some u → ∃ x, L[j / 2]? = some x ∧ ((j % 2 = 0 ∧ u = .string x.name) ∨ (j % 2 = 1 ∧ u = .string x.id))
  | [], j, u, h => by simp [rfCells] at h
  | e :: L, 0, u, h => by simp [rfCells, rfArr] at h; exact ⟨e, rfl, .inl ⟨rfl, h.symm⟩⟩
  | e :: L, 1, u, h => by simp [rfCells, rfArr] at h; exact ⟨e, rfl, .inr ⟨rfl, h.symm⟩⟩
  | e :: L, j + 2, u, h => by
    have h2 : (rfCells L)[j]? = some u := h
    obtain ⟨x, h3, h4⟩ := rfCells_get L j u h2
    refine ⟨x, ?_, ?_⟩
    · rw [show (j + 2) / 2 = j / 2 + 1 from by omega, List.getElem?_cons_succ]; exact h3
    · rw [show (j + 2) % 2 = j % 2 from by omega]; exact h4
theorem Rfs.news {w : World} {B : Nat} {A : Option Addr} {L : List Rf} (h : Rfs w B A L) : News w A L.length (rfCells L) := by
  refine ⟨fun e => ?_, fun ad e j u hu => ?_⟩
  · cases L with
    | nil => rfl
    | cons x T =>
      obtain ⟨ad, e1, _⟩ := h 0 x rfl
      rw [e] at e1; cases e1
  · obtain ⟨x, h1, h2⟩ := rfCells_get L j u hu
    obtain ⟨ad', e1, _, k0, k1⟩ := h (j / 2) x h1
    rw [e] at e1; cases e1
    rcases h2 with ⟨hm, rfl⟩ | ⟨hm, rfl⟩
    · rw [show j = j / 2 * 2 from by omega]; exact k0
    · rw [show j = j / 2 * 2 + 1 from by omega, add_add _ _ _ (by decide)]; exact k1
end Go.Proofs.Ytpekjnifmhlopaa

/- Plain facts for lists that were opened; no program is named here. -/
namespace Go.Proofs.Ytpekjnifmhlopaa
open Go.RowKit

theorem choose_list {α : Type} {P : Nat → α → Prop} : ∀ n, (∀ i, i < n → ∃ x, P i x) → ∃ L : List α, L.length = n ∧ ∀ i x, L[i]? = some x → P i x
  | 0, _ => ⟨[], rfl, fun i x h => by simp at h⟩
  | n + 1, h => by
    obtain ⟨L, hl, hL⟩ := choose_list n (fun i hi => h i (by omega))
    obtain ⟨y, hy⟩ := h n (by omega)
    refine ⟨L ++ [y], by simp [hl], fun i x hx => ?_⟩
    rcases Nat.lt_or_ge i L.length with hi | hi
    · rw [List.getElem?_append_left hi] at hx
      exact hL i x hx
    · rw [List.getElem?_append_right hi] at hx
      have h0 : i - L.length = 0 := by
        rcases Nat.eq_zero_or_pos (i - L.length) with h0 | h0
        · exact h0
        · rw [List.getElem?_eq_none (by simp; omega)] at hx; cases hx
      rw [h0] at hx
      simp at hx
      subst hx
      obtain rfl : i = n := by omega
      exact hy
theorem add_next (p : Addr) (j : Nat) (hj : j ≠ 0) : p.add j = ⟨p.block, p.off + j, none⟩ := by simp [Addr.add, hj]
theorem range_map {α β : Type} {D : Nat → β} {f : α → β} (L : List α) (h : ∀ i x, L[i]? = some x → D i = f x) : (List.range L.length).map D = L.map f := by
  apply List.ext_getElem?
  intro i
  rcases Nat.lt_or_ge i L.length with hi | hi
  · simp [hi, h i L[i] (List.getElem?_eq_getElem hi)]
  · simp [hi]

end Go.Proofs.Ytpekjnifmhlopaa
