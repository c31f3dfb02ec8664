/- Texts in one: StSpec, OApp. -/
import Derived.Test.YtmikfmcgddmplaaGreatDoorDkMath
import Derived.Test.YtmikfmcgddmplaaGreatDoorOEncB
import Derived.Test.YtmikfmcgddmplaaGreatDoorAbc
import Derived.Test.YtmikfmcgddmplaaGreatDoorHex
import Derived.Test.YtmikfmcgddmplaaGreatDoorDkMem
import Derived.Deep.RegionLaw
/- Store: plain definitions: what Get, load, Put answer. -/
namespace Go.Proofs.YtmikfmcgddmplaaGreatDoor
open Go.RowKit

def sumB (s : ByteArray) : ByteArray := bs (sha s.data.toList)
def fileN (id : ByteArray) : ByteArray := ⟨#[111]⟩ ++ bs (hexOf id.data.toList)
def tellR (r : ByteArray × Int) (id : ByteArray) : ByteArray × Int :=
  if r.2 ≠ 0 then (⟨#[]⟩, r.2) else if sumB r.1 ≠ id then (⟨#[]⟩, 5) else (r.1, 0)
def getO (d : Dk) (id : ByteArray) : ByteArray × Int := if id.size ≠ 32 then (⟨#[]⟩, 2) else tellR (readD d (fileN id)) id
/-- what load makes of what a getter tells -/
def loadR (r : ByteArray × Int) : Ob × Int :=
  if r.2 ≠ 0 then (Ob.none, 7) else if (decO r.1.data.toList).2 ≠ 0 then (Ob.none, 2) else ((decO r.1.data.toList).1, 0)
def hasO (d : Dk) (id : ByteArray) : Bool := decide ((loadR (getO d id)).2 = 0)
def putO (d : Dk) (s : ByteArray) : Dk × ByteArray × Int :=
  if (decO s.data.toList).2 ≠ 0 then (d, ⟨#[]⟩, (decO s.data.toList).2) else if hasO d (sumB s) = true then (d, sumB s, 0) else
  if (saveD d (fileN (sumB s)) s).2 ≠ 0 then ((saveD d (fileN (sumB s)) s).1, ⟨#[]⟩, (saveD d (fileN (sumB s)) s).2) else ((saveD d (fileN (sumB s)) s).1, sumB s, 0)
end Go.Proofs.YtmikfmcgddmplaaGreatDoor

/- append of a slice that may be nil or empty, onto a slice of the call's own: laws for the walk. -/
namespace Go.Proofs.YtmikfmcgddmplaaGreatDoor
open Go.RowKit

section
variable {P : Program} (w : World)
theorem run_app_none (base : Nat) (t ty e : TypeId) (i : TypeInfo) (size : Nat) (ht : P.underlying t = some (.slice e)) (hi : P.info? e = some i)
    (v : Value) (n c : Nat) (xs : List Value) (hown : w.ownsRow base e size v n xs) :
    (Builtin.append_ #[t, t] ty #[v, .slice none 0 c]).run P w = .ok v w := by
  rcases hown.2 with ⟨rfl, rfl⟩ | ⟨g, cap, cur, rfl, _, _, hnc, _⟩
  · simp [Builtin.append_, run_underlying ht, sizeOf, typeInfo, hi, Builtin.lenOf, Builtin.firstCells]
  · simp [Builtin.append_, run_underlying ht, sizeOf, typeInfo, hi, Builtin.lenOf, Builtin.firstCells, hnc, storeCells]
/-- what a slice that is appended holds: m elements, news -/
def News (A : Option Addr) (m : Nat) (news : List Value) : Prop := (A = none → m = 0) ∧ ∀ ad, A = some ad → ∀ j u, news[j]? = some u → w.cell? (ad.add j) = some u
theorem run_app (t ty : TypeId) (base : Nat) (e : TypeId) (i : TypeInfo) (z : Value) (size bytes : Nat) (ht : P.underlying t = some (.slice e)) (hi : P.info? e = some i) (hz : i.zero = some z)
    (hsize : i.size = size) (hby : i.bytes = bytes) (hzs : z.cells.size = size) (hsz : 0 < size)
    (v : Value) (n : Nat) (xs : List Value) (hown : w.ownsRow base e size v n xs)
    (A : Option Addr) (m c : Nat) (news : List Value) (hl : news.length = m * size) (hnews : News w A m news) (h1 : ∀ u ∈ news, u.oneCell' = true)
    (h63 : n + m ≤ maxLen) (hbytes : (n + m) * bytes ≤ 140737488355328) (hbase : base ≤ w.heap.size) :
    ∃ v' w', (Builtin.append_ #[t, t] ty #[v, .slice A m c]).run P w = .ok v' w' ∧ w'.ownsRow base e size v' (n + m) (xs ++ news) ∧ w.grownBy w' v.ownBlock := by
  cases A with
  | none =>
    obtain rfl := hnews.1 rfl
    have e0 : news = [] := List.eq_nil_of_length_eq_zero (by rw [hl]; omega)
    subst e0
    exact ⟨v, w, run_app_none w base t ty e i size ht hi v n c xs hown, by rw [List.append_nil]; exact hown, World.grownBy.refl _ _⟩
  | some ad =>
    obtain ⟨v', w', h2, h3, h4, _⟩ := run_append_own_at (P := P) w base t ty e i z size bytes ht hi hz hsize hby hzs hsz v n xs hown ad m c news hl (hnews.2 ad rfl) h1 h63 hbytes hbase
    exact ⟨v', w', h2, h3, h4⟩
theorem wp_app {o : Oper} {a : Act} {K : Act → World → Prop} {Q : Exit → Act → World → Prop} (s x : Operand) (t : TypeId)
    (ho : o.op = .call { callee := .builtin .append, args := #[s, x], argTypes := #[t, t] })
    (base : Nat) (e : TypeId) (i : TypeInfo) (z : Value) (size bytes : Nat) (ht : P.underlying t = some (.slice e)) (hi : P.info? e = some i) (hz : i.zero = some z)
    (hsize : i.size = size) (hby : i.bytes = bytes) (hzs : z.cells.size = size) (hsz : 0 < size)
    (v : Value) (n : Nat) (xs : List Value) (hs : a.eval s = v) (hown : w.ownsRow base e size v n xs)
    (A : Option Addr) (m c : Nat) (news : List Value) (hx : a.eval x = .slice A m c) (hl : news.length = m * size) (hnews : News w A m news) (h1 : ∀ u ∈ news, u.oneCell' = true)
    (h63 : n + m ≤ maxLen) (hbytes : (n + m) * bytes ≤ 140737488355328) (hbase : base ≤ w.heap.size)
    (h : ∀ v' w', w'.ownsRow base e size v' (n + m) (xs ++ news) → w.grownBy w' v.ownBlock → K (a.put o.dst v') w') : o.wp P a w K Q := by
  obtain ⟨v', w', hr, h2, h3⟩ := run_app (P := P) w t o.type base e i z size bytes ht hi hz hsize hby hzs hsz v n xs hown A m c news hl hnews h1 h63 hbytes hbase
  unfold Oper.wp execOp
  simp only [ho, resolve, invoke, builtin, Sem.run_bind, Sem.run_pure, Result.andThen_ok, List.map_toArray, List.map_cons, List.map_nil, hs, hx, hr]
  exact h v' w' h2 h3
theorem wpList_app {ops : Array Oper} {rest : List Oper} {o : Oper} {a : Act} {Q : Exit → Act → World → Prop} (hgd : o.guard = none) (s x : Operand) (t : TypeId)
    (ho : o.op = .call { callee := .builtin .append, args := #[s, x], argTypes := #[t, t] })
    (base : Nat) (e : TypeId) (i : TypeInfo) (z : Value) (size bytes : Nat) (ht : P.underlying t = some (.slice e)) (hi : P.info? e = some i) (hz : i.zero = some z)
    (hsize : i.size = size) (hby : i.bytes = bytes) (hzs : z.cells.size = size) (hsz : 0 < size)
    (v : Value) (n : Nat) (xs : List Value) (hs : a.eval s = v) (hown : w.ownsRow base e size v n xs)
    (A : Option Addr) (m c : Nat) (news : List Value) (hx : a.eval x = .slice A m c) (hl : news.length = m * size) (hnews : News w A m news) (h1 : ∀ u ∈ news, u.oneCell' = true)
    (h63 : n + m ≤ maxLen) (hbytes : (n + m) * bytes ≤ 140737488355328) (hbase : base ≤ w.heap.size)
    (h : ∀ v' w', w'.ownsRow base e size v' (n + m) (xs ++ news) → w.grownBy w' v.ownBlock → wpList P ops Q rest (a.put o.dst v') w') : wpList P ops Q (o :: rest) a w :=
  wpList_plain hgd fun _ hK => wp_app w s x t ho base e i z size bytes ht hi hz hsize hby hzs hsz v n xs hs hown A m c news hx hl hnews h1 h63 hbytes hbase fun v' w' h2 h3 => hK _ _ (h v' w' h2 h3)
/-- at a step of a region that draws -/
theorem step_app {ops : Array Oper} {o : Oper} {a : Act} {K : Act → World → Prop} {Q : Exit → Act → World → Prop} {E : Prop} (hgd : o.guard = none) (s x : Operand) (t : TypeId)
    (ho : o.op = .call { callee := .builtin .append, args := #[s, x], argTypes := #[t, t] })
    (base : Nat) (e : TypeId) (i : TypeInfo) (z : Value) (size bytes : Nat) (ht : P.underlying t = some (.slice e)) (hi : P.info? e = some i) (hz : i.zero = some z)
    (hsize : i.size = size) (hby : i.bytes = bytes) (hzs : z.cells.size = size) (hsz : 0 < size)
    (v : Value) (n : Nat) (xs : List Value) (hs : a.eval s = v) (hown : w.ownsRow base e size v n xs)
    (A : Option Addr) (m c : Nat) (news : List Value) (hx : a.eval x = .slice A m c) (hl : news.length = m * size) (hnews : News w A m news) (h1 : ∀ u ∈ news, u.oneCell' = true)
    (h63 : n + m ≤ maxLen) (hbytes : (n + m) * bytes ≤ 140737488355328) (hbase : base ≤ w.heap.size)
    (h : ∀ v' w', w'.ownsRow base e size v' (n + m) (xs ++ news) → w.grownBy w' v.ownBlock → K (a.put o.dst v') w') :
    if Region.wanted o (yielded ops a.tmps) = true then Oper.wp P o a w K Q else E := by
  have hw : Region.wanted o (yielded ops a.tmps) = true := by simp [Region.wanted, hgd]
  rw [if_pos hw]
  exact wp_app w s x t ho base e i z size bytes ht hi hz hsize hby hzs hsz v n xs hs hown A m c news hx hl hnews h1 h63 hbytes hbase h
end
theorem sv_one (T : List ByteArray) : ∀ u ∈ T.map sv, u.oneCell' = true := fun u hu => by
  obtain ⟨x, _, rfl⟩ := List.mem_map.1 hu
  rfl
theorem ent_one : ∀ (L : List Ent), ∀ u ∈ entCells L, u.oneCell' = true
  | [], u, hu => by simp [entCells] at hu
  | e :: L, u, hu => by
    simp only [entCells, List.mem_cons] at hu
    rcases hu with rfl | rfl | rfl | hu
    · rfl
    · rfl
    · rfl
    · exact ent_one L u hu
theorem own_nil (w : World) (base : Nat) (e : TypeId) (size : Nat) : w.ownsRow base e size (.slice none 0 0) 0 [] := ⟨by simp, .inl ⟨rfl, rfl⟩⟩
theorem Txs.news {w : World} {B : Nat} {A : Option Addr} {T : List ByteArray} (h : Txs w B A T) : News w A T.length (T.map sv) := by
  refine ⟨fun e => ?_, fun ad e j u hu => ?_⟩
  · cases T with
    | nil => rfl
    | cons x T =>
      obtain ⟨ad, e1, _⟩ := h 0 x rfl
      rw [e] at e1; cases e1
  · rw [List.getElem?_map] at hu
    cases hx : T[j]? with
    | none => rw [hx] at hu; cases hu
    | some x =>
      rw [hx] at hu
      obtain ⟨ad', e1, _, h2⟩ := h j x hx
      rw [e] at e1; cases e1
      rw [h2]; exact hu
theorem add_add (ad : Addr) (j k : Nat) (hk : k ≠ 0) : ad.add (j + k) = ⟨(ad.add j).block, (ad.add j).off + k, none⟩ := by
  unfold Addr.add
  rw [if_neg (by omega)]
  split
  · subst_vars; simp
  · simp [Nat.add_assoc]
theorem entCells_get : ∀ (L : List Ent) (j : Nat) (u : Value), (entCells L)[j]? = some u → ∃ x, L[j / 3]? = some x ∧ ((j % 3 = 0 ∧ u = .string x.name) ∨ (j % 3 = 1 ∧ u = .bool x.dir) ∨ (j % 3 = 2 ∧ u = .string x.id))
  | [], j, u, h => by simp [entCells] at h
  | e :: L, 0, u, h => by simp [entCells] at h; exact ⟨e, rfl, .inl ⟨rfl, h.symm⟩⟩
  | e :: L, 1, u, h => by simp [entCells] at h; exact ⟨e, rfl, .inr (.inl ⟨rfl, h.symm⟩)⟩
  | e :: L, 2, u, h => by simp [entCells] at h; exact ⟨e, rfl, .inr (.inr ⟨rfl, h.symm⟩)⟩
  | e :: L, j + 3, u, h => by
    have h2 : (entCells L)[j]? = some u := h
    obtain ⟨x, h3, h4⟩ := entCells_get L j u h2
    refine ⟨x, ?_, ?_⟩
    · rw [show (j + 3) / 3 = j / 3 + 1 from by omega, List.getElem?_cons_succ]; exact h3
    · rw [show (j + 3) % 3 = j % 3 from by omega]; exact h4
theorem Ens.news {w : World} {B : Nat} {A : Option Addr} {L : List Ent} (h : Ens w B A L) : News w A L.length (entCells L) := by
  refine ⟨fun e => ?_, fun ad e j u hu => ?_⟩
  · cases L with
    | nil => rfl
    | cons x T =>
      obtain ⟨ad, e1, _⟩ := h 0 x rfl
      rw [e] at e1; cases e1
  · obtain ⟨x, h1, h2⟩ := entCells_get L j u hu
    obtain ⟨ad', e1, _, k0, k1, k2⟩ := h (j / 3) x h1
    rw [e] at e1; cases e1
    rcases h2 with ⟨hm, rfl⟩ | ⟨hm, rfl⟩ | ⟨hm, rfl⟩
    · rw [show j = j / 3 * 3 from by omega]; exact k0
    · rw [show j = j / 3 * 3 + 1 from by omega, add_add _ _ _ (by decide)]; exact k1
    · rw [show j = j / 3 * 3 + 2 from by omega, add_add _ _ _ (by decide)]; exact k2
end Go.Proofs.YtmikfmcgddmplaaGreatDoor
