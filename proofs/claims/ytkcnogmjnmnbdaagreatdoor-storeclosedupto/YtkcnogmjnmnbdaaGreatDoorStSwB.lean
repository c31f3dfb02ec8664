/- Texts in one: StSwA, StSwB. -/
import Derived.Test.YtkcnogmjnmnbdaaGreatDoorStBack
import Derived.Test.YtkcnogmjnmnbdaaGreatDoorBw
/- An id appended to a row of ids: all that the row's block holds are texts of at most 32 bytes. -/
namespace Go.Proofs.YtkcnogmjnmnbdaaGreatDoor
open Go.RowKit

/-- all texts in the block of a row are short -/
def Sml (W : World) (v : Value) : Prop := ∀ g, v.ownBlock = some g → ∀ cs e fz, W.heap[g]? = some (.cells cs e fz) → ∀ t, Value.string t ∈ cs.toList → t.size ≤ 32
theorem Sml.nil (W : World) : Sml W (.slice none 0 0) := fun g h => by cases h
theorem zero_str {n : Nat} {u : Value} (h : u ∈ (Builtin.zeroCells #[Value.string ⟨#[]⟩] n).toList) : u = .string ⟨#[]⟩ := by
  simp only [Builtin.zeroCells, Array.toList_map, List.mem_map] at h
  obtain ⟨i, _, rfl⟩ := h
  have : i % 1 = 0 := Nat.mod_one i
  simp only [List.size_toArray, List.length_singleton, this]
  rfl
theorem sml_new {l : List Value} {n : Nat} (hl : ∀ t, Value.string t ∈ l → t.size ≤ 32) : ∀ t, Value.string t ∈ (l.toArray ++ Builtin.zeroCells #[Value.string ⟨#[]⟩] n).toList → t.size ≤ 32 := fun t ht => by
  rw [Array.toList_append] at ht
  rcases List.mem_append.1 ht with h | h
  · exact hl t h
  · have := zero_str h
    simp only [Value.string.injEq] at this
    rw [this]
    exact Nat.zero_le _
theorem run_app_id (W : World) (base : Nat) (ty : TypeId) (v : Value) (I : List ByteArray) (h : W.ownsRow base 9 1 v I.length (I.map sv)) (hs : Sml W v) (hi : ∀ t ∈ I, t.size ≤ 32) (ad : Addr) (c : Nat) (id : ByteArray) (hid : id.size ≤ 32)
    (hc : W.cell? ad = some (.string id)) (hl : I.length ≤ 1000) (hb : base ≤ W.heap.size) :
    ∃ g3 cap3 w3, (Builtin.append_ #[22, 22] ty #[v, .slice (some ad) 1 c]).run Tryz.prog W = .ok (.slice (some ⟨g3, 0, none⟩) (I.length + 1) cap3) w3 ∧
      w3.ownsRow base 9 1 (.slice (some ⟨g3, 0, none⟩) (I.length + 1) cap3) (I.length + 1) (I.map sv ++ [.string id]) ∧ W.grownBy w3 v.ownBlock ∧ Sml w3 (.slice (some ⟨g3, 0, none⟩) (I.length + 1) cap3) ∧ (v.ownBlock = some g3 ∨ g3 = W.heap.size) := by
  obtain ⟨si, hsi, sz0, sz1, sz2⟩ := info_parts info_str
  have hn : ∀ j u, [Value.string id][j]? = some u → W.cell? (ad.add j) = some u := fun j u hj => by
    match j, hj with
    | 0, hj => simp at hj; subst hj; simpa [Addr.add] using hc
    | j + 1, hj => simp at hj
  have hI : ∀ t, Value.string t ∈ I.map sv → t.size ≤ 32 := fun t ht => by
    obtain ⟨x, hx, e⟩ := List.mem_map.1 ht
    simp only [sv, Value.string.injEq] at e
    rw [← e]
    exact hi x hx
  have hlen : (I.map sv ++ [Value.string id]).length = (I.length + 1) * 1 := by simp
  have hll : (I.map sv).length = I.length := List.length_map _
  rcases h.2 with ⟨rfl, h0⟩ | ⟨g, cap, cur, rfl, hbg, hg, hnc, hcm, hcs, htake⟩
  · obtain rfl : I = [] := List.eq_nil_of_length_eq_zero h0
    have hr := run_append_nil (P := Tryz.prog) W 22 ty 9 si _ Tryz.underlying22 hsi sz0 ad 1 c [.string id] (by rw [sz1]; rfl) hn (by decide) (by decide) (by rw [sz2]; decide)
    have hge := grownCap_ge W 1 0 9
    have hcm : grownCap W 1 0 9 ≤ maxLen := grownCap_le_maxLen W 1 0 9 (by unfold maxLen; omega)
    generalize grownCap W 1 0 9 = cap at *
    refine ⟨_, _, _, hr, ⟨hlen, .inr ⟨W.heap.size, _, _, rfl, hb, heap_alloc_new W.drew _, by simpa using hge, hcm, ?_, ?_⟩⟩, gb_below (((Below.refl _ W).drew).alloc (Nat.le_refl _) _), fun g' hg' cs e fz hcs t ht => ?_, .inr rfl⟩
    · rw [Array.size_append, size_zeroCells]
      show 1 + (cap - 1) * 1 = cap * 1
      omega
    · rw [Array.toList_append]
      exact List.take_left' rfl
    · cases hg'
      have e2 := hcs.symm.trans (heap_alloc_new W.drew _)
      cases e2
      exact sml_new (fun t ht => by simp at ht; rw [ht]; exact hid) t ht
  · by_cases hroom : I.length + 1 ≤ cap
    · have hfit : I.length * si.size + [Value.string id].length ≤ cur.size := by rw [sz1, hcs]; simp; omega
      have hr := run_append_room (P := Tryz.prog) W 22 ty 9 si Tryz.underlying22 hsi g I.length cap cur hg ad 1 c [.string id] (by rw [sz1]; rfl) hn (by simp [Value.oneCell']) hroom hfit
      rw [sz1] at hr hfit
      refine ⟨_, _, _, hr, ⟨hlen, .inr ⟨g, cap, _, rfl, hbg, setRow_heap W g cur _ 9 _ hg, hroom, hcm, ?_, ?_⟩⟩, ⟨rfl, rfl, rfl, by simp, fun k _ hk => setRow_other W g k _ (fun e => hk (by simp [Value.ownBlock, e]))⟩, fun g' hg' cs e fz hcs' t ht => ?_, .inl rfl⟩
      · simp only [List.size_toArray, List.length_append, List.length_take, List.length_drop, Array.length_toList]
        omega
      · rw [List.toList_toArray, htake, ← hlen]
        exact List.take_left
      · cases hg'
        have e2 := hcs'.symm.trans (setRow_heap W g cur _ 9 _ hg)
        cases e2
        rw [List.toList_toArray, htake] at ht
        rcases List.mem_append.1 ht with h1 | h1
        · rcases List.mem_append.1 h1 with h2 | h2
          · exact hI t h2
          · simp at h2; rw [h2]; exact hid
        · exact hs g rfl cur _ _ hg t (List.mem_of_mem_drop h1)
    · have holds : ∀ j u, (I.map sv)[j]? = some u → W.cell? ((⟨g, 0, none⟩ : Addr).add j) = some u := h.cells (g := g) rfl
      have hr := run_append_grow (P := Tryz.prog) W 22 ty 9 si _ Tryz.underlying22 hsi sz0 ⟨g, 0, none⟩ I.length cap (I.map sv) (by rw [sz1, hll, Nat.mul_one]) holds ad 1 c [.string id] (by rw [sz1]; rfl) hn (by omega) (by omega) (growslice_fits (by omega) (by rw [sz2]; omega))
      have hge := grownCap_ge W (I.length + 1) cap 9
      have hcm : grownCap W (I.length + 1) cap 9 ≤ maxLen := grownCap_le_maxLen W (I.length + 1) cap 9 (by unfold maxLen; omega)
      generalize grownCap W (I.length + 1) cap 9 = cap' at *
      refine ⟨_, _, _, hr, ⟨hlen, .inr ⟨W.heap.size, _, _, rfl, hb, heap_alloc_new W.drew _, hge, hcm, ?_, ?_⟩⟩, gb_below (((Below.refl _ W).drew).alloc (Nat.le_refl _) _), fun g' hg' cs e fz hcs' t ht => ?_, .inr rfl⟩
      · rw [Array.size_append, Array.size_append, size_zeroCells]
        show (I.map sv).length + 1 + (cap' - (I.length + 1)) * 1 = cap' * 1
        rw [hll]
        omega
      · rw [Array.toList_append, Array.toList_append, ← hlen]
        exact List.take_left
      · cases hg'
        have e2 := hcs'.symm.trans (heap_alloc_new W.drew _)
        cases e2
        rw [show (I.map sv).toArray ++ [Value.string id].toArray = (I.map sv ++ [Value.string id]).toArray from by simp] at ht
        exact sml_new (fun t ht => by
          rcases List.mem_append.1 ht with h1 | h1
          · exact hI t h1
          · simp at h1; rw [h1]; exact hid) t ht
end Go.Proofs.YtkcnogmjnmnbdaaGreatDoor

/- The first loop of keep.StoreSwept and keep.StoreClosed: a disk that objects are put on, and their ids: what memory holds. -/
namespace Go.Proofs.YtkcnogmjnmnbdaaGreatDoor
open Go.RowKit

section
variable {P : Program}
theorem step_app_is {ops : Array Oper} {o : Oper} {a : Act} {w : World} {K : Act → World → Prop} {Q : Exit → Act → World → Prop} {E : Prop}
    (hg : o.guard = none) (d x : Operand) (dT sT : TypeId) (hop : o.op = Op.call { callee := Callee.builtin Builtin.append, args := #[d, x], argTypes := #[dT, sT] })
    (v u : Value) (hd : a.eval d = v) (hx : a.eval x = u) {v' : Value} {w' : World} (hr : (Builtin.append_ #[dT, sT] o.type #[v, u]).run P w = .ok v' w') (hK : K (a.put o.dst v') w') :
    if Region.wanted o (yielded ops a.tmps) = true then Oper.wp P o a w K Q else E := by
  have hw : Region.wanted o (yielded ops a.tmps) = true := by simp [Region.wanted, hg]
  rw [if_pos hw]
  unfold Oper.wp
  simp [execOp, hop, resolve, invoke, builtin, hd, hx, hr, Result.andThen]
  exact hK
end
/-- no file's name is as short as an id -/
def NmL (M : List Fl) : Prop := ∀ f ∈ M, 33 ≤ f.name.size
theorem nm_put {f : Fl} {M : List Fl} (h : NmL M) (hf : 33 ≤ f.name.size) : NmL (putL f M) := fun g hg => by
  rcases put_mem f g M hg with rfl | hg
  · exact hf
  · exact h g hg
theorem nm_del {n : ByteArray} {M : List Fl} (h : NmL M) : NmL (del n M) := fun g hg => h g (List.mem_filter.1 hg).1
theorem nm_step {d : Dk} {r : Except Int (List Fl)} (h : NmL d.files) (hr : ∀ L, r = .ok L → NmL L) : NmL (stepP d r).1.files := by
  unfold stepP
  split
  · exact h
  · split
    · exact h
    · cases r with
      | error e => exact h
      | ok L => exact hr L rfl
theorem nm_then {r : Dk × Int} {f : Dk → Dk × Int} (h : NmL r.1.files) (hf : ∀ d : Dk, NmL d.files → NmL (f d).1.files) : NmL (thenD r f).1.files := by
  unfold thenD
  split
  · exact h
  · exact hf _ h
theorem nm_save {d : Dk} {n s : ByteArray} (h : NmL d.files) (hn : 33 ≤ n.size) : NmL (saveD d n s).1.files := by
  have hn2 : 33 ≤ (newN n).size := by unfold newN; rw [ByteArray.size_append]; omega
  have hg : ∀ {m : ByteArray} {L : List Fl} {f : Fl}, getF m L = some f → f ∈ L ∧ f.name = m := fun h => ⟨(getF_name h).2, (getF_name h).1⟩
  unfold saveD
  split
  · exact h
  · split
    · exact h
    · refine nm_then (nm_then (nm_then ?_ fun d hd => ?_) fun d hd => ?_) fun d hd => ?_
      · split
        · refine nm_step h fun L hL => ?_
          unfold rmP at hL
          split at hL
          · cases hL
          · cases hL; exact nm_del h
        · exact h
      · refine nm_step hd fun L hL => ?_
        unfold wrP at hL
        split at hL
        · cases hL
        · split at hL
          · split at hL
            · cases hL
            · split at hL
              · cases hL
              · cases hL; exact nm_put hd hn2
          · split at hL
            · cases hL
            · cases hL; exact nm_put hd hn2
      · refine nm_step hd fun L hL => ?_
        unfold syP at hL
        split at hL
        · cases hL
        · cases hL
          exact nm_put hd hn2
      · refine nm_step hd fun L hL => ?_
        unfold rnP at hL
        split at hL
        · cases hL
        · split at hL
          · cases hL
          · cases hL
            exact nm_put (nm_del hd) hn
theorem nm_putO {d : Dk} {s : ByteArray} (h : NmL d.files) : NmL (putO d s).1.files := by
  have hs := nm_save (n := fileN (sumB s)) (s := s) h (by rw [fileN_size (sumB_size s)]; omega)
  unfold putO
  split
  · exact h
  · split
    · exact h
    · split
      · exact hs
      · exact hs
/-- a good disk in its block, and the ids -/
def Sq (w : World) (M : List Fl) (A : Option Addr) (c : Nat) (y : Int) (I : List ByteArray) (v : Value) (W : World) : Prop :=
  Arr W w.heap.size 37 (dkArr M A c y) ∧ Fls W W.heap.size A M ∧ W.ownsRow (w.heap.size + 1) 9 1 v I.length (I.map sv) ∧ Sml W v ∧ Below w.heap.size w W
/-- the same, and the next disk in its own -/
def Sn (w : World) (M M' : List Fl) (A A' : Option Addr) (c c' : Nat) (y y' : Int) (I : List ByteArray) (v : Value) (g : Nat) (W : World) : Prop :=
  Sq w M A c y I v W ∧ Arr W g 37 (dkArr M' A' c' y') ∧ Fls W W.heap.size A' M' ∧ w.heap.size < g
theorem sml_kept {W W' : World} {base size n : Nat} {e : TypeId} {v : Value} {xs : List Value} {r : Option Nat} (h : W.ownsRow base e size v n xs) (hs : Sml W v) (k : W.grownBy W' r) (hr : ∀ g, v.ownBlock = some g → some g ≠ r) : Sml W' v := fun g hg cs e fz hc => by
  have hlt := h.lt g hg
  rw [k.block g hlt.2 (hr g hg)] at hc
  exact hs g hg cs e fz hc
theorem Sq.below {w : World} {M : List Fl} {A : Option Addr} {c : Nat} {y : Int} {I : List ByteArray} {v : Value} {W W' : World} (h : Sq w M A c y I v W) (b : Below W.heap.size W W') : Sq w M A c y I v W' :=
  ⟨h.1.below b h.1.lt, h.2.1.up b, own_kp h.2.2.1 (Kp.bel b (X := fun _ => False)) (fun _ _ e => e), sml_kept h.2.2.1 h.2.2.2.1 (gb_below b (r := none)) (fun g _ e => by cases e), h.2.2.2.2.trans (b.mono h.2.2.2.2.size)⟩
theorem Sn.below {w : World} {M M' : List Fl} {A A' : Option Addr} {c c' : Nat} {y y' : Int} {I : List ByteArray} {v : Value} {g : Nat} {W W' : World} (h : Sn w M M' A A' c c' y y' I v g W) (b : Below W.heap.size W W') : Sn w M M' A A' c c' y y' I v g W' :=
  ⟨h.1.below b, h.2.1.below b h.2.1.lt, h.2.2.1.up b, h.2.2.2⟩
theorem Sq.late {w V : World} {M M' : List Fl} {A A' : Option Addr} {c c' : Nat} {y y' : Int} {I : List ByteArray} {v : Value} (h : Sq w M A c y I v V) (hF : Fls V V.heap.size A' M') (W' : World) (e : W' = V.alloc (.cells #[.slice A' M'.length c', .int .i64 y'] 37)) : Sn w M M' A A' c c' y y' I v V.heap.size W' := by
  subst e
  have b1 : Below V.heap.size V (V.alloc (.cells #[.slice A' M'.length c', .int .i64 y'] 37)) := (Below.refl _ _).alloc (Nat.le_refl _) _
  exact ⟨h.below b1, Arr.new _ _ _, hF.up b1, h.1.lt⟩
/-- a block of a disk, set: what else is held is as it was -/
theorem Sq.other {w V W' : World} {M : List Fl} {A : Option Addr} {c : Nat} {y : Int} {I : List ByteArray} {v : Value} {q : Nat} (h : Sq w M A c y I v V) (hA : Arr V q 37 dkZero) (hq : w.heap.size < q) (k : V.grownBy W' (some q)) (hf : Fls W' W'.heap.size A M) : Sq w M A c y I v W' :=
  have hne : ∀ g, v.ownBlock = some g → some g ≠ some q := fun g hg e => own_ne h.2.2.1 hA (by decide) (by rw [hg]; exact e)
  ⟨h.1.kept k (fun e => by cases e; omega), hf, own_kp h.2.2.1 (Kp.gb k) (fun g hg e => hne g hg e.symm), sml_kept h.2.2.1 h.2.2.2.1 k hne, below_gb h.2.2.2.2 k (by omega) h.2.2.2.2.size⟩
theorem Sq.early {w V : World} {M M' : List Fl} {A A' : Option Addr} {c c' : Nat} {y y' : Int} {I : List ByteArray} {v : Value} {q : Nat} (h : Sq w M A c y I v V) (hF : Fls V V.heap.size A' M') (hA : Arr V q 37 dkZero) (hq : w.heap.size < q) (W' : World) (e : W' = (V.setCell ⟨q, 0, none⟩ (.slice A' M'.length c')).setCell ⟨q, 1, none⟩ (.int .i64 y')) : Sn w M M' A A' c c' y y' I v q W' := by
  subst e
  have k : V.grownBy ((V.setCell ⟨q, 0, none⟩ (.slice A' M'.length c')).setCell ⟨q, 1, none⟩ (.int .i64 y')) (some q) := gb_trans (gb_set _ _ _) (gb_set _ _ _)
  exact ⟨h.other hA hq k (fls_two h.2.1 hA), (hA.put 0 (.slice A' M'.length c')).put 1 (.int .i64 y'), fls_two hF hA, hq⟩
/-- files lie apart from a row of ids -/
theorem fls_apart {W w3 : World} {A : Option Addr} {M : List Fl} {v : Value} {base n : Nat} {xs : List Value} (hF : Fls W W.heap.size A M) (hM : NmL M) (o : W.ownsRow base 9 1 v n xs) (hs : Sml W v) (k : W.grownBy w3 v.ownBlock) : Fls w3 w3.heap.size A M := fun j x hx => by
  obtain ⟨ad, e, hbk, h0, h1, h2⟩ := hF j x hx
  have hn : ¬ some (ad.add (j * 3)).block = v.ownBlock := fun e => by
    rcases o.2 with ⟨rfl, _⟩ | ⟨g, cap, cur, rfl, _, hg, _⟩
    · cases e
    · have e2 : (ad.add (j * 3)).block = g := Option.some.inj e
      have h3 : Value.string x.name ∈ cur.toList := by
        simp only [World.cell?, e2, hg] at h0
        split at h0
        · cases h0
        · exact Array.mem_toList_iff.2 (Array.mem_of_getElem? h0)
      have := hs g rfl cur _ _ hg x.name h3
      have := hM x (List.mem_of_getElem? hx)
      omega
  exact ⟨ad, e, Nat.lt_of_lt_of_le hbk k.size, k.cell h0 hn, k.cell h1 hn, k.cell h2 hn⟩
/-- behind an append of an id, and a store of the next disk into the disk -/
theorem Sn.next {w W w3 : World} {M M' : List Fl} {A A' : Option Addr} {c c' : Nat} {y y' : Int} {I : List ByteArray} {v : Value} {g : Nat} {id : ByteArray} (h : Sn w M M' A A' c c' y y' I v g W) (hM : NmL M') {g3 cap3 : Nat}
    (hown : w3.ownsRow (w.heap.size + 1) 9 1 (.slice (some ⟨g3, 0, none⟩) (I.length + 1) cap3) (I.length + 1) (I.map sv ++ [.string id])) (hg : W.grownBy w3 v.ownBlock) (hs3 : Sml w3 (.slice (some ⟨g3, 0, none⟩) (I.length + 1) cap3)) (W' : World)
    (e : W' = (w3.setCell ⟨w.heap.size, 0, none⟩ (.slice A' M'.length c')).setCell ⟨w.heap.size, 1, none⟩ (.int .i64 y')) : Sq w M' A' c' y' (I ++ [id]) (.slice (some ⟨g3, 0, none⟩) (I.length + 1) cap3) W' := by
  subst e
  obtain ⟨⟨h1, f1, o, s, b0⟩, h2, f2, hgq⟩ := h
  have k : w3.grownBy ((w3.setCell ⟨w.heap.size, 0, none⟩ (.slice A' M'.length c')).setCell ⟨w.heap.size, 1, none⟩ (.int .i64 y')) (some w.heap.size) := gb_trans (gb_set _ _ _) (gb_set _ _ _)
  have hne : ∀ q, v.ownBlock = some q → w.heap.size < q := fun q hq => own_row_ge o q hq
  have A3 : Arr w3 w.heap.size 37 (dkArr M A c y) := h1.kept hg (fun e => by have := hne _ e.symm; omega)
  have F3 : Fls w3 w3.heap.size A' M' := fls_apart f2 hM o s hg
  have hg3 : w.heap.size < g3 := own_row_ge hown g3 rfl
  have hne3 : ∀ q, (Value.slice (some ⟨g3, 0, none⟩) (I.length + 1) cap3).ownBlock = some q → some q ≠ some w.heap.size := fun q hq e => by
    have h1 : g3 = q := Option.some.inj hq
    have := Option.some.inj e
    omega
  refine ⟨(A3.put 0 (.slice A' M'.length c')).put 1 (.int .i64 y'), fun j x hx => ?_, ?_, sml_kept hown hs3 k hne3, below_gb (b0.trans ((Below.refl w.heap.size W).grown hg b0.size (fun q hq => by have := hne q hq; omega))) k (Nat.le_refl _) (Nat.le_trans b0.size hg.size)⟩
  · obtain ⟨ad, e, hbk, h0, h1', h2'⟩ := F3 j x hx
    have hn : ¬ some (ad.add (j * 3)).block = some w.heap.size := fun e => by
      have e2 := Option.some.inj e
      have q0 : (ad.add (j * 3)) = ⟨w.heap.size, (ad.add (j * 3)).off, (ad.add (j * 3)).spot⟩ := by rw [← e2]
      rw [e2, A3.cell] at h1'
      have : ∀ (i : Nat) (t : ByteArray), (dkArr M A c y)[i]? ≠ some (.string t) := fun i t => by
        match i with
        | 0 => simp [dkArr]
        | 1 => simp [dkArr]
        | i + 2 => simp [dkArr]
      exact this _ _ h1'
    exact ⟨ad, e, Nat.lt_of_lt_of_le hbk k.size, k.cell h0 hn, k.cell h1' hn, k.cell h2' hn⟩
  · rw [List.length_append, List.map_append]
    exact own_kp hown (Kp.gb k) (fun q hq e => hne3 q hq (by rw [e]))
end Go.Proofs.YtkcnogmjnmnbdaaGreatDoor
