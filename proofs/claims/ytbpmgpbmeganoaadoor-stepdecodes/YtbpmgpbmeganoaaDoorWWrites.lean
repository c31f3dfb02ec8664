/- law.WireWrites: the walk. -/
import Derived.Test.YtbpmgpbmeganoaaDoorWDone
import Derived.Test.YtbpmgpbmeganoaaDoorWLaw
namespace Go.Proofs.YtbpmgpbmeganoaaDoor
open Go.RowKit

/-- a put of a writer: its kind, its number, its text -/
abbrev PutT := Int × Int × ByteArray
/-- the puts that a slice holds -/
def PutsIn (w : World) (B : Nat) (A : Option Addr) (L : List PutT) : Prop :=
  ∀ k x, L[k]? = some x → ∃ ad, A = some ad ∧ (ad.add (k * 3)).block < B ∧ w.cell? (ad.add (k * 3)) = some (.int .i64 x.1) ∧
    w.cell? ⟨(ad.add (k * 3)).block, (ad.add (k * 3)).off + 1, none⟩ = some (.int .i64 x.2.1) ∧ w.cell? ⟨(ad.add (k * 3)).block, (ad.add (k * 3)).off + 2, none⟩ = some (.string x.2.2)

/-- a writer that holds these bytes, or this error -/
def Inv (w : World) (g : Nat) (s : ByteArray) (e : Int) : Prop := (e = 0 ∧ ∃ ps, WOk w g ps ∧ s = bs (cat ps)) ∨ ((e != 0) = true ∧ WBad w g e)
theorem Inv.arr {w : World} {g : Nat} {s : ByteArray} {e : Int} (h : Inv w g s e) : ∃ cs, Arr w g 60 cs := by
  rcases h with ⟨_, ps, ⟨v, ha, _⟩, _⟩ | ⟨_, v, n, ha⟩
  · exact ⟨_, ha⟩
  · exact ⟨_, ha⟩
theorem Inv.below {w w' : World} {g : Nat} {s : ByteArray} {e : Int} (h : Inv w g s e) (k : Below w.heap.size w w') : Inv w' g s e := by
  rcases h with ⟨h0, ps, h1, h2⟩ | ⟨h0, h1⟩
  · exact .inl ⟨h0, ps, h1.below k, h2⟩
  · exact .inr ⟨h0, h1.below k⟩
def Stepped (w : World) (g : Nat) (s : ByteArray) (e : Int) (x : Ending) (w' : World) : Prop := x = .returned (.tuple #[]) ∧ Inv w' g s e ∧ w.grownBy w' (some g)

theorem append_empty (x : ByteArray) : x ++ (⟨#[]⟩ : ByteArray) = x := by
  apply ByteArray.ext
  simp
theorem cat_app (ps : List ByteArray) (x : ByteArray) : bs (cat ps) ++ x = bs (cat (x :: ps)) := by
  apply bytes_eq
  rw [append_list, bs_list, bs_list]
  rfl
theorem step_in (g : Nat) (s : ByteArray) (e : Int) (n : Nat) (hn : n < 4611686018427387904) (hs : s.size ≤ 281474976710656) (w : World) (h : Inv w g s e) :
    Calls Tryd.prog 38 #[.pointer (some ⟨g, 0, none⟩), .int .i64 (n : Int)] w (Stepped w g (s ++ bs (num n)) e) := by
  have C := putIs_yes ⟨#[]⟩ (by decide) n hn
  rw [empty_append] at C
  have hl := num_len9 n hn
  rcases h with ⟨rfl, ps, h1, rfl⟩ | ⟨h0, h1⟩
  · rw [bs_size] at hs
    refine (WNumber_ok g ps n _ C (by rw [bs_size]; omega) hs w h1).mono fun x w' ⟨q1, q2, q3⟩ => ⟨q1, .inl ⟨rfl, _, q2, cat_app _ _⟩, q3⟩
  · exact (WNumber_bad g n _ e 0 h0 C w h1).mono fun x w' ⟨q1, q2, q3⟩ => ⟨q1, .inr ⟨h0, q2⟩, q3⟩
theorem step_out (g : Nat) (s : ByteArray) (e : Int) (n : Int) (hn : n < 0 ∨ 4611686018427387904 ≤ n) (w : World) (h : Inv w g s e) :
    Calls Tryd.prog 38 #[.pointer (some ⟨g, 0, none⟩), .int .i64 n] w (Stepped w g s (if e = 0 then 3 else e)) := by
  have C := putIs_no ⟨#[]⟩ n hn
  rcases h with ⟨rfl, ps, h1, rfl⟩ | ⟨h0, h1⟩
  · exact (WNumber_err g ps n _ 3 (by decide) C w h1).mono fun x w' ⟨q1, q2, q3⟩ => ⟨q1, .inr ⟨by decide, q2⟩, q3⟩
  · have he : e ≠ 0 := by simpa using h0
    rw [if_neg he]
    exact (WNumber_bad g n _ e 3 h0 C w h1).mono fun x w' ⟨q1, q2, q3⟩ => ⟨q1, .inr ⟨h0, q2⟩, q3⟩
theorem step_text (g : Nat) (s : ByteArray) (e : Int) (t : ByteArray) (ht : t.size ≤ 4096) (hs : s.size ≤ 281474976710656) (w : World) (h : Inv w g s e) :
    Calls Tryd.prog 69 #[.pointer (some ⟨g, 0, none⟩), .string t] w (Stepped w g (s ++ (bs (num t.size) ++ t)) e) := by
  have C := putTextIs_yes ⟨#[]⟩ t (by decide) ht
  rw [empty_append] at C
  have hl := num_len9 t.size (by omega)
  rcases h with ⟨rfl, ps, h1, rfl⟩ | ⟨h0, h1⟩
  · rw [bs_size] at hs
    refine (WText_ok g ps t _ C (by rw [ByteArray.size_append, bs_size]; omega) hs w h1).mono fun x w' ⟨q1, q2, q3⟩ => ⟨q1, .inl ⟨rfl, _, q2, cat_app _ _⟩, q3⟩
  · exact (WText_bad g t _ e 0 h0 C w h1).mono fun x w' ⟨q1, q2, q3⟩ => ⟨q1, .inr ⟨h0, q2⟩, q3⟩
theorem step_long (g : Nat) (s s' : ByteArray) (e : Int) (t : ByteArray) (ht : 4096 < t.size) (w : World) (h : Inv w g s e) :
    Calls Tryd.prog 69 #[.pointer (some ⟨g, 0, none⟩), .string t] w (Stepped w g s' (if e = 0 then 1 else e)) := by
  have C := putTextIs_no ⟨#[]⟩ t ht
  rcases h with ⟨rfl, ps, h1, rfl⟩ | ⟨h0, h1⟩
  · exact (WText_err g ps t _ 1 (by decide) C w h1).mono fun x w' ⟨q1, q2, q3⟩ => ⟨q1, .inr ⟨by decide, q2⟩, q3⟩
  · have he : e ≠ 0 := by simpa using h0
    rw [if_neg he]
    exact (WText_bad g t _ e 1 h0 C w h1).mono fun x w' ⟨q1, q2, q3⟩ => ⟨q1, .inr ⟨h0, q2⟩, q3⟩
theorem step_bytes (g : Nat) (s : ByteArray) (e : Int) (t : ByteArray) (ht : t.size ≤ 281474976710656) (hs : s.size ≤ 281474976710656) (w : World) (h : Inv w g s e) :
    Calls Tryd.prog 39 #[.pointer (some ⟨g, 0, none⟩), .string t] w (Stepped w g (s ++ t) e) := by
  rcases h with ⟨rfl, ps, h1, rfl⟩ | ⟨h0, h1⟩
  · rw [bs_size] at hs
    exact (WBytes_ok g ps t ht hs w h1).mono fun x w' ⟨q1, q2, q3⟩ => ⟨q1, .inl ⟨rfl, _, q2, cat_app _ _⟩, q3⟩
  · exact (WBytes_bad g t e h0 w h1).mono fun x w' ⟨q1, q2, q3⟩ => ⟨q1, .inr ⟨h0, q2⟩, q3⟩
theorem step_done (g : Nat) (s : ByteArray) (e : Int) (hs : s.size ≤ 281474976710656) (w : World) (h : Inv w g s e) :
    Calls Tryd.prog 40 #[.pointer (some ⟨g, 0, none⟩)] w fun x w' => x = .returned (.tuple #[.string (if e = 0 then s else ⟨#[]⟩), .int .i64 e]) ∧ Below w.heap.size w w' := by
  rcases h with ⟨rfl, ps, h1, rfl⟩ | ⟨h0, h1⟩
  · rw [bs_size] at hs
    exact Done_ok g ps hs w h1
  · have he : e ≠ 0 := by simpa using h0
    rw [if_neg he]
    exact Done_bad g e h0 w h1

/-- how many bytes puts may come to -/
def wt : List PutT → Nat
  | [] => 0
  | x :: l => x.2.2.size + 16 + wt l
theorem wt_append (a b : List PutT) : wt (a ++ b) = wt a + wt b := by
  induction a with
  | nil => simp [wt]
  | cons x a ih => rw [List.cons_append, wt, ih, wt]; omega
theorem wt_take (L : List PutT) (k : Nat) (h : k < L.length) : wt (L.take (k + 1)) = wt (L.take k) + (L[k].2.2.size + 16) := by
  rw [List.take_succ_eq_append_getElem h, wt_append]; rfl
theorem wt_le (L : List PutT) (k : Nat) : wt (L.take k) ≤ wt L := by
  have h := wt_append (L.take k) (L.drop k)
  rw [List.take_append_drop] at h
  omega
def WWRel (L : List PutT) (w : World) (s e i : Value) (wr : World) : Prop :=
  ∃ (k : Nat) (t : ByteArray) (er : Int), k ≤ L.length ∧ i = .int .i64 (k : Int) ∧ s = .string t ∧ e = .int .i64 er ∧ t.size ≤ wt (L.take k) ∧ Inv wr w.heap.size t er ∧ Below w.heap.size w wr

end Go.Proofs.YtbpmgpbmeganoaaDoor
