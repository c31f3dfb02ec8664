/- Two signers, in whichever order: plain. -/
import Derived.Test.YtchpgngphgjmnaaDoorSpPlain
namespace Go.Proofs.YtchpgngphgjmnaaDoor
open Go.RowKit

theorem order_plain {s : Sp} {i a b : Int} {k l : ByteArray} (h1 : (spSign s i a k).2 = 0) (h2 : (spSign s i b l).2 = 0) (hab : a ≠ b) :
    ∃ x : Sp, spSign (spSign s i a k).1 i b l = (x, 0) ∧ spSign (spSign s i b l).1 i a k = (x, 0) ∧ spSign x i a k = (spZ, 8) ∧ (x.who.length = s.who.length + 2 ∧ x.seals.length = s.who.length + 2) ∧
      (spSign s i a k).1.who.length = s.who.length + 1 ∧ (spSign s i a k).1.seals.length = s.who.length + 1 ∧ (spSign s i b l).1.who.length = s.who.length + 1 ∧ (spSign s i b l).1.seals.length = s.who.length + 1 ∧ s.who.length ≤ 8 := by
  obtain ⟨hg, i0, i1, a0, a7, ha⟩ := sign_ok_iff h1
  obtain ⟨_, _, _, b0, b7, hb⟩ := sign_ok_iff h2
  obtain ⟨hf, h8, hl, _⟩ := spGood_ok hg
  rw [sign_ok hg i0 i1 a0 a7 ha, sign_ok hg i0 i1 b0 b7 hb]
  simp only
  generalize hB : bs (spBodyL i.toNat s) = B at *
  obtain ⟨ga, pa, wa, sa⟩ := sign_good (key := k) hg a0 a7 ha B
  obtain ⟨gb, pb, wb, sb⟩ := sign_good (key := l) hg b0 b7 hb B
  have hb2 : b ∉ (spPut s a (sealB k B)).who := fun h => by
    rcases (put_who hl a _ b).1 h with h | h
    · exact hab h.symm
    · exact hb h
  have ha2 : a ∉ (spPut s b (sealB l B)).who := fun h => by
    rcases (put_who hl b _ a).1 h with h | h
    · exact hab h
    · exact ha h
  obtain ⟨gx, px, wx, sx⟩ := sign_good (key := l) ga b0 b7 hb2 B
  have e1 : spSign (spPut s a (sealB k B)) i b l = (spPut (spPut s a (sealB k B)) b (sealB l B), 0) := by
    rw [sign_ok ga i0 i1 b0 b7 hb2, put_body, hB]
  have e2 : spSign (spPut s b (sealB l B)) i a k = (spPut (spPut s b (sealB l B)) a (sealB k B), 0) := by
    rw [sign_ok gb i0 i1 a0 a7 ha2, put_body, hB]
  have hla : (spPut s a (sealB k B)).seals.length = (spPut s a (sealB k B)).who.length := by rw [wa, sa]
  have hlb : (spPut s b (sealB l B)).seals.length = (spPut s b (sealB l B)).who.length := by rw [wb, sb]
  have same : spPut (spPut s b (sealB l B)) a (sealB k B) = spPut (spPut s a (sealB k B)) b (sealB l B) := by
    rw [spPut_of hlb, spPut_of hla, pa, pb, putP_comm a b _ _ hab]
    rfl
  refine ⟨_, e1, by rw [e2, same], ?_, ⟨by rw [wx, wa], by rw [sx, wa]⟩, wa, sa, wb, sb, h8⟩
  have hm : a ∈ (spPut (spPut s a (sealB k B)) b (sealB l B)).who := (put_who hla b _ a).2 (.inr ((put_who hl a _ a).2 (.inl rfl)))
  unfold spSign
  rw [gb_ok gx i0 i1, if_neg (by simp), if_neg (by omega), if_pos hm]
end Go.Proofs.YtchpgngphgjmnaaDoor
