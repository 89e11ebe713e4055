/- A burst behind an entry's tag: Read answers that the sum is wrong: on lists of bytes. It proves no statement. -/
import Derived.Test.YtchngfkbogcgaaaDoorFrBackM
import Derived.Test.YtchngfkbogcgaaaDoorBurst
namespace Go.Proofs.YtchngfkbogcgaaaDoor
open Go.RowKit
set_option linter.unusedVariables false
set_option linter.unusedSimpArgs false

theorem rd_burst {t : Int} {K D : List UInt8} (hK : K.length = 32) (h : ckE t K D.length = 0) (at_ m v : Nat) (hm : m ≤ 32) (ha : 72 ≤ at_) (hb : at_ + m ≤ 8 * (bytE t K D).length) (hv : v < 2 ^ m) (h0 : v ≠ 0) :
    ∀ lc, lc = xorBytes (bytE t K D) (loBytes (v * 2 ^ at_) (bytE t K D).length) → rdE lc = 13 ∧ rdT lc = 0 ∧ rdK lc = List.replicate 32 0 ∧ rdD lc = [] ∧ rdN lc = 0 := by
  intro lc hlc
  have hz := szE_len hK h
  obtain ⟨l, hl⟩ : ∃ l, l = bytE t K D := ⟨_, rfl⟩
  have hlen : lc.length = l.length := by rw [hlc, ← hl]; simp [xorBytes, loBytes_length]
  have h9 : lc.take 9 = l.take 9 := by rw [hlc, ← hl]; exact burst_take l at_ v 9 (by omega)
  have h4 : lc.take 4 = l.take 4 := by rw [hlc, ← hl]; exact burst_take l at_ v 4 (by omega)
  have hd : lc.drop 4 = xorBytes (l.drop 4) (loBytes (v * 2 ^ (at_ - 8 * 4)) (l.drop 4).length) := by rw [hlc, ← hl]; exact burst_drop l at_ v 4 (by omega)
  have hs : sizE lc = sizE l := by
    unfold sizE
    have e : ∀ q : List UInt8, (q.drop 4).take 4 = ((q.take 9).drop 4).take 4 := fun q => by rw [List.drop_take, List.take_take]; rfl
    rw [e lc, e l, h9]
  have ht : tagE lc = tagE l := by
    unfold tagE
    have e : ∀ q : List UInt8, q.getD 8 0 = (q.take 9).getD 8 0 := fun q => by simp [List.getD, List.getElem?_take]
    rw [e lc, e l, h9]
  have s0 := bytE_size (R := []) hK h
  rw [List.append_nil, ← hl] at s0
  have hto : (toE lc).2 = 0 := by
    have h1 := told_back (R := []) hK h
    rw [List.append_nil, ← hl] at h1
    unfold toE at h1 ⊢
    rw [hlen, hs, ht]
    exact h1
  have hE : rdE lc = 13 := by
    unfold rdE
    rw [if_neg (by rw [hto]; decide), hs, s0]
    have e1 : lc.take (szE t K D.length) = lc := List.take_of_length_le (by rw [hlen, hl]; omega)
    rw [e1, h4]
    have e2 : l.drop 4 = bodE t K D := by rw [hl]; unfold bytE; exact List.drop_left' (leBytes_length _ _)
    have e3 : l.take 4 = leBytes (crcSum (bodE t K D)) 4 := by rw [hl]; unfold bytE; rw [List.take_left' (leBytes_length _ _)]
    have e4 : leNum (l.take 4) = crcSum (l.drop 4) := by
      rw [e3, e2, leNum_le]
      have : crcSum (bodE t K D) < 2 ^ 32 := crcAdd_lt 0 _ (by decide)
      omega
    rw [e4, hd, if_neg]
    rw [← hl] at hb
    exact burst_seen (l.drop 4) (at_ - 8 * 4) m v hm (by rw [List.length_drop]; omega) hv h0
  have hn : ¬ rdE lc = 0 := by rw [hE]; decide
  refine ⟨hE, ?_, ?_, ?_, ?_⟩
  · unfold rdT; rw [if_neg hn]
  · unfold rdK; rw [if_neg hn]
  · unfold rdD; rw [if_neg hn]
  · unfold rdN; rw [if_neg hn]
end Go.Proofs.YtchngfkbogcgaaaDoor
