/- What holds while a cutter is given copies of pieces. It proves no statement. -/
import Derived.Test.YtjihnagoebhinaaCtPc
import Derived.Test.YtjihnagoebhinaaCtFrom
import Derived.Test.YtjihnagoebhinaaRowsIn
namespace Go.Proofs.Ytjihnagoebhinaa
open Go.RowKit
set_option linter.unusedVariables false
set_option linter.unusedSimpArgs false

structure CwMid (w2 wr : World) (base g f r : Nat) (s : Shp) (la : List UInt8) (av v : Value) (D : List (List UInt8)) (l0 : List UInt8) : Prop where
  cb : CB wr base g f r v s l0
  own : wr.ownsRow base 5 1 av la.length (bytesV la)
  apart : ∀ k, av.ownBlock = some k → ¬ Cs g f r v k
  eq : run s [] la = (D, l0)
  lt : l0.length < s.mt
  st : Below base w2 wr
section
variable {w2 wr w3 w4 w5 w6 : World} {base g f r m : Nat} {s : Shp} {la lb l0 : List UInt8} {av av' v v' bv lv : Value} {D : List (List UInt8)} {xs : List Value}
/-- Up to the cutter's being given the piece. -/
theorem CwMid.ahead (h : CwMid w2 wr base g f r s la av v D l0) (hb : base ≤ wr.heap.size) (t3 : Still wr w3) (ob : w3.ownsRow wr.heap.size 5 1 bv m (bytesV lb)) (g4 : w3.grownBy w4 av.ownBlock) (oa : w4.ownsRow base 5 1 av' (la.length + m) (bytesV (la ++ lb))) (hv : av'.ownBlock = av.ownBlock ∨ av'.ownBlock = some w3.heap.size) :
    CB w4 base g f r v s l0 ∧ w4.ownsRow wr.heap.size 5 1 bv m (bytesV lb) ∧ (∀ k, bv.ownBlock = some k → k < w4.heap.size ∧ ¬ Cs g f r v k ∧ av'.ownBlock ≠ some k) ∧ (∀ k, av'.ownBlock = some k → k < w4.heap.size ∧ ¬ Cs g f r v k) ∧ Below base w2 w4 := by
  have h3 := h.cb.still t3
  have c4 := Chg.of_grown g4 (S := fun k => av.ownBlock = some k) (fun k hk _ => hk)
  have hlt : ∀ k, av.ownBlock = some k → k < wr.heap.size := own_block_lt h.own
  have hcs : ∀ k, Cs g f r v k → k < wr.heap.size := h.cb.lt
  have hbv : ∀ k, bv.ownBlock = some k → wr.heap.size ≤ k ∧ k < w3.heap.size := fun k hk => ⟨own_block_ge ob k hk, own_block_lt ob k hk⟩
  refine ⟨h3.chg c4 (fun k hk e => h.apart k e hk), c4.own ob (fun k hk e => by have := hlt k e; have := hbv k hk; omega), fun k hk => ?_, fun k hk => ?_, ?_⟩
  · obtain ⟨h1, h2⟩ := hbv k hk
    refine ⟨Nat.lt_of_lt_of_le h2 g4.size, fun hc => by have := hcs k hc; omega, fun e => ?_⟩
    rcases hv with e1 | e1
    · rw [e1] at e; have := hlt k e; omega
    · rw [e1] at e; have := Option.some.inj e; omega
  · refine ⟨own_block_lt oa k hk, fun hc => ?_⟩
    rcases hv with e1 | e1
    · rw [e1] at hk; exact h.apart k hk hc
    · rw [e1] at hk
      have := Option.some.inj hk
      have := hcs k hc
      have := t3.size
      omega
  · exact (Below.trans h.st (t3.mono hb)).grown g4 (Nat.le_trans hb t3.size) (fun k hk => own_block_ge h.own k hk)
/-- Behind what is done to the piece. -/
theorem CwMid.next (h : CwMid w2 wr base g f r s la av v D l0) (hs : s.Ok) (hb : base ≤ w4.heap.size) (hbv : ∀ k, bv.ownBlock = some k → k < w4.heap.size ∧ ¬ Cs g f r v k ∧ av'.ownBlock ≠ some k) (hav : ∀ k, av'.ownBlock = some k → k < w4.heap.size ∧ ¬ Cs g f r v k) (hbb : ∀ k, bv.ownBlock = some k → base ≤ k) (st4 : Below base w2 w4) (cb4 : CB w4 base g f r v s l0) (oa : w4.ownsRow base 5 1 av' (la.length + m) (bytesV (la ++ lb))) (hm : m = lb.length)
    (cb5 : CB w5 base g f r v' s (run s l0 lb).2) (held : ∀ k, v'.ownBlock = some k → v.ownBlock = some k ∨ w4.heap.size ≤ k) (c5 : Chg w4 w5 (Cs g f r v)) {A : Option Addr} {n c : Nat} (ol : w5.ownsRow w4.heap.size 25 1 (.slice A n c) n xs) (rl : Rows w5 (TellP w4 g f r v (.slice A n c) v') xs (run s l0 lb).1) (c6 : Chg w5 w6 (fun k => bv.ownBlock = some k)) :
    CwMid w2 w6 base g f r s (la ++ lb) av' v' (D ++ (run s l0 lb).1) (run s l0 lb).2 ∧ RowsR w6 (fun _ => True) (fun _ => True) A n c (run s l0 lb).1 := by
  have hcs : ∀ k, k < w4.heap.size → ¬ Cs g f r v k → ¬ Cs g f r v' k := fun k hk hn => cs_turn held k hk hn
  have hnb : ∀ k, Cs g f r v' k → bv.ownBlock ≠ some k := fun k hk e => hcs k (hbv k e).1 (hbv k e).2.1 hk
  refine ⟨⟨cb5.chg c6 (fun k hk e => hnb k hk e), ?_, fun k hk => hcs k (hav k hk).1 (hav k hk).2, ?_, (run_sizes s hs lb l0 h.lt).2, ?_⟩, ?_⟩
  · rw [List.length_append, ← hm]
    exact c6.own (c5.own oa (fun k hk => (hav k hk).2)) (fun k hk e => (hbv k e).2.2 hk)
  · rw [run_append, h.eq]
  · exact Below.trans (Below.trans st4 (c5.below hb (fun k hk => cb4.ge k hk))) (c6.below (Nat.le_trans hb c5.size) (fun k hk => hbb k hk))
  · refine ((RowsR.of_own ol rl).chg c6 (fun k hk _ e => ?_)).mono (fun _ _ _ => trivial) (fun _ _ _ => trivial)
    rcases hk with h1 | h1
    · rcases h1.1 with h2 | h2
      · exact (hbv k e).2.1 (.inr (.inr (.inr h2)))
      · have := (hbv k e).1; omega
    · have := h1.1; have := (hbv k e).1; omega
theorem CwMid.still (h : CwMid w2 wr base g f r s la av v D l0) (hb : base ≤ wr.heap.size) (t : Still wr w3) : CwMid w2 w3 base g f r s la av v D l0 :=
  ⟨h.cb.still t, still_own h.own t, h.apart, h.eq, h.lt, Below.trans h.st (t.mono hb)⟩
end
/-- What was told is the front of the chunks. -/
theorem told_front {s : Shp} {la : List UInt8} {D : List (List UInt8)} {l0 : List UInt8} (h : run s [] la = (D, l0)) : chunks s la = D ++ (if l0 = [] then [] else [l0]) ∧ D.flatten.length + l0.length = la.length := by
  have h1 := run_join s la []
  rw [h] at h1
  have h2 := congrArg List.length h1
  simp only [List.length_append, List.nil_append] at h2
  exact ⟨by unfold chunks; rw [h], h2⟩
/-- Bytes that may be turned. -/
def Pok (w : World) (b m : Nat) : Prop := ∃ cs, Blk w b 5 cs ∧ ∀ i, i < m → ∃ x : UInt8, cs[i]? = some (.int .u8 (x.toNat : Nat))
theorem pok_of {w : World} {base b m c : Nat} {l : List UInt8} (h : w.ownsRow base 5 1 (.slice (some ⟨b, 0, none⟩) m c) m (bytesV l)) : Pok w b m := by
  rcases h.2 with ⟨e, _⟩ | ⟨g, cp, cur, hv, hg, hb, _⟩
  · cases e
  · injection hv with hv1
    cases hv1
    refine ⟨cur, hb, fun i hi => ?_⟩
    have hl : l.length = m := by have := h.1; rw [bytesV_length] at this; omega
    have h2 := h.cellAt i (by omega)
    rw [bytesV_get l i (by omega)] at h2
    exact ⟨l.getD i 0, by rw [← h2]; exact (Blk.cell (show Blk w b 5 cur from hb) i).symm⟩
theorem Pok.set {w : World} {b m k : Nat} (h : Pok w b m) (hk : k < m) (x : UInt8) : Pok (w.setCell ⟨b, k, none⟩ (.int .u8 (x.toNat : Nat))) b m := by
  obtain ⟨cs, hb, hc⟩ := h
  refine ⟨_, hb.setc k _, fun i hi => ?_⟩
  by_cases e : k = i
  · subst e
    obtain ⟨y, hy⟩ := hc k hk
    exact ⟨x, by rw [Array.getElem?_setIfInBounds, if_pos rfl, if_pos (Array.getElem?_eq_some_iff.1 hy).1]⟩
  · obtain ⟨y, hy⟩ := hc i hi
    exact ⟨y, by rw [Array.getElem?_setIfInBounds, if_neg e]; exact hy⟩
theorem Pok.at_ {w : World} {b m k : Nat} (h : Pok w b m) (hk : k < m) : (∃ x : UInt8, w.cell? ⟨b, k, none⟩ = some (.int .u8 (x.toNat : Nat))) ∧ w.frozen? ⟨b, k, none⟩ = false := by
  obtain ⟨cs, hb, hc⟩ := h
  obtain ⟨x, hx⟩ := hc k hk
  exact ⟨⟨x, (hb.cell k).trans hx⟩, hb.frozen k⟩
theorem u8_next (x : UInt8) : IntKind.u8.wrap ((x.toNat : Int) + 1) = (((x + 1 : UInt8).toNat : Nat) : Int) := by
  have := x.toNat_lt
  rw [IntKind.wrap_u8', UInt8.toNat_add]
  simp
end Go.Proofs.Ytjihnagoebhinaa
