/- What holds while a cutter is given more. It proves no statement. -/
import Derived.Test.YtjihnagoebhinaaCtCut
namespace Go.Proofs.Ytjihnagoebhinaa
open Go.RowKit
set_option linter.unusedVariables false
set_option linter.unusedSimpArgs false

/-- Where the rows that are told lie. -/
def TellP (w : World) (g f r : Nat) (v0 lv v : Value) : Nat → Prop := fun k => (v0.ownBlock = some k ∨ w.heap.size ≤ k) ∧ lv.ownBlock ≠ some k ∧ ¬ Cs g f r v k
/-- What holds between two pieces: the cutter holds l0 (at v), has told done (at lv). -/
structure WrMid (w wr : World) (base g f r : Nat) (v0 : Value) (s : Shp) (l b : List UInt8) (A : Option Addr) (n c : Nat) (rest : List UInt8) (lv : Value) (done : List (List UInt8)) (xs : List Value) (v : Value) (l0 : List UInt8) (P : Nat → Prop) : Prop where
  row : RowP wr P A n c rest
  cb : CB wr base g f r v s l0
  own : wr.ownsRow w.heap.size 25 1 lv done.length xs
  rows : Rows wr (TellP w g f r v0 lv v) xs done
  apart : ∀ k, lv.ownBlock = some k → ¬ Cs g f r v k
  held : ∀ k, v.ownBlock = some k → v0.ownBlock = some k ∨ w.heap.size ≤ k
  eq : run s l b = (done ++ (run s l0 rest).1, (run s l0 rest).2)
  lt : l0.length < s.mt
  len : done.length + n ≤ b.length
  chg : Chg w wr (Cs g f r v0)
theorem cs_nil {g f r k : Nat} {v : Value} (h : ¬ Cs g f r v k) : ¬ Cs g f r (.slice none 0 0) k := by
  rintro (h1 | h1 | h1 | h1)
  · exact h (.inl h1)
  · exact h (.inr (.inl h1))
  · exact h (.inr (.inr (.inl h1)))
  · simp [Value.ownBlock] at h1
section
variable {w wr w2 w3 : World} {base g f r : Nat} {v0 lv v v2 : Value} {s : Shp} {l b rest l0 : List UInt8} {A A1 : Option Addr} {n c n1 c1 p : Nat} {q : Bool} {done : List (List UInt8)} {xs : List Value} {P : Nat → Prop}
/-- Up to the store of what is held. -/
theorem WrMid.mid (h : WrMid w wr base g f r v0 s l b A n c rest lv done xs v l0 P) (hP : ∀ k, P k → k < w.heap.size ∧ ¬ Cs g f r v0 k) (c2 : Chg wr w2 (Fi2 f r)) (g3 : w2.grownBy w3 v.ownBlock) (hv2 : v2.ownBlock = v.ownBlock ∨ v2.ownBlock = some w2.heap.size) :
    Chg wr (w3.setCell ⟨g, 1, none⟩ v2) (Cs g f r v) ∧ (∀ k, P k → ¬ Cs g f r v k) ∧ (∀ k, k < wr.heap.size → ¬ Cs g f r v k → ¬ Cs g f r v2 k) := by
  refine ⟨?_, fun k hk => ?_, fun k hk hn => ?_⟩
  · have e1 : Chg wr w3 (Cs g f r v) := (c2.mono (T := Cs g f r v) (fun x _ hx => Or.elim hx (fun e => .inr (.inl e)) (fun e => .inr (.inr (.inl e))))).trans (Chg.of_grown g3 (S := Cs g f r v) (fun k hk _ => .inr (.inr (.inr hk)))) (fun x _ h => h)
    exact e1.trans (Chg.of_grown (grownBy_set w3 g 1 v2) (S := Cs g f r v) (fun k hk _ => .inl (Option.some.inj hk).symm)) (fun x _ h => h)
  · have := hP k hk
    rintro (h1 | h1 | h1 | h1)
    · exact this.2 (.inl h1)
    · exact this.2 (.inr (.inl h1))
    · exact this.2 (.inr (.inr (.inl h1)))
    · rcases h.held k h1 with h2 | h2
      · exact this.2 (.inr (.inr (.inr h2)))
      · omega
  · rintro (h1 | h1 | h1 | h1)
    · exact hn (.inl h1)
    · exact hn (.inr (.inl h1))
    · exact hn (.inr (.inr (.inl h1)))
    · rcases hv2 with e | e
      · rw [e] at h1; exact hn (.inr (.inr (.inr h1)))
      · rw [e] at h1
        have := Option.some.inj h1
        have := c2.size
        omega
theorem WrMid.total (h : WrMid w wr base g f r v0 s l b A n c rest lv done xs v l0 P) {w' : World} (cc : Chg wr w' (fun k => Cs g f r v k ∨ lv.ownBlock = some k)) : Chg w w' (Cs g f r v0) :=
  h.chg.trans cc (fun x hx h1 => by
    rcases h1 with h1 | h1
    · rcases h1 with h1 | h1 | h1 | h1
      · exact .inl h1
      · exact .inr (.inl h1)
      · exact .inr (.inr (.inl h1))
      · rcases h.held x h1 with h2 | h2
        · exact .inr (.inr (.inr h2))
        · omega
    · have := own_block_ge h.own x h1
      omega)
theorem WrMid.v2far (h : WrMid w wr base g f r v0 s l b A n c rest lv done xs v l0 P) (c2 : Chg wr w2 (Fi2 f r)) (hv2 : v2.ownBlock = v.ownBlock ∨ v2.ownBlock = some w2.heap.size) (k : Nat) (hk : v2.ownBlock = some k) : (k ≠ g ∧ k ≠ f ∧ k ≠ r) ∧ (v0.ownBlock = some k ∨ w.heap.size ≤ k) ∧ lv.ownBlock ≠ some k := by
  rcases hv2 with e | e
  · rw [e] at hk
    exact ⟨h.cb.far k hk, h.held k hk, fun e2 => h.apart k e2 (.inr (.inr (.inr hk)))⟩
  · rw [e] at hk
    obtain rfl := Option.some.inj hk
    have h1 := h.cb.blk.lt
    have h2 := h.cb.fb.1.lt
    have h3 := h.cb.fb.2.1.lt
    have h4 := c2.size
    have h5 := h.chg.size
    refine ⟨by omega, .inr (by omega), fun e2 => ?_⟩
    have := own_block_lt h.own _ e2
    omega
theorem WrMid.no (h : WrMid w wr base g f r v0 s l b A n c rest lv done xs v l0 P) (hs : s.Ok) (hP : ∀ k, P k → k < w.heap.size ∧ ¬ Cs g f r v0 k) (hp : nx s l0 rest = (p, false)) (c2 : Chg wr w2 (Fi2 f r)) (fb2 : FB w2 f r s (l0 ++ rest)) (o3 : w3.ownsRow base 5 1 v2 (l0.length + p) (bytesV (l0 ++ rest.take p))) (g3 : w2.grownBy w3 v.ownBlock)
    (hv2 : v2.ownBlock = v.ownBlock ∨ v2.ownBlock = some w2.heap.size) (hrow : ∀ W, RowP W P A n c rest → RowP W P A1 n1 c1 (rest.drop p)) (hn1 : n1 ≤ n - p) :
    WrMid w (w3.setCell ⟨g, 1, none⟩ v2) base g f r v0 s l b A1 n1 c1 (rest.drop p) lv done xs v2 (l0 ++ rest.take p) P := by
  obtain ⟨hpl, hrun, _⟩ := nx_no s rest l0 (by rw [hp])
  rw [hp] at hpl
  simp only at hpl
  have htake : rest.take p = rest := by rw [hpl, List.take_length]
  have hdrop : rest.drop p = [] := by rw [hpl, List.drop_length]
  obtain ⟨cm, hPv, hcs⟩ := h.mid hP c2 g3 hv2
  have hfar := h.v2far c2 hv2
  have b2 := c2.blk h.cb.blk (by have := h.cb.gf; have := h.cb.gr; rintro (h1 | h1) <;> omega)
  have b3 : Blk w3 g _ _ := (g3.block g b2.lt (fun e => (h.cb.far g e.symm).1 rfl)).trans b2
  have c4 := grownBy_set w3 g 1 v2
  have fb3 : FB w3 f r s (l0 ++ rest) := fb2.grown g3 (fun e => (h.cb.far f e).2.1 rfl) (fun e => (h.cb.far r e).2.2 rfl)
  have fb4 := fb3.grown c4 (fun e => h.cb.gf (Option.some.inj e)) (fun e => h.cb.gr (Option.some.inj e))
  have o4 := own_grown c4 o3 (fun k hk e => (hfar k hk).1.1 (Option.some.inj e).symm)
  have hlv : ∀ k, lv.ownBlock = some k → ¬ Cs g f r v2 k := fun k hk => hcs k (own_block_lt h.own k hk) (h.apart k hk)
  refine ⟨hrow _ (h.row.chg cm (fun k hk _ => hPv k hk)), ⟨b3.setc 1 v2, by rw [htake]; exact fb4, by rw [List.length_append, List.length_take, hpl, Nat.min_self]; rw [hpl] at o4; exact o4, h.cb.gf, h.cb.gr, fun k hk => (hfar k hk).1, h.cb.low⟩, ?_, ?_, hlv, fun k hk => (hfar k hk).2.1, ?_, ?_, ?_, h.total (cm.mono (fun x _ hx => .inl hx))⟩
  · exact cm.own h.own (fun k hk => h.apart k hk)
  · refine (h.rows.mono (Q := fun k => TellP w g f r v0 lv v k ∧ TellP w g f r v0 lv v2 k) (fun k hk hk2 => ⟨hk, hk.1, hk.2.1, hcs k hk2 hk.2.2⟩)).chg cm (fun k hk _ => hk.1.2.2) |>.mono (fun k hk _ => hk.2)
  · rw [h.eq, hrun, hdrop, htake]
    simp [run]
  · have := (run_sizes s hs rest l0 h.lt).2
    rw [hrun] at this
    rw [htake]
    exact this
  · have := h.len
    omega
theorem WrMid.yes (h : WrMid w wr base g f r v0 s l b A n c rest lv done xs v l0 P) (hs : s.Ok) (hP : ∀ k, P k → k < w.heap.size ∧ ¬ Cs g f r v0 k) (hp : nx s l0 rest = (p, true)) (hp1 : 0 < p) (hpn : p ≤ n) (c2 : Chg wr w2 (Fi2 f r)) (fb2 : FB w2 f r s []) {A2 : Option Addr} {n2 cc2 : Nat} (ev2 : v2 = .slice A2 n2 cc2) (hn2 : n2 = l0.length + p) (o3 : w3.ownsRow base 5 1 v2 (l0.length + p) (bytesV (l0 ++ rest.take p))) (g3 : w2.grownBy w3 v.ownBlock)
    (hv2 : v2.ownBlock = v.ownBlock ∨ v2.ownBlock = some w2.heap.size) {w5 w6 : World} {lv' : Value} (b5 : Blk w5 g 56 #[.pointer (some ⟨f, 0, none⟩), .slice none 0 0]) (g5 : (w3.setCell ⟨g, 1, none⟩ v2).grownBy w5 (some g))
    (o6 : w6.ownsRow w.heap.size 25 1 lv' (done.length + 1) (xs ++ [v2])) (g6 : w5.grownBy w6 lv.ownBlock) (hlv' : lv'.ownBlock = lv.ownBlock ∨ lv'.ownBlock = some (w5.heap.size + 1)) (hrow : ∀ W, RowP W P A n c rest → RowP W P A1 n1 c1 (rest.drop p)) (hn1 : n1 ≤ n - p) :
    WrMid w w6 base g f r v0 s l b A1 n1 c1 (rest.drop p) lv' (done ++ [l0 ++ rest.take p]) (xs ++ [v2]) (.slice none 0 0) [] P := by
  obtain ⟨hrun, _⟩ := nx_yes s rest l0 (by rw [hp])
  rw [hp] at hrun
  simp only at hrun
  obtain ⟨cm, hPv, hcs⟩ := h.mid hP c2 g3 hv2
  have hfar := h.v2far c2 hv2
  have c4 := grownBy_set w3 g 1 v2
  have fb3 : FB w3 f r s [] := fb2.grown g3 (fun e => (h.cb.far f e).2.1 rfl) (fun e => (h.cb.far r e).2.2 rfl)
  have fb4 := fb3.grown c4 (fun e => h.cb.gf (Option.some.inj e)) (fun e => h.cb.gr (Option.some.inj e))
  have fb5 := fb4.grown g5 (fun e => h.cb.gf (Option.some.inj e)) (fun e => h.cb.gr (Option.some.inj e))
  have fb6 : FB w6 f r s [] := fb5.grown g6 (fun e => h.apart f e (.inr (.inl rfl))) (fun e => h.apart r e (.inr (.inr (.inl rfl))))
  have b6 : Blk w6 g _ _ := (g6.block g b5.lt (fun e => h.apart g e.symm (.inl rfl))).trans b5
  have o4 := own_grown c4 o3 (fun k hk e => (hfar k hk).1.1 (Option.some.inj e).symm)
  have o5 := own_grown g5 o4 (fun k hk e => (hfar k hk).1.1 (Option.some.inj e).symm)
  have cm5 : Chg wr w5 (Cs g f r v) := cm.trans (Chg.of_grown g5 (S := Cs g f r v) (fun k hk _ => .inl (Option.some.inj hk).symm)) (fun x _ h => h)
  have cm6 : Chg wr w6 (fun k => Cs g f r v k ∨ lv.ownBlock = some k) := (cm5.mono (fun x _ hx => .inl hx)).trans (Chg.of_grown g6 (S := fun k => Cs g f r v k ∨ lv.ownBlock = some k) (fun k hk _ => .inr hk)) (fun x _ h => h)
  have hsz := cm5.size
  have hlv2 : ∀ k, k < w5.heap.size → lv.ownBlock ≠ some k → lv'.ownBlock ≠ some k := by
    intro k hk hn
    rcases hlv' with e | e
    · rwa [e]
    · rw [e]
      intro x
      have := Option.some.inj x
      omega
  have hap : ∀ k, lv'.ownBlock = some k → ¬ Cs g f r (.slice none 0 0) k := by
    intro k hk
    rcases hlv' with e | e
    · rw [e] at hk
      exact cs_nil (h.apart k hk)
    · rw [e] at hk
      obtain rfl := Option.some.inj hk
      have h1 := b5.lt
      have h2 := fb5.1.lt
      have h3 := fb5.2.1.lt
      rintro (x | x | x | x)
      · omega
      · omega
      · omega
      · simp [Value.ownBlock] at x
  have hPl : ∀ k, P k → ¬ (Cs g f r v k ∨ lv.ownBlock = some k) := by
    intro k hk h1
    rcases h1 with h1 | h1
    · exact hPv k hk h1
    · have := own_block_ge h.own k h1
      have := (hP k hk).1
      omega
  refine ⟨hrow _ (h.row.chg cm6 (fun k hk _ => hPl k hk)), ⟨b6, fb6, World.ownsRow_nil _ _ _ _, h.cb.gf, h.cb.gr, fun k hk => by simp [Value.ownBlock] at hk, h.cb.low⟩, by rw [List.length_append, List.length_singleton]; exact o6, ?_, hap, fun k hk => by simp [Value.ownBlock] at hk, ?_, ?_, ?_, h.total cm6⟩
  · have q1 := (h.rows.chg cm5 (fun k hk _ => hk.2.2)).mono (Q := fun k => TellP w g f r v0 lv' (.slice none 0 0) k ∧ lv.ownBlock ≠ some k) (fun k hk hk2 => ⟨⟨hk.1, hlv2 k hk2 hk.2.1, cs_nil hk.2.2⟩, hk.2.1⟩)
    subst ev2
    have q2 : RowP w5 (fun k => TellP w g f r v0 lv' (.slice none 0 0) k ∧ lv.ownBlock ≠ some k) A2 n2 cc2 (l0 ++ rest.take p) := by
      rw [← hn2] at o5
      refine (RowP.of_own o5).mono (fun k hk hk2 => ?_)
      have h1 := hfar k hk.2
      exact ⟨⟨h1.2.1, hlv2 k hk2 h1.2.2, fun x => Or.elim x h1.1.1 (fun x => Or.elim x h1.1.2.1 (fun x => Or.elim x h1.1.2.2 (fun x => by simp [Value.ownBlock] at x)))⟩, h1.2.2⟩
    have kp : ∀ k, (TellP w g f r v0 lv' (.slice none 0 0) k ∧ lv.ownBlock ≠ some k) → k < w5.heap.size → w6.heap[k]? = w5.heap[k]? := fun k hk hk2 => g6.block k hk2 (fun e => hk.2 e.symm)
    exact Rows.snoc ((q1.keep kp g6.size).mono fun k hk _ => hk.1) ((q2.keep kp g6.size).mono fun k hk _ => hk.1)
  · rw [h.eq, hrun]
    simp
  · have := hs.n1; have := hs.nlt; have := hs.ltmt; simp; omega
  · have := h.len
    simp only [List.length_append, List.length_singleton]
    omega
end
end Go.Proofs.Ytjihnagoebhinaa
