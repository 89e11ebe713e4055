/- Contracts: a roller that was given a text: asked, cleared, given one byte more. It proves no statement. -/
import Derived.Test.YtjihnagoebhinaaRlPut
import Derived.Test.YtjihnagoebhinaaRlNew
namespace Go.Proofs.Ytjihnagoebhinaa
open Go.RowKit
set_option linter.unusedVariables false
set_option linter.unusedSimpArgs false

/-- A roller at block g that was given l. -/
def Had (w : World) (g seed n : Nat) (l : List UInt8) : Prop :=
  ∃ R, RB w g (fun i => wd seed i) R (l.length % n) (min n l.length) n (sm seed (lastL n l)) ∧ (∀ i, i < 63 → R i < 256) ∧ (∀ i, i < l.length → l.length ≤ i + n → R (i % n) = (l.getD i 0).toNat)
theorem Had.lt {w : World} {g seed n : Nat} {l : List UInt8} (h : Had w g seed n l) : g < w.heap.size := h.choose_spec.1.lt
theorem Had.keepb {w w' : World} {g seed n : Nat} {l : List UInt8} (h : Had w g seed n l) (e : w'.heap[g]? = w.heap[g]?) : Had w' g seed n l := by
  obtain ⟨R, h1, h2⟩ := h
  exact ⟨R, h1.keepb e, h2⟩
theorem Had.still {w w' : World} {g seed n : Nat} {l : List UInt8} (h : Had w g seed n l) (e : Still w w') : Had w' g seed n l := h.keepb (e.block g h.lt)
theorem Had.grown {w w' : World} {g g' seed n : Nat} {l : List UInt8} (h : Had w g seed n l) (hs : w.grownBy w' (some g')) (hne : g ≠ g') : Had w' g seed n l :=
  h.keepb (hs.block g h.lt (fun e => hne (Option.some.inj e)))
theorem lastL_nil (n : Nat) : lastL n [] = [] := by simp [lastL]
theorem had_new (seed n : Nat) (w : World) (hs : seed < 4294967296) (hn : 0 < n) (hm : n ≤ 63) :
    Calls Try.prog 34 #[.int .u32 seed, .int .i64 (n : Nat)] w fun e w' => e = .returned (.tuple #[.pointer (some ⟨w.heap.size, 0, none⟩), .int .i64 0]) ∧ Had w' w.heap.size seed n [] ∧ Still w w' :=
  (new_yes seed n w hs hn hm).mono fun e w' ⟨h1, h2, h3⟩ => ⟨h1, ⟨fun _ => 0, by simpa [lastL_nil, sm_nil] using h2, fun i _ => by show (0 : Nat) < 256; omega, fun i hi => by simp at hi⟩, h3⟩
theorem had_clear {w : World} {g seed n : Nat} {l : List UInt8} (h : Had w g seed n l) (hn : 0 < n) (hm : n ≤ 63) :
    Calls Try.prog 38 #[.pointer (some ⟨g, 0, none⟩)] w fun e w' => e = .returned (.tuple #[]) ∧ Had w' g seed n [] ∧ w.grownBy w' (some g) := by
  obtain ⟨R, h1, h2, h3⟩ := h
  exact (clear_any w h1 hn hm).mono fun e w' ⟨h4, h5, h6⟩ => ⟨h4, ⟨R, by simpa [lastL_nil, sm_nil] using h5, h2, fun i hi => by simp at hi⟩, h6⟩
theorem had_full {w : World} {g seed n : Nat} {l : List UInt8} (h : Had w g seed n l) (hn : 0 < n) (hm : n ≤ 63) :
    Calls Try.prog 42 #[.pointer (some ⟨g, 0, none⟩)] w fun e w' => e = .returned (.bool (decide (n ≤ l.length))) ∧ ∃ m, w' = w.drewN m := by
  obtain ⟨R, h1, h2, h3⟩ := h
  have := full_any w h1 hn hm (by omega)
  rw [show decide (min n l.length = n) = decide (n ≤ l.length) from decide_eq_decide.2 (by omega)] at this
  exact this
theorem mod_far {n i m : Nat} (hn : 0 < n) (h1 : i < m) (h2 : m < i + n) : i % n ≠ m % n := by
  intro e
  obtain ⟨d, rfl⟩ : ∃ d, m = i + d := ⟨m - i, by omega⟩
  have h3 : (i + d) % n = (i % n + d) % n := by rw [Nat.mod_add_mod]
  rw [h3] at e
  have h4 : i % n < n := Nat.mod_lt _ hn
  generalize i % n = r at *
  by_cases h5 : r + d < n
  · rw [Nat.mod_eq_of_lt h5] at e; omega
  · rw [Nat.mod_eq_sub_mod (by omega), Nat.mod_eq_of_lt (by omega)] at e; omega
theorem had_put {w : World} {g seed n : Nat} {l : List UInt8} (c : UInt8) (h : Had w g seed n l) (hn : 0 < n) (hm : n ≤ 63) :
    Calls Try.prog 35 #[.pointer (some ⟨g, 0, none⟩), .int .u8 (c.toNat : Nat)] w fun e w' => e = .returned (.int .u32 (sm seed (lastL n (l ++ [c])) : Nat)) ∧ Had w' g seed n (l ++ [c]) ∧ w.grownBy w' (some g) := by
  obtain ⟨R, h1, h2, h3⟩ := h
  have hc : c.toNat < 256 := c.toNat_lt
  have ha : l.length % n < n := Nat.mod_lt _ hn
  have hs : sm seed (lastL n l) < 4294967296 := sm_lt _ _
  have hf : ∀ i, i < 256 → wd seed i < 4294967296 := fun i _ => wd_lt _ _
  have hlen : (l ++ [c]).length = l.length + 1 := by simp
  have hat : (l.length % n + 1) % n = (l ++ [c]).length % n := by rw [hlen, Nat.mod_add_mod]
  have hR1 : ∀ i, i < 63 → (fun j => if j = l.length % n then c.toNat else R j) i < 256 := by
    intro i hi
    show (if i = l.length % n then c.toNat else R i) < 256
    split
    · exact hc
    · exact h2 i hi
  have hR2 : ∀ i, i < (l ++ [c]).length → (l ++ [c]).length ≤ i + n → (fun j => if j = l.length % n then c.toNat else R j) (i % n) = ((l ++ [c]).getD i 0).toNat := by
    intro i hi hi2
    rw [hlen] at hi hi2
    show (if i % n = l.length % n then c.toNat else R (i % n)) = _
    by_cases e : i = l.length
    · subst e
      rw [if_pos rfl]
      simp [List.getD]
    · rw [if_neg (mod_far hn (by omega) (by omega)), h3 i (by omega) (by omega)]
      simp [List.getD, List.getElem?_append_left (show i < l.length by omega)]
  by_cases hk : n ≤ l.length
  · have hmin : min n l.length = n := by omega
    rw [hmin] at h1
    have hRa : R (l.length % n) = (l.getD (l.length - n) 0).toNat := by
      rw [← h3 (l.length - n) (by omega) (by omega)]
      congr 1
      conv => lhs; rw [show l.length = l.length - n + n by omega, Nat.add_mod_right]
    obtain ⟨t, e1, e2, e3⟩ := lastL_snoc_full n l c hn hk
    refine (put_full w h1 hn hm rfl ha hc hs h2 hf).mono ?_
    have hsm : go1 (sm seed (lastL n l)) (wd seed c.toNat) ^^^ rotl 32 (wd seed (R (l.length % n))) (n % 32) = sm seed (lastL n (l ++ [c])) := by
      rw [hRa, e1, e2, ← sm_roll, e3]
    rintro e w' ⟨h4, h5, h6⟩
    rw [hsm] at h4 h5
    refine ⟨h4, ⟨_, ?_, hR1, hR2⟩, h6⟩
    rw [← hat, show min n (l ++ [c]).length = n by rw [hlen]; omega]
    exact h5
  · have hmin : min n l.length = l.length := by omega
    rw [hmin] at h1
    refine (put_few w h1 hn hm (by omega) ha hc hs h2 hf).mono ?_
    have hsm : go1 (sm seed (lastL n l)) (wd seed c.toNat) = sm seed (lastL n (l ++ [c])) := by
      rw [lastL_snoc_few n l c (by omega), sm_snoc]
    rintro e w' ⟨h4, h5, h6⟩
    rw [hsm] at h4 h5
    refine ⟨h4, ⟨_, ?_, hR1, hR2⟩, h6⟩
    rw [← hat, show min n (l ++ [c]).length = l.length + 1 by rw [hlen]; omega]
    exact h5
end Go.Proofs.Ytjihnagoebhinaa
