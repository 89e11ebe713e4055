/- Contracts: a cutter: made, asked, ended. It proves no statement. -/
import Derived.Test.YtjihnagoebhinaaCtSplit
import Derived.Test.YtjihnagoebhinaaAdds
import Derived.Test.YtjihnagoebhinaaLate
namespace Go.Proofs.Ytjihnagoebhinaa
open Go.RowKit
set_option linter.unusedVariables false
set_option linter.unusedSimpArgs false

/-- A cutter at g, its finder at f, roller at r, what it holds at v: it was given l of the chunk that goes on. -/
structure CB (w : World) (base g f r : Nat) (v : Value) (s : Shp) (l : List UInt8) : Prop where
  blk : Blk w g 56 #[.pointer (some ⟨f, 0, none⟩), v]
  fb : FB w f r s l
  own : w.ownsRow base 5 1 v l.length (bytesV l)
  gf : g ≠ f
  gr : g ≠ r
  far : ∀ k, v.ownBlock = some k → k ≠ g ∧ k ≠ f ∧ k ≠ r
  low : base ≤ g ∧ base ≤ f ∧ base ≤ r
/-- Its blocks. -/
def Cs (g f r : Nat) (v : Value) : Nat → Prop := fun k => k = g ∨ k = f ∨ k = r ∨ v.ownBlock = some k
section
variable {w w' : World} {base g f r : Nat} {v : Value} {s : Shp} {l : List UInt8}
theorem CB.chg {S : Nat → Prop} (h : CB w base g f r v s l) (c : Chg w w' S) (hS : ∀ k, Cs g f r v k → ¬ S k) : CB w' base g f r v s l :=
  ⟨c.blk h.blk (hS g (.inl rfl)), h.fb.chg c (hS f (.inr (.inl rfl))) (hS r (.inr (.inr (.inl rfl)))), c.own h.own (fun k hk => hS k (.inr (.inr (.inr hk)))), h.gf, h.gr, h.far, h.low⟩
theorem CB.still (h : CB w base g f r v s l) (c : Still w w') : CB w' base g f r v s l :=
  ⟨h.blk.still c, h.fb.still c, still_own h.own c, h.gf, h.gr, h.far, h.low⟩
theorem CB.ge (h : CB w base g f r v s l) (k : Nat) (hk : Cs g f r v k) : base ≤ k := by
  have := h.low
  rcases hk with h1 | h1 | h1 | h1
  · omega
  · omega
  · omega
  · exact own_block_ge h.own k h1
theorem CB.lt (h : CB w base g f r v s l) (k : Nat) (hk : Cs g f r v k) : k < w.heap.size := by
  rcases hk with h1 | h1 | h1 | h1
  · rw [h1]; exact h.blk.lt
  · rw [h1]; exact h.fb.1.lt
  · rw [h1]; exact h.fb.2.1.lt
  · exact own_block_lt h.own k h1
end
theorem works_yes {g : Nat} {f : Addr} {v : Value} (w : World) (h : Blk w g 56 #[.pointer (some f), v]) :
    Calls Try.prog 31 #[.pointer (some ⟨g, 0, none⟩)] w fun e w' => e = .returned (.bool true) ∧ w' = w := by
  have c0 := h.cell 0
  simp only [List.getElem?_toArray, List.getElem?_cons_zero] at c0
  clear h
  go_enter Try.func31, Try.ntmps31
  go_wp2_with fail
  go_ret
  exact ⟨rfl, rfl⟩
theorem cnew_no (x y z u sd : Int) (w : World) (h : okZ x y z u = false) :
    Calls Try.prog 20 #[.agg #[.int .i64 x, .int .i64 y, .int .i64 z, .int .i64 u, .int .u32 sd]] w fun e w' => e = .returned (.tuple #[.pointer none, .int .i64 2]) ∧ Still w w' := by
  have st := (Still.refl w).alloc (Nat.le_refl _) (.cells #[.int .i64 x, .int .i64 y, .int .i64 z, .int .i64 u, .int .u32 sd] 24)
  have HC := Lib.hid (fun W => begin_no x y z u sd W h)
  have ST := Lib.hid st
  clear st h
  go_enter Try.func20, Try.ntmps20
  go_wp2_with fail
  refine (HC.out _).mono ?_
  rintro e w1 ⟨rfl, s1⟩
  have S1 := Lib.hid (Still.trans ST.out s1)
  clear s1
  go_wp2_with fail
  go_ret2
  exact ⟨rfl, S1.out⟩
theorem new_cut (s : Shp) (hs : s.Ok) (w : World) :
    Calls Try.prog 20 #[.agg #[.int .i64 (s.lt : Nat), .int .i64 (s.mt : Nat), .int .i64 (s.k : Nat), .int .i64 (s.n : Nat), .int .u32 (s.seed : Nat)]] w fun e w' =>
      ∃ g f r, e = .returned (.tuple #[.pointer (some ⟨g, 0, none⟩), .int .i64 0]) ∧ CB w' w.heap.size g f r (.slice none 0 0) s [] ∧ Still w w' := by
  have st := (Still.refl w).alloc (Nat.le_refl _) (.cells #[.int .i64 (s.lt : Nat), .int .i64 (s.mt : Nat), .int .i64 (s.k : Nat), .int .i64 (s.n : Nat), .int .u32 (s.seed : Nat)] 24)
  have HBG := Lib.hid (fun W => begin_yes s hs W)
  have ST := Lib.hid st
  clear st hs
  go_enter Try.func20, Try.ntmps20
  go_wp2_with fail
  refine (HBG.out _).mono ?_
  rintro e w1 ⟨f, r, rfl, fb, s1, hf, hr⟩
  have S1 := Lib.hid (Still.trans ST.out s1)
  have FBB := Lib.hid fb
  have hf0 : w.heap.size ≤ f := Nat.le_trans ST.out.size hf
  have hr0 : w.heap.size ≤ r := Nat.le_trans ST.out.size hr
  have hf1 := fb.1.lt
  have hr1 := fb.2.1.lt
  have HL := Lib.hid (And.intro (And.intro hf0 hr0) (And.intro hf1 hr1))
  clear s1 hf hr hf0 hr0 fb hf1 hr1 HBG ST
  go_wp2_with fail
  go_ret2
  have s2 := (Still.refl w1).alloc (Nat.le_refl _) (.cells #[.pointer (some ⟨f, 0, none⟩), .slice none 0 0] 56)
  have := HL.out
  have := S1.out.size
  exact ⟨w1.heap.size, f, r, rfl, ⟨Blk.new w1 _ _, FBB.out.still s2, World.ownsRow_nil _ _ _ _, by omega, by omega, fun k hk => by simp [Value.ownBlock] at hk, by omega⟩, Still.trans S1.out s2⟩
theorem held_any {base g f r : Nat} {v : Value} {s : Shp} {l : List UInt8} (w : World) (h : CB w base g f r v s l) :
    Calls Try.prog 22 #[.pointer (some ⟨g, 0, none⟩)] w fun e w' => e = .returned (.int .i64 (l.length : Nat)) ∧ w' = w := by
  obtain ⟨A, c, rfl, _⟩ := own_formB h.own
  have c1 := h.blk.cell 1
  simp only [List.getElem?_toArray, List.getElem?_cons_succ, List.getElem?_cons_zero] at c1
  have HW := Lib.hid (works_yes w h.blk)
  clear h
  go_enter Try.func22, Try.ntmps22
  go_wp2_with fail
  refine HW.out.mono ?_
  rintro e w1 ⟨rfl, rfl⟩
  go_wp2_with fail
  go_ret
  exact ⟨rfl, rfl⟩
theorem take_any {g : Nat} {f : Addr} {A : Option Addr} {n c : Nat} (w : World) (h : Blk w g 56 #[.pointer (some f), .slice A n c]) :
    Calls Try.prog 32 #[.pointer (some ⟨g, 0, none⟩)] w fun e w' => e = .returned (.slice A n c) ∧ Blk w' g 56 #[.pointer (some f), .slice none 0 0] ∧ w.grownBy w' (some g) := by
  have c1 := h.cell 1
  have f1 := h.frozen 1
  have H1 := Lib.hid (And.intro (h.setc 1 (.slice none 0 0)) (grownBy_set w g 1 (.slice none 0 0)))
  simp only [List.getElem?_toArray, List.getElem?_cons_succ, List.getElem?_cons_zero] at c1
  clear h
  go_enter Try.func32, Try.ntmps32
  go_wp2_with fail
  go_ret
  exact ⟨rfl, H1.out.1, H1.out.2⟩
theorem end_any {base g f r : Nat} {v : Value} {s : Shp} {l : List UInt8} (hs : s.Ok) (w : World) (h : CB w base g f r v s l) :
    Calls Try.prog 23 #[.pointer (some ⟨g, 0, none⟩)] w fun e w' => e = .returned v ∧ w'.ownsRow base 5 1 v l.length (bytesV l) ∧ CB w' base g f r (.slice none 0 0) s [] ∧ Chg w w' (fun k => k = g ∨ k = f ∨ k = r) := by
  obtain ⟨A, c, rfl, _⟩ := own_formB h.own
  have c0 := h.blk.cell 0
  simp only [List.getElem?_toArray, List.getElem?_cons_succ, List.getElem?_cons_zero] at c0
  have HW := Lib.hid (works_yes w h.blk)
  have HC := Lib.hid (clear_yes hs w h.fb)
  have H := Lib.hid h
  clear h hs
  go_enter Try.func23, Try.ntmps23
  go_wp2_with fail
  refine HW.out.mono ?_
  rintro e w1 ⟨rfl, rfl⟩
  go_wp2_with fail
  refine HC.out.mono ?_
  rintro e w2 ⟨rfl, h2, g2⟩
  have b2 := g2.blk H.out.blk (by have := H.out.gf; have := H.out.gr; omega)
  have o2 := g2.own H.out.own (fun k hk => by have := H.out.far k hk; omega)
  have HT := Lib.hid (take_any w2 b2)
  have H2 := Lib.hid (And.intro h2 (And.intro g2 o2))
  clear h2 g2 b2 o2 HW HC
  go_wp2_with fail
  refine HT.out.mono ?_
  rintro e w3 ⟨rfl, b3, g3⟩
  have c3 := Chg.of_grown g3 (S := fun k => k = g) (fun k hk _ => (Option.some.inj hk).symm)
  have F : CB w3 base g f r (.slice none 0 0) s [] := ⟨b3, H2.out.1.chg c3 H.out.gf.symm H.out.gr.symm, World.ownsRow_nil _ _ _ _, H.out.gf, H.out.gr, fun k hk => by simp [Value.ownBlock] at hk, H.out.low⟩
  have O3 := c3.own H2.out.2.2 (fun k hk => (H.out.far k hk).1)
  have C3 : Chg w1 w3 (fun k => k = g ∨ k = f ∨ k = r) := (H2.out.2.1.mono (fun x _ h => .inr h)).trans c3 (fun x _ h => .inl h)
  have H3 := Lib.hid (And.intro O3 (And.intro F C3))
  clear b3 g3 c3 F O3 C3 HT
  go_wp2_with fail
  go_ret
  exact ⟨rfl, H3.out⟩
end Go.Proofs.Ytjihnagoebhinaa
