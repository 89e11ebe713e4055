/- Contracts and facts, several texts in one. It proves no statement. -/
import Derived.Test.YtljacdbdjacbkaaGreatMpGm
import Derived.Test.YtljacdbdjacbkaaGreatMpGl
import Derived.Test.YtljacdbdjacbkaaGreatIter
import Derived.Test.YtljacdbdjacbkaaGreatMpGp
import Derived.Test.YtljacdbdjacbkaaGreatMpGa
import Derived.Maps.AppendAt
import Derived.Great.BuildSlice
import Derived.Outline
import Derived.Deep.DeepMust
import Derived.Deep.QuietTactic
import Derived.BigQuiet
import Derived.RegionTactic
import Derived.ChangeAlike
import Derived.BigRegion

/- A medium in memory: whose block is whose; what stays when something turns. It proves no statement. -/


namespace Go.Proofs.YtljacdbdjacbkaaGreat
open Go.RowKit Go.Maps Go.WideMaps Go.Sort
set_option linter.unusedVariables false
set_option linter.unusedSimpArgs false

/-- A file: its bytes now, those that are fast, what waits. -/
structure Fi where
  now : List UInt8
  fast : List UInt8
  wait : List Ch
def Fi.ok (F : Fi) : Prop := F.now = appAll F.fast F.wait ∧ ChOK F.fast F.wait
/-- Whose a block is: a file's (or a medium's) and what of it; or nobody's. -/
abbrev Own := Nat → Option (Nat × Nat)
def FileI (w : World) (base : Nat) (own : Own) (gf : Nat) (F : Fi) : Prop :=
  ∃ nv fv wv cs, FileB w gf nv fv wv ∧ w.ownsRow base 5 1 nv F.now.length (bytesV F.now) ∧ w.ownsRow base 5 1 fv F.fast.length (bytesV F.fast) ∧ w.ownsRow base 99 2 wv F.wait.length cs ∧ HasC w base F.wait cs (fun j b => own b = some (gf, 4 + j)) ∧ own gf = some (gf, 0) ∧ (∀ b, nv.ownBlock = some b → own b = some (gf, 1)) ∧ (∀ b, fv.ownBlock = some b → own b = some (gf, 2)) ∧ (∀ b, wv.ownBlock = some b → own b = some (gf, 3))
section
variable {w w' : World} {base gf : Nat} {own own' : Own} {F : Fi} {S : Nat → Prop}
theorem FileI.lt (h : FileI w base own gf F) : gf < w.heap.size := by obtain ⟨nv, fv, wv, cs, h1, _⟩ := h; exact Blk.lt h1
theorem FileI.keep (h : FileI w base own gf F) (c : Chg w w' S) (hS : ∀ b k, S b → own b ≠ some (gf, k)) : FileI w' base own gf F := by
  obtain ⟨nv, fv, wv, cs, h1, h2, h3, h4, h5, h6, h7, h8, h9⟩ := h
  exact ⟨nv, fv, wv, cs, c.blk h1 (fun hs => hS _ _ hs h6), c.own h2 (fun b hb hs => hS _ _ hs (h7 b hb)), c.own h3 (fun b hb hs => hS _ _ hs (h8 b hb)), c.own h4 (fun b hb hs => hS _ _ hs (h9 b hb)), h5.keep c (fun j b hb hs => hS _ _ hs hb), h6, h7, h8, h9⟩
theorem FileI.reown (h : FileI w base own gf F) (ho : ∀ b, b < w.heap.size → own' b = own b) : FileI w base own' gf F := by
  obtain ⟨nv, fv, wv, cs, h1, h2, h3, h4, h5, h6, h7, h8, h9⟩ := h
  exact ⟨nv, fv, wv, cs, h1, h2, h3, h4, h5.mono (fun j b _ hb h => by rw [ho b hb]; exact h), by rw [ho _ (Blk.lt h1)]; exact h6, fun b hb => by rw [ho b (h2.lt b hb).2]; exact h7 b hb, fun b hb => by rw [ho b (h3.lt b hb).2]; exact h8 b hb, fun b hb => by rw [ho b (h4.lt b hb).2]; exact h9 b hb⟩
end
/-- All files. -/
def FilesI (w : World) (base : Nat) (own : Own) (fs : Nat → Option Fi) : Prop := ∀ gf F, fs gf = some F → base ≤ gf ∧ F.ok ∧ F.wait.length ≤ 1000000 ∧ FileI w base own gf F
def upd (fs : Nat → Option Fi) (gf : Nat) (F : Fi) : Nat → Option Fi := fun x => if x = gf then some F else fs x
theorem upd_same (fs : Nat → Option Fi) (gf : Nat) (F : Fi) : upd fs gf F gf = some F := if_pos rfl
theorem upd_other (fs : Nat → Option Fi) {gf x : Nat} (F : Fi) (h : x ≠ gf) : upd fs gf F x = fs x := if_neg h
theorem upd_some {fs : Nat → Option Fi} {gf x : Nat} {F G : Fi} (h : fs x = some G) : ∃ H, upd fs gf F x = some H := by
  by_cases e : x = gf
  · subst e; exact ⟨_, upd_same _ _ _⟩
  · exact ⟨G, by rw [upd_other _ _ e]; exact h⟩
theorem FilesI.keep {w w' : World} {base : Nat} {own : Own} {fs : Nat → Option Fi} {S : Nat → Prop} (h : FilesI w base own fs) (c : Chg w w' S) (hS : ∀ b gf k F, S b → fs gf = some F → own b ≠ some (gf, k)) : FilesI w' base own fs :=
  fun gf F hF => ⟨(h gf F hF).1, (h gf F hF).2.1, (h gf F hF).2.2.1, (h gf F hF).2.2.2.keep c (fun b k hs => hS b gf k F hs hF)⟩
theorem FilesI.turn {w w' : World} {base : Nat} {own own' : Own} {fs : Nat → Option Fi} {S : Nat → Prop} (h : FilesI w base own fs) (c : Chg w w' S) (gf : Nat) (hS : ∀ b x k, S b → x ≠ gf → fs x ≠ none → own b ≠ some (x, k)) (ho : ∀ b, b < w.heap.size → own' b = own b) (F : Fi) (hF : base ≤ gf ∧ F.ok ∧ F.wait.length ≤ 1000000 ∧ FileI w' base own' gf F) : FilesI w' base own' (upd fs gf F) := by
  intro x G hG
  by_cases e : x = gf
  · subst e
    rw [upd_same] at hG
    injection hG with hG
    subst hG
    exact hF
  · rw [upd_other _ _ e] at hG
    obtain ⟨h1, h2, h3, h4⟩ := h x G hG
    have h5 := h4.reown ho
    refine ⟨h1, h2, h3, FileI.keep (own := own') h5 (S := fun b => S b ∧ b < w.heap.size) (c.mono (fun b hb hs => ⟨hs, hb⟩)) (fun b k hs => ?_)⟩
    rw [ho b hs.2]
    exact hS b x k hs.1 e (by rw [hG]; simp)
/-- A medium, apart from its files: room, power, names, what waits. -/
structure Me where
  room : Int
  left : Int
  off : Bool
  now : NT
  fast : NT
  wait : List (ByteArray × ByteArray × Int)
  fs : Nat → Option Fi
  cnt : Nat
def DirI (w : World) (base : Nat) (own : Own) (g : Nat) (M : Me) : Prop :=
  ∃ bn bf wv ns nn nf, MedB w g M.room bn bf wv M.left M.off ∧ NM w bn nn (nmD M.now) ∧ NM w bf nf (nmD M.fast) ∧ nn ≤ M.cnt ∧ nf + M.wait.length ≤ M.cnt ∧ w.ownsRow base 96 3 wv M.wait.length ns ∧ HasN M.wait ns ∧ M.wait.length ≤ M.cnt ∧ own g = some (g, 0) ∧ own bn = some (g, 1) ∧ own bf = some (g, 2) ∧ (∀ b, wv.ownBlock = some b → own b = some (g, 3))
structure MedI (w : World) (base : Nat) (own : Own) (g : Nat) (M : Me) : Prop where
  dir : DirI w base own g M
  files : FilesI w base own M.fs
  dom : ∀ b, own b ≠ none → base ≤ b ∧ b < w.heap.size
  low : base ≤ w.heap.size
  nog : M.fs g = none
section
variable {w w' : World} {base g : Nat} {own own' : Own} {M : Me} {S : Nat → Prop}
theorem DirI.keep (h : DirI w base own g M) (c : Chg w w' S) (hS : ∀ b k, S b → own b ≠ some (g, k)) : DirI w' base own g M := by
  obtain ⟨bn, bf, wv, ns, nn, nf, h1, h2, h3, h4, h5, h6, h7, h8, h9, h10, h11, h12⟩ := h
  exact ⟨bn, bf, wv, ns, nn, nf, c.blk h1 (fun hs => hS _ _ hs h9), c.nm h2 (fun hs => hS _ _ hs h10), c.nm h3 (fun hs => hS _ _ hs h11), h4, h5, c.own h6 (fun b hb hs => hS _ _ hs (h12 b hb)), h7, h8, h9, h10, h11, h12⟩
theorem DirI.reown (h : DirI w base own g M) (ho : ∀ b, b < w.heap.size → own' b = own b) : DirI w base own' g M := by
  obtain ⟨bn, bf, wv, ns, nn, nf, h1, h2, h3, h4, h5, h6, h7, h8, h9, h10, h11, h12⟩ := h
  exact ⟨bn, bf, wv, ns, nn, nf, h1, h2, h3, h4, h5, h6, h7, h8, by rw [ho _ (Blk.lt h1)]; exact h9, by rw [ho _ h2.lt]; exact h10, by rw [ho _ h3.lt]; exact h11, fun b hb => by rw [ho b (h6.lt b hb).2]; exact h12 b hb⟩
theorem DirI.cong {M' : Me} (h : DirI w base own g M) (e1 : M'.room = M.room) (e2 : M'.left = M.left) (e3 : M'.off = M.off) (e4 : M'.now = M.now) (e5 : M'.fast = M.fast) (e6 : M'.wait = M.wait) (e7 : M.cnt ≤ M'.cnt) : DirI w base own g M' := by
  obtain ⟨bn, bf, wv, ns, nn, nf, h1, h2, h3, h4, h5, h6, h7, h8, h9⟩ := h
  exact ⟨bn, bf, wv, ns, nn, nf, by rw [e1, e2, e3]; exact h1, by rw [e4]; exact h2, by rw [e5]; exact h3, by omega, by rw [e6]; omega, by rw [e6]; exact h6, by rw [e6]; exact h7, by rw [e6]; omega, h9⟩
theorem MedI.keep (h : MedI w base own g M) (c : Chg w w' S) (hS : ∀ b, S b → own b = none) : MedI w' base own g M where
  dir := h.dir.keep c (fun b k hs e => by rw [hS b hs] at e; cases e)
  files := h.files.keep c (fun b gf k F hs _ e => by rw [hS b hs] at e; cases e)
  dom := fun b hb => ⟨(h.dom b hb).1, Nat.lt_of_lt_of_le (h.dom b hb).2 c.size⟩
  low := Nat.le_trans h.low c.size
  nog := h.nog
theorem MedI.still (h : MedI w base own g M) (s : Still w w') : MedI w' base own g M := h.keep (Chg.of_still s (fun _ => False)) (fun _ h => h.elim)
end
/-- What lies below is nobody's. -/
theorem MedI.below {w : World} {base g : Nat} {own : Own} {M : Me} (h : MedI w base own g M) : ∀ b, b < base → own b = none ∧ b < w.heap.size := fun b hp => by
  have hl := h.low
  refine ⟨?_, by omega⟩
  cases hq : own b with
  | none => rfl
  | some q => have := (h.dom b (by rw [hq]; simp)).1; omega
/-- A file behind a crash. -/
def Fi.crash (F : Fi) (zs : List Int) : Fi := ⟨crashL F.fast F.wait zs, crashL F.fast F.wait zs, []⟩
theorem Fi.crash_ok {F : Fi} (h : F.ok) (zs : List Int) : (F.crash zs).ok := ⟨rfl, ChOK.nil (crashL_len zs h.2)⟩
theorem fcrash_I {w : World} {base gf gl : Nat} {B : Nat → Prop} {own : Own} {F : Fi} {zs : List Int} (h : FileI w base own gf F) (hok : F.ok) (hb : base ≤ gf) (hw6 : F.wait.length ≤ 1000000) (hlow : base ≤ w.heap.size) (hdom : ∀ b, own b ≠ none → base ≤ b ∧ b < w.heap.size)
    (hT : TK w B gl zs) (hgl : own gl = none) (hB : ¬ B gl) (hBo : ∀ b, B b → own b = none ∧ b < w.heap.size) :
    Calls Tryz.prog 61 #[.pointer (some ⟨gf, 0, none⟩), .func (.func 75) #[] #[.pointer (some ⟨gl, 0, none⟩)]] w fun e w' => e = .returned (.tuple #[]) ∧ TK w' B gl zs.tail.tail ∧ Chg w w' (fun b => b = gl ∨ ∃ k, own b = some (gf, k)) ∧ ∃ own' : Own, (∀ b, b < w.heap.size → own' b = own b) ∧ (∀ b, own' b ≠ none → base ≤ b ∧ b < w'.heap.size) ∧ FileI w' base own' gf (F.crash zs) := by
  obtain ⟨nv, fv, wv, cs, h1, h2, h3, h4, h5, h6, h7, h8, h9⟩ := h
  refine (fcrash_any gf gl nv fv wv base B F.fast F.wait cs _ zs h1 h4 h5 h3 (fun b hb i e => by rw [h8 b hb] at e; simp at e; omega) (fun i e => by rw [h6] at e; simp at e; omega) (fun i e => by rw [hgl] at e; cases e) hlow hw6 hok.2 hT hB (fun b hb hp => by have := (hBo b hp).1; rw [h8 b hb] at this; cases this) (fun hp => by have := (hBo gf hp).1; rw [h6] at this; cases this) (fun b hp => (hBo b hp).2)).mono ?_
  rintro e w' ⟨he, nv', fv', g1, g2, g3, g4, g5, g6, g7⟩
  have hsz := g5.size
  refine ⟨he, g4, g5.mono ?_, fun b => if nv'.ownBlock = some b then some (gf, 1) else if fv'.ownBlock = some b then some (gf, 2) else own b, ?_, ?_, ?_⟩
  · rintro b hb (rfl | rfl | hs)
    · exact .inr ⟨0, h6⟩
    · exact .inl rfl
    · exact .inr ⟨2, h8 b hs⟩
  · intro b hb
    show (if nv'.ownBlock = some b then some (gf, 1) else if fv'.ownBlock = some b then some (gf, 2) else own b) = own b
    rw [if_neg (fun e => by have := (g2.lt b e).1; omega)]
    split
    · rename_i e
      rcases g6 with h | ⟨j, h, hj⟩
      · rw [h] at e; exact (h8 b e).symm
      · rw [h] at e; injection e with e; omega
    · rfl
  · intro b hb
    change (if nv'.ownBlock = some b then some (gf, 1) else if fv'.ownBlock = some b then some (gf, 2) else own b) ≠ none at hb
    split at hb
    · rename_i e; exact ⟨Nat.le_trans hlow (g2.lt b e).1, (g2.lt b e).2⟩
    · split at hb
      · rename_i e; exact g3.lt b e
      · have := hdom b hb; omega
  · have nsome : ∀ b, nv'.ownBlock = some b → (if nv'.ownBlock = some b then some (gf, 1) else if fv'.ownBlock = some b then some (gf, 2) else own b) = some (gf, 1) := fun b hb => if_pos hb
    refine ⟨nv', fv', .slice none 0 0, [], g1, own_low g2 hlow, g3, World.ownsRow_nil _ _ _ _, HasC.nil _ _ _, ?_, nsome, ?_, fun b hb => by simp [Value.ownBlock] at hb⟩
    · show (if nv'.ownBlock = some gf then some (gf, 1) else if fv'.ownBlock = some gf then some (gf, 2) else own gf) = _
      rw [if_neg (own_neM g1 g2 (by decide)), if_neg (own_neM g1 g3 (by decide))]
      exact h6
    · intro b hb
      show (if nv'.ownBlock = some b then some (gf, 1) else if fv'.ownBlock = some b then some (gf, 2) else own b) = _
      rw [if_neg (fun e => g7 b e hb), if_pos hb]
end Go.Proofs.YtljacdbdjacbkaaGreat

/- Contracts: slices.Sorted(maps.Keys(m)) and maps.Clone of a map of names. It proves no statement. -/


namespace Go.Proofs.YtljacdbdjacbkaaGreat
open Go.RowKit Go.Maps Go.WideMaps Go.Sort Go.Shelf
set_option linter.unusedVariables false
set_option linter.unusedSimpArgs false

theorem keys_any (b : Nat) (W : World) : Calls Tryz.prog 60 #[.map (some b)] W fun e w' => e = .returned (.func (.func 78) #[] #[.pointer (some ⟨W.heap.size, 0, none⟩)]) ∧ w' = W.alloc (.cells #[.map (some b)] 56) :=
  callsIn_wide.1 (Tryz.maps_keys (some b) W)
/-- Names, as the model's values. -/
def namesV (N : NT) : List Value := (N.map (·.1)).map encStr
theorem namesV_length (N : NT) : (namesV N).length = N.length := by simp [namesV]
theorem namesV_get (N : NT) (i : Nat) (p : List UInt8 × Nat) (h : N[i]? = some p) : (namesV N)[i]? = some (.string ⟨p.1.toArray⟩) := by
  simp [namesV, h]
theorem sortedkeys_any (N : NT) (hN : Rising N) (b n : Nat) (W : World) (hown : NM W b n (nmD N)) (hlen : N.length ≤ 1000000) :
    Calls Tryz.prog 59 #[.func (.func 78) #[] #[.pointer (some ⟨W.heap.size, 0, none⟩)]] (W.alloc (.cells #[.map (some b)] 56)) fun e w' => (∃ v, e = .returned v ∧ w'.ownsRow W.heap.size 9 1 v N.length (namesV N)) ∧ Still W w' := by
  refine (callsIn_wide.1 (Tryz.sorted_keys b n (nmD N) ptrElem W hown (by rw [size_nm]; unfold maxLen; omega) (by rw [size_nm]; omega))).mono ?_
  rintro e w' ⟨v, ss, he, hp, hrow, _, hb⟩
  rw [keys_nm] at hp
  have hl : ss.length = N.length := by rw [hp.length_eq, List.length_map]
  rw [hN.sorted hp, hl] at hrow
  have s1 : Still W (W.alloc (.cells #[.map (some b)] 56)) := (Still.refl W).alloc (Nat.le_refl _) _
  exact ⟨⟨v, he, own_low hrow s1.size⟩, Below.trans s1 (hb.mono s1.size)⟩
theorem mclone_any (N : NT) (b n : Nat) (W : World) (hown : NM W b n (nmD N)) :
    Calls Tryz.prog 62 #[.map (some b)] W fun e w' => e = .returned (.map (some W.heap.size)) ∧ NM w' W.heap.size n (nmD N) ∧ Still W w' := by
  have h := AnyW.maps_Clone_owns Tryz.clonem 9 ptrElem b n (nmD N) W hown
  exact h.mono fun e w' ⟨h1, h2, _, h3⟩ => ⟨h1, h2, h3⟩
end Go.Proofs.YtljacdbdjacbkaaGreat

/- Contracts on the document's disk: List, names, Used, number, New. It proves no statement. -/


namespace Go.Proofs.YtljacdbdjacbkaaGreat
open Go.RowKit Go.Maps Go.WideMaps Go.Sort
set_option linter.unusedVariables false
set_option linter.unusedSimpArgs false

set_option maxRecDepth 100000 in
set_option maxHeartbeats 3200000 in
/-- Names behind so many changes. -/
theorem namesN_D {w : World} {base dk k j : Nat} {own : DOwn} {D : Dk} (h : DiskI w base own dk D) (hg : D.good k) (hk : k ≤ 800000) (hj : j ≤ D.waits.length) :
    Calls Tryz.prog 69 #[.pointer (some ⟨dk, 0, none⟩), .int .i64 (j : Int)] w fun e w' => (∃ (A : Option Addr) (n c : Nat), e = .returned (.slice A n c) ∧ NRow w' (fun b => frz own b ∨ w.heap.size ≤ b) A n c (namesD D j)) ∧ Still w w' := by
  obtain ⟨fv, fcs, A, n, c, A2, n2, c2, wv, h⟩ := h
  obtain ⟨_, _, k2, _, k4, _, _, _⟩ := h.cells
  have H := Lib.hid h
  have G := Lib.hid hg
  have HJ := Lib.hid hj
  have K4 := Lib.hid k4
  have I0 := Lib.hid (show NRow w (fun b => frz own b ∨ w.heap.size ≤ b) A n c (namesD D 0) from h.fast.mono (fun b hb _ => .inl hb))
  clear h hg hj k4
  go_enter Tryz.func69, Tryz.ntmps69
  go_wp2_with fail
  go_loopw [5, 6] (fun bv iv wr => ∃ (i : Nat) (A : Option Addr) (n c : Nat), bv = .slice A n c ∧ iv = .int .i64 i ∧ i ≤ j ∧ Hid (NRow wr (fun b => frz own b ∨ w.heap.size ≤ b) A n c (namesD D i) ∧ Still w wr)) (fun _ iv _ => j - (intOf iv).toNat)
  case atStart => exact ⟨0, A, n, c, rfl, rfl, Nat.zero_le _, Lib.hid ⟨I0.out, Still.refl _⟩⟩
  case round =>
    clear I0 k2
    obtain ⟨i, A, n, c, rfl, rfl, hi, hin⟩ := hrel
    have NR := Lib.hid hin.out.1
    have ST := Lib.hid hin.out.2
    clear hin
    by_cases hlt : i < j
    · obtain ⟨x, hx⟩ : ∃ x, D.waits[i]? = some x := ⟨_, List.getElem?_eq_getElem (by have := HJ.out; omega)⟩
      have hxl := (List.getElem?_eq_some_iff.1 hx).1
      obtain ⟨g, cp, hwv, hcp, hcm, RNG⟩ : ∃ g cp, wv = .slice (some ⟨g, 0, none⟩) D.waits.length cp ∧ D.waits.length ≤ cp ∧ cp ≤ 9223372036854775807 ∧ Hid (∀ W, Still w W → W.rangeAt g (i * 3) (lkC x)) := by
        rcases H.out.wown.2 with ⟨_, h0⟩ | ⟨g, cap, cur, hv, hg', hb, hnc, hm, _⟩
        · omega
        · refine ⟨g, cap, hv, hnc, by unfold maxLen at hm; omega, Lib.hid fun W s q u hq => ?_⟩
          have hq3 : q < 3 := by have := (List.getElem?_eq_some_iff.1 hq).1; simpa [lkC] using this
          have hw := H.out.wown
          rw [hv] at hw
          rw [(s.cell (p := ⟨g, i * 3 + q, none⟩) (Array.getElem?_eq_some_iff.1 hb).1), hw.cellAt (i * 3 + q) (by omega)]
          exact lkV_get _ i x hx q u hq
      have k4 : wr.cell? ⟨dk, 4, none⟩ = some (.slice (some ⟨g, 0, none⟩) D.waits.length cp) := by
        have := (ST.out.cell (p := ⟨dk, 4, none⟩) H.out.blk.lt).trans K4.out
        rw [this, hwv]
      have RN := Lib.hid (show wr.rangeAt g (i * 3) [.string x.s, .string x.t, .int .i64 (x.f : Int)] from RNG.out wr ST.out)
      have SUC := Lib.hid (namesD_succ D i x hx)
      have LK := Lib.hid (linked_any A n c (namesD D i) x wr NR.out (by have := (G.out.nm i).1; have := NR.out.len; omega))
      have HLT := Lib.hid hlt
      have q1 : (0 : Int) ≤ (i : Int) := by omega
      obtain ⟨wl, hwl⟩ : ∃ wl, wl = D.waits.length := ⟨_, rfl⟩
      rw [← hwl] at k4 hcp hxl
      have q2 : (i : Int) < (wl : Int) := by omega
      have SZL := Lib.hid (show (Tryz.prog.info? 114).map (·.size) = some ([Value.string x.s, .string x.t, .int .i64 (x.f : Int)] : List Value).length from by kernel_rfl)
      clear hx hlt hwl hwv
      go_wp2_with (guard_target =~ wpList _ _ _ (Oper.mk (some 23) _ _ _ _ _ :: _) _ _; go_must (refine wpList_load_mid rfl 114 (.tmp 22) rfl g (i * 3) rfl [.string x.s, .string x.t, .int .i64 (x.f : Int)] _ RN.out Tryz.underlying114 rfl SZL.out ?_))
      refine LK.out.mono ?_
      rintro e w3 ⟨⟨A3, n3, c3, rfl, r3⟩, s3⟩
      have IN := Lib.hid (show NRow w3 (fun b => frz own b ∨ w.heap.size ≤ b) A3 n3 c3 (namesD D (i + 1)) ∧ Still w w3 from ⟨by
        rw [SUC.out]
        exact r3.mono (fun b hb _ => by
          rcases hb with hb | hb
          · exact hb
          · exact .inr (Nat.le_trans ST.out.size hb)), Still.trans ST.out s3⟩)
      clear r3 s3 LK RN
      go_wp2_with fail
      go_roundw
      case rel => exact ⟨i + 1, A3, n3, c3, rfl, by go_num, by have := HLT.out; omega, IN⟩
      case measure => simp [intOf]; have := HLT.out; omega
    · obtain rfl : i = j := by omega
      go_wp2_with fail
      go_ret
      exact ⟨⟨A, n, c, rfl, NR.out⟩, ST.out⟩
end Go.Proofs.YtljacdbdjacbkaaGreat

/- Rows of texts that grow. It proves no statement. -/



namespace Go.Proofs.YtljacdbdjacbkaaGreat
open Go.RowKit
set_option linter.unusedVariables false
set_option linter.unusedSimpArgs false
set_option maxRecDepth 100000 in
theorem fill_S (s : ByteArray) : Instr.fill (fun i => some (i * 1, 1)) ((Array.range (1 * 1)).map ((Value.string ⟨#[]⟩).cells[· % (Value.string ⟨#[]⟩).cells.size]!)) [(0, .string s)] = some #[.string s] := by kernel_rfl

theorem Tryz.infoS : (Tryz.prog.info? 9).map (fun i => (i.zero, i.size, i.bytes)) = some (some (.string ⟨#[]⟩), 1, 16) := by kernel_rfl
theorem run_moreS (w : World) (ty : TypeId) (base : Nat) (v : Value) (n : Nat) (xs : List Value) (hown : w.ownsRow base 9 1 v n xs) (A : Option Addr) (m c : Nat) (ys : List Value)
    (hl : ys.length = m) (hA : A = none → m = 0 ∧ c = 0) (hr : ∀ ad, A = some ad → ∀ j u, ys[j]? = some u → w.cell? (ad.add j) = some u) (h1 : ∀ u ∈ ys, u.oneCell' = true) (hn : n + m ≤ 1048576) (hbase : base ≤ w.heap.size) :
    ∃ v' w', (Builtin.append_ #[78, 78] ty #[v, .slice A m c]).run Tryz.prog w = .ok v' w' ∧ w'.ownsRow base 9 1 v' (n + m) (xs ++ ys) ∧ w.grownBy w' v.ownBlock ∧ (v'.ownBlock = v.ownBlock ∨ v'.ownBlock = some w.heap.size) := by
  obtain ⟨i0, hi, hz0, hz1, hz2⟩ := info_parts Tryz.infoS
  rcases A with _ | ad
  · obtain ⟨rfl, rfl⟩ := hA rfl
    obtain rfl := List.eq_nil_of_length_eq_zero hl
    exact ⟨v, w, run_append_owned_none (P := Tryz.prog) w base 78 ty 9 i0 1 Tryz.underlying78 hi v n _ hown, by simpa using hown, World.grownBy.refl _ _, .inl rfl⟩
  · obtain ⟨v', w', hrun, h2, h3, _, h5⟩ := run_append_own_at (P := Tryz.prog) w base 78 ty 9 i0 _ 1 16 Tryz.underlying78 hi hz0 hz1 hz2 rfl (by decide) v n xs hown ad m c ys (by rw [hl, Nat.mul_one]) (hr ad rfl) h1 (by unfold maxLen; omega) (by omega) hbase
    exact ⟨v', w', hrun, h2, h3, h5⟩
theorem step_moreS (w : World) {o : Oper} {a : Act} {K : Act → World → Prop} {Q : Exit → Act → World → Prop} (s x : Operand)
    (ho : o.op = .call { callee := .builtin .append, args := #[s, x], argTypes := #[78, 78] })
    (base : Nat) (v : Value) (n : Nat) (xs : List Value) (hs : a.eval s = v) (hown : w.ownsRow base 9 1 v n xs) (A : Option Addr) (m c : Nat) (ys : List Value) (hx : a.eval x = .slice A m c)
    (hl : ys.length = m) (hA : A = none → m = 0 ∧ c = 0) (hr : ∀ ad, A = some ad → ∀ j u, ys[j]? = some u → w.cell? (ad.add j) = some u) (h1 : ∀ u ∈ ys, u.oneCell' = true) (hn : n + m ≤ 1048576) (hbase : base ≤ w.heap.size)
    (h : ∀ v' w', w'.ownsRow base 9 1 v' (n + m) (xs ++ ys) → w.grownBy w' v.ownBlock → (v'.ownBlock = v.ownBlock ∨ v'.ownBlock = some w.heap.size) → K (a.put o.dst v') w') :
    o.wp Tryz.prog a w K Q := by
  obtain ⟨v', w', hrun, h2, h3, h5⟩ := run_moreS w o.type base v n xs hown A m c ys hl hA hr h1 hn hbase
  unfold Oper.wp execOp
  simp only [ho, resolve, invoke, builtin, Sem.run_bind, Sem.run_pure, Result.andThen_ok, List.map_toArray, List.map_cons, List.map_nil, hs, hx, hrun]
  exact h v' w' h2 h3 h5
theorem wpList_moreS (w : World) {ops : Array Oper} {rest : List Oper} {o : Oper} {a : Act} {Q : Exit → Act → World → Prop} (hgd : o.guard = none) (s x : Operand)
    (ho : o.op = .call { callee := .builtin .append, args := #[s, x], argTypes := #[78, 78] })
    (base : Nat) (v : Value) (n : Nat) (xs : List Value) (hs : a.eval s = v) (hown : w.ownsRow base 9 1 v n xs) (A : Option Addr) (m c : Nat) (ys : List Value) (hx : a.eval x = .slice A m c)
    (hl : ys.length = m) (hA : A = none → m = 0 ∧ c = 0) (hr : ∀ ad, A = some ad → ∀ j u, ys[j]? = some u → w.cell? (ad.add j) = some u) (h1 : ∀ u ∈ ys, u.oneCell' = true) (hn : n + m ≤ 1048576) (hbase : base ≤ w.heap.size)
    (h : ∀ v' w', w'.ownsRow base 9 1 v' (n + m) (xs ++ ys) → w.grownBy w' v.ownBlock → (v'.ownBlock = v.ownBlock ∨ v'.ownBlock = some w.heap.size) → wpList Tryz.prog ops Q rest (a.put o.dst v') w') :
    wpList Tryz.prog ops Q (o :: rest) a w :=
  wpList_plain hgd fun _ hQ => step_moreS w s x ho base v n xs hs hown A m c ys hx hl hA hr h1 hn hbase fun v' w' h2 h3 h5 => hQ _ _ (h v' w' h2 h3 h5)
/-- The same for one thing in a box of its own. -/
theorem wpList_oneS (w : World) {ops : Array Oper} {rest : List Oper} {o : Oper} {a : Act} {Q : Exit → Act → World → Prop} (hgd : o.guard = none) (s x : Operand)
    (ho : o.op = .call { callee := .builtin .append, args := #[s, x], argTypes := #[78, 78] })
    (base : Nat) (v : Value) (n : Nat) (xs : List Value) (hs : a.eval s = v) (hown : w.ownsRow base 9 1 v n xs) (u : Value) (h1 : u.oneCell' = true)
    (hx : a.eval x = .slice (some ⟨w.heap.size, 0, none⟩) 1 1) (hn : n < 1048576) (hbase : base ≤ w.heap.size)
    (h : ∀ v' w', w'.ownsRow base 9 1 v' (n + 1) (xs ++ [u]) → w.grownBy w' v.ownBlock → (v'.ownBlock = v.ownBlock ∨ v'.ownBlock = some (w.heap.size + 1)) → wpList Tryz.prog ops Q rest (a.put o.dst v') w') :
    wpList Tryz.prog ops Q (o :: rest) a (w.alloc (.cells #[u] 9)) := by
  refine wpList_moreS _ hgd s x ho base v n xs hs (hown.alloc _) _ 1 1 [u] hx rfl (fun e => by cases e) (fun ad e j y hy => ?_) (fun y hy => by simp only [List.mem_singleton] at hy; subst hy; exact h1) (by omega) (by simp; omega) ?_
  · obtain rfl := Option.some.inj e
    rcases j with _ | j
    · simp only [List.getElem?_cons_zero, Option.some.injEq] at hy
      subst hy
      rw [Addr.add_lit]
      exact (Blk.new w 9 #[u]).cell 0
    · simp at hy
  · intro v' w' h2 h3 h5
    refine h v' w' h2 ⟨h3.os, h3.tape, h3.output, by have := h3.size; simp at this; omega, fun k hk hne => ?_⟩ (by simpa using h5)
    rw [h3.block k (by simp; omega) hne]
    exact Below.heap_alloc w _ k hk
theorem step_boxS (w : World) {o : Oper} {a : Act} {K' : Act → World → Prop} {Q : Exit → Act → World → Prop} (x : Operand)
    (ho : o.op = .buildSlice 78 1 #[(0, x)]) (s : ByteArray) (hx : a.eval x = .string s)
    (h : K' (a.put o.dst (.slice (some ⟨w.heap.size, 0, none⟩) 1 1)) (w.alloc (.cells #[.string s] 9))) : o.wp Tryz.prog a w K' Q := by
  obtain ⟨i0, hi, hz0, hz1, hz2⟩ := info_parts Tryz.infoS
  refine wp_buildSlice 78 9 1 #[(0, x)] ho #[.string s] i0 _ Tryz.underlying78 hi hz0 (by rw [hz1]; decide) (by rw [hz1]; decide) ?_ h
  rw [hz1]
  simp only [List.map_toArray, List.map_cons, List.map_nil, hx]
  exact fill_S s
theorem wpList_boxS (w : World) {ops : Array Oper} {rest : List Oper} {o : Oper} {a : Act} {Q : Exit → Act → World → Prop} (hgd : o.guard = none) (x : Operand)
    (ho : o.op = .buildSlice 78 1 #[(0, x)]) (s : ByteArray) (hx : a.eval x = .string s)
    (h : wpList Tryz.prog ops Q rest (a.put o.dst (.slice (some ⟨w.heap.size, 0, none⟩) 1 1)) (w.alloc (.cells #[.string s] 9))) : wpList Tryz.prog ops Q (o :: rest) a w :=
  wpList_plain hgd fun _ hQ => step_boxS w x ho s hx (hQ _ _ h)
end Go.Proofs.YtljacdbdjacbkaaGreat

/- The document's own Within. It proves no statement. -/








namespace Go.Proofs.YtljacdbdjacbkaaGreat
open Go.RowKit
set_option linter.unusedVariables false
set_option linter.unusedSimpArgs false

theorem within_lo (x lo hi : Int) (w : World) (h : x < lo) :
    Calls Tryz.prog 81 #[.int .i64 x, .int .i64 lo, .int .i64 hi] w fun e w' => e = .returned (.int .i64 lo) ∧ w = w' := by
  go_enter Tryz.func81, Tryz.ntmps81
  go_wp2
  go_ret
  exact ⟨rfl, rfl⟩
theorem within_hi (x lo hi : Int) (w : World) (h1 : lo ≤ x) (h : hi < x) :
    Calls Tryz.prog 81 #[.int .i64 x, .int .i64 lo, .int .i64 hi] w fun e w' => e = .returned (.int .i64 hi) ∧ w = w' := by
  go_enter Tryz.func81, Tryz.ntmps81
  go_wp2
  go_ret
  exact ⟨rfl, rfl⟩
theorem within_in (x lo hi : Int) (w : World) (h1 : lo ≤ x) (h : x ≤ hi) :
    Calls Tryz.prog 81 #[.int .i64 x, .int .i64 lo, .int .i64 hi] w fun e w' => e = .returned (.int .i64 x) ∧ w = w' := by
  go_enter Tryz.func81, Tryz.ntmps81
  go_wp2
  go_ret
  exact ⟨rfl, rfl⟩
/-- A number between two others. -/
theorem within_any (x lo hi : Int) (w : World) (hh : lo ≤ hi) :
    Calls Tryz.prog 81 #[.int .i64 x, .int .i64 lo, .int .i64 hi] w fun e w' => (∃ y : Int, lo ≤ y ∧ y ≤ hi ∧ e = .returned (.int .i64 y)) ∧ w = w' := by
  by_cases h1 : x < lo
  · exact (within_lo x lo hi w h1).mono fun e w' ⟨he, hw⟩ => ⟨⟨lo, by omega, hh, he⟩, hw⟩
  · by_cases h2 : hi < x
    · exact (within_hi x lo hi w (by omega) h2).mono fun e w' ⟨he, hw⟩ => ⟨⟨hi, hh, by omega, he⟩, hw⟩
    · exact (within_in x lo hi w (by omega) (by omega)).mono fun e w' ⟨he, hw⟩ => ⟨⟨x, by omega, by omega, he⟩, hw⟩

theorem within_nat (x hi : Nat) (w : World) :
    Calls Tryz.prog 81 #[.int .i64 x, .int .i64 0, .int .i64 hi] w fun e w' => e = .returned (.int .i64 (min x hi : Nat)) ∧ w = w' := by
  by_cases h2 : hi < x
  · rw [show min x hi = hi by omega]
    exact within_hi x 0 hi w (by omega) (by omega)
  · rw [show min x hi = x by omega]
    exact within_in x 0 hi w (by omega) (by omega)

end Go.Proofs.YtljacdbdjacbkaaGreat
