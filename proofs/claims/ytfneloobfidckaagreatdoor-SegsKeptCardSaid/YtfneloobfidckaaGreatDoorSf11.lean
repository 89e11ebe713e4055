/- Contracts and facts, several texts in one. It proves no statement. -/
import Derived.Test.YtfneloobfidckaaGreatDoorSf10
import Derived.Sort.KeysCollected
import Derived.Test.YtfneloobfidckaaGreatDoorSf09
import Derived.Test.YtfneloobfidckaaGreatDoorIter

/- What a medium is, apart from memory: names in their order, files, what waits. It proves no statement. -/


namespace Go.Proofs.YtfneloobfidckaaGreatDoor
open Go.RowKit Go.Maps Go.WideMaps Go.Sort
set_option linter.unusedVariables false
set_option linter.unusedSimpArgs false

/-- Names, rising, and each one's file. -/
abbrev NT := List (List UInt8 × Nat)
def nmD (N : NT) : DataW Unit := .map (N.map fun p => (Lit.string p.1, fd (p.2 : Int)))
def nIns (x : List UInt8 × Nat) : NT → NT
  | [] => [x]
  | y :: r => if bytesBefore x.1 y.1 then x :: y :: r else y :: nIns x r
def nDel (N : NT) (s : List UInt8) : NT := N.filter fun p => !(p.1 == s)
def nPut (N : NT) (s : List UInt8) (f : Nat) : NT := nIns (s, f) (nDel N s)
def nFind (N : NT) (s : List UInt8) : Option Nat := (N.find? fun p => p.1 == s).map (·.2)
theorem nmD_del (N : NT) (s : List UInt8) : (nmD N).del (.string s) = nmD (nDel N s) := by
  show DataW.map ((N.map fun p => (Lit.string p.1, fd (p.2 : Int))).filter fun p => !p.1.sameKey (.string s)) = DataW.map _
  congr 1
  rw [List.filter_map]
  rfl
theorem insert_map (x : List UInt8 × Nat) (N : NT) : DataW.insert (Lit.string x.1, fd (x.2 : Int)) (N.map fun p => (Lit.string p.1, fd (p.2 : Int))) = (nIns x N).map fun p => (Lit.string p.1, fd (p.2 : Int)) := by
  induction N with
  | nil => rfl
  | cons y r ih =>
    rw [List.map_cons]
    unfold DataW.insert nIns
    have e : Lit.before (Lit.string x.1) (Lit.string y.1) = bytesBefore x.1 y.1 := rfl
    simp only [e]
    split
    · rfl
    · rw [ih]; rfl
theorem nmD_put (N : NT) (s : List UInt8) (f : Nat) : (nmD N).put (.string s) (fd (f : Int)) = nmD (nPut N s f) := by
  show DataW.map (DataW.insert (Lit.string s, fd (f : Int)) ((N.map fun p => (Lit.string p.1, fd (p.2 : Int))).filter fun p => !p.1.sameKey (.string s))) = DataW.map _
  congr 1
  rw [List.filter_map]
  exact insert_map (s, f) (nDel N s)
theorem look_nm (N : NT) (s : ByteArray) : look (nmD N) s = match nFind N s.data.toList with | some f => (f : Int) | none => -1 := by
  unfold look nFind nmD DataW.atKey kl
  simp only [List.find?_map]
  have e : ((fun p : Lit × DataW Unit => p.1.sameKey (Lit.string s.data.toList)) ∘ fun p : List UInt8 × Nat => (Lit.string p.1, fd (p.2 : Int))) = fun p => p.1 == s.data.toList := rfl
  rw [e]
  cases N.find? fun p => p.1 == s.data.toList <;> rfl
theorem size_nm (N : NT) : Maps.size (nmD N) = N.length := by simp [Maps.size, nmD]
theorem keys_nm (N : NT) : strKeys (nmD N) = N.map (·.1) := by
  show (N.map fun p => (Lit.string p.1, fd (p.2 : Int))).map (fun p => strOf p.1) = _
  rw [List.map_map]
  rfl
/-! ### Their order -/
def Rising (N : NT) : Prop := N.Pairwise fun p q => bytesBefore p.1 q.1 = true
theorem before_lt : ∀ a b : List UInt8, bytesBefore a b = true → a < b
  | [], [], h => by simp [bytesBefore] at h
  | [], _ :: _, _ => List.nil_lt_cons _ _
  | _ :: _, [], h => by simp [bytesBefore] at h
  | a :: r, b :: s, h => by
    simp only [bytesBefore, Bool.or_eq_true, Bool.and_eq_true, decide_eq_true_eq, beq_iff_eq] at h
    rw [List.cons_lt_cons_iff]
    rcases h with h | ⟨h1, h2⟩
    · exact .inl h
    · exact .inr ⟨h1, before_lt r s h2⟩
theorem Rising.nil : Rising [] := List.Pairwise.nil
theorem Rising.del {N : NT} (h : Rising N) (s : List UInt8) : Rising (nDel N s) := List.Pairwise.filter _ h
theorem mem_ins {x y : List UInt8 × Nat} {N : NT} : y ∈ nIns x N ↔ y = x ∨ y ∈ N := by
  induction N with
  | nil => simp [nIns]
  | cons z r ih =>
    unfold nIns
    split
    · simp
    · simp only [List.mem_cons, ih]
      constructor
      · rintro (h | h | h)
        · exact .inr (.inl h)
        · exact .inl h
        · exact .inr (.inr h)
      · rintro (h | h | h)
        · exact .inr (.inl h)
        · exact .inl h
        · exact .inr (.inr h)
theorem Rising.ins {N : NT} (h : Rising N) (x : List UInt8 × Nat) (hx : ∀ p ∈ N, p.1 ≠ x.1) : Rising (nIns x N) := by
  induction N with
  | nil => exact List.pairwise_singleton _ _
  | cons y r ih =>
    have h1 := List.pairwise_cons.1 h
    unfold nIns
    split
    · rename_i hb
      refine List.pairwise_cons.2 ⟨fun p hp => ?_, h⟩
      rcases List.mem_cons.1 hp with rfl | hp
      · exact hb
      · exact WideShapes.bytes_trans _ _ _ hb (h1.1 p hp)
    · rename_i hb
      refine List.pairwise_cons.2 ⟨fun p hp => ?_, ih h1.2 (fun p hp => hx p (List.mem_cons_of_mem _ hp))⟩
      rcases mem_ins.1 hp with rfl | hp
      · rcases WideAt.bytes_total p.1 y.1 (fun e => hx y (List.mem_cons_self) e.symm) with h2 | h2
        · exact absurd h2 hb
        · exact h2
      · exact h1.1 p hp
theorem Rising.put {N : NT} (h : Rising N) (s : List UInt8) (f : Nat) : Rising (nPut N s f) :=
  (h.del s).ins (s, f) (fun p hp => by have := (List.mem_filter.1 hp).2; simpa using this)
theorem Rising.sorted {N : NT} (h : Rising N) {ss : List (List UInt8)} (hp : ss.Perm (N.map (·.1))) : ss.mergeSort (fun x y => decide (x ≤ y)) = N.map (·.1) := by
  rw [mergeSort_of_perm hp]
  refine List.mergeSort_of_pairwise ?_
  rw [List.pairwise_map]
  exact h.imp fun {p q} hb => by simpa using List.le_of_lt (before_lt _ _ hb)
theorem Rising.nodup {N : NT} (h : Rising N) : (N.map (·.1)).Nodup := by
  rw [List.Nodup, List.pairwise_map]
  exact h.imp fun {p q} hb e => by rw [e, WideAt.bytes_irrefl] at hb; cases hb
theorem nFind_mem {N : NT} {s : List UInt8} {f : Nat} (h : nFind N s = some f) : (s, f) ∈ N := by
  unfold nFind at h
  cases hc : N.find? fun p => p.1 == s with
  | none => rw [hc] at h; cases h
  | some p =>
    rw [hc] at h
    have h1 := List.find?_some hc
    have h2 := List.mem_of_find?_eq_some hc
    have e1 : p.1 = s := by simpa using h1
    have e2 : p.2 = f := by simpa using h
    rw [← e1, ← e2]
    exact h2
theorem nFind_of_mem {N : NT} (h : Rising N) {s : List UInt8} {f : Nat} (hm : (s, f) ∈ N) : nFind N s = some f := by
  induction N with
  | nil => cases hm
  | cons y r ih =>
    have h1 := List.pairwise_cons.1 h
    unfold nFind
    rcases List.mem_cons.1 hm with e | hm
    · subst e
      simp
    · have hne : (y.1 == s) = false := by
        rw [beq_eq_false_iff_ne]
        intro e
        have := h1.1 _ hm
        rw [e] at this
        simp only [WideAt.bytes_irrefl] at this
        cases this
      rw [List.find?_cons, hne]
      exact ih h1.2 hm
/-- A change of names. -/
def nmStep (N : NT) (x : ByteArray × ByteArray × Int) : NT := if x.2.2 < 0 then nDel N x.1.data.toList else nPut (nDel N x.1.data.toList) x.2.1.data.toList x.2.2.toNat
def nmSteps (N : NT) (X : List (ByteArray × ByteArray × Int)) : NT := X.foldl nmStep N
theorem nmDo_nm (N : NT) (x : ByteArray × ByteArray × Int) : nmDo (nmD N) x.1 x.2.1 x.2.2 = nmD (nmStep N x) := by
  unfold nmDo nmStep kl
  split
  · exact nmD_del N _
  · rename_i h
    rw [nmD_del]
    obtain ⟨m, hm⟩ := Int.eq_ofNat_of_zero_le (show 0 ≤ x.2.2 by omega)
    rw [hm]
    exact nmD_put (nDel N _) _ m
theorem nmAll_nm (N : NT) (X : List (ByteArray × ByteArray × Int)) : nmAll (nmD N) X = nmD (nmSteps N X) := by
  unfold nmAll nmSteps
  induction X generalizing N with
  | nil => rfl
  | cons x r ih => rw [List.foldl_cons, List.foldl_cons, nmDo_nm, ih]
theorem Rising.step {N : NT} (h : Rising N) (x : ByteArray × ByteArray × Int) : Rising (nmStep N x) := by
  unfold nmStep
  split
  · exact h.del _
  · exact (h.del _).put _ _
theorem Rising.steps {N : NT} (h : Rising N) (X : List (ByteArray × ByteArray × Int)) : Rising (nmSteps N X) := by
  unfold nmSteps
  induction X generalizing N with
  | nil => exact h
  | cons x r ih => exact ih (h.step x)
/-- Which files there are among names. -/
theorem step_files {N : NT} {x : ByteArray × ByteArray × Int} {p : List UInt8 × Nat} (hp : p ∈ nmStep N x) : p ∈ N ∨ (0 ≤ x.2.2 ∧ p = (x.2.1.data.toList, x.2.2.toNat)) := by
  unfold nmStep at hp
  split at hp
  · exact .inl (List.mem_filter.1 hp).1
  · rename_i h
    rcases mem_ins.1 hp with e | hp
    · exact .inr ⟨by omega, e⟩
    · exact .inl (List.mem_filter.1 (List.mem_filter.1 hp).1).1
end Go.Proofs.YtfneloobfidckaaGreatDoor

/- A medium in memory: whose block is whose; what stays when something turns. It proves no statement. -/


namespace Go.Proofs.YtfneloobfidckaaGreatDoor
open Go.RowKit Go.Maps Go.WideMaps Go.Sort
set_option linter.unusedVariables false
set_option linter.unusedSimpArgs false

/-- A file: its bytes now, those that are fast, what waits. -/
structure Fi where
  now : List UInt8
  fast : List UInt8
  wait : List Ch
def Fi.ok (F : Fi) : Prop := F.now = appAll F.fast F.wait ∧ ChOK F.fast F.wait
/-- Whose a block is: a file's (or a medium's) and what of it; or nobody's. -/
abbrev Own := Nat → Option (Nat × Nat)
def FileI (w : World) (base : Nat) (own : Own) (gf : Nat) (F : Fi) : Prop :=
  ∃ nv fv wv cs, FileB w gf nv fv wv ∧ w.ownsRow base 5 1 nv F.now.length (bytesV F.now) ∧ w.ownsRow base 5 1 fv F.fast.length (bytesV F.fast) ∧ w.ownsRow base 267 2 wv F.wait.length cs ∧ HasC w base F.wait cs (fun j b => own b = some (gf, 4 + j)) ∧ own gf = some (gf, 0) ∧ (∀ b, nv.ownBlock = some b → own b = some (gf, 1)) ∧ (∀ b, fv.ownBlock = some b → own b = some (gf, 2)) ∧ (∀ b, wv.ownBlock = some b → own b = some (gf, 3))
section
variable {w w' : World} {base gf : Nat} {own own' : Own} {F : Fi} {S : Nat → Prop}
theorem FileI.lt (h : FileI w base own gf F) : gf < w.heap.size := by obtain ⟨nv, fv, wv, cs, h1, _⟩ := h; exact Blk.lt h1
theorem FileI.keep (h : FileI w base own gf F) (c : Chg w w' S) (hS : ∀ b k, S b → own b ≠ some (gf, k)) : FileI w' base own gf F := by
  obtain ⟨nv, fv, wv, cs, h1, h2, h3, h4, h5, h6, h7, h8, h9⟩ := h
  exact ⟨nv, fv, wv, cs, c.blk h1 (fun hs => hS _ _ hs h6), c.own h2 (fun b hb hs => hS _ _ hs (h7 b hb)), c.own h3 (fun b hb hs => hS _ _ hs (h8 b hb)), c.own h4 (fun b hb hs => hS _ _ hs (h9 b hb)), h5.keep c (fun j b hb hs => hS _ _ hs hb), h6, h7, h8, h9⟩
theorem FileI.reown (h : FileI w base own gf F) (ho : ∀ b, b < w.heap.size → own' b = own b) : FileI w base own' gf F := by
  obtain ⟨nv, fv, wv, cs, h1, h2, h3, h4, h5, h6, h7, h8, h9⟩ := h
  exact ⟨nv, fv, wv, cs, h1, h2, h3, h4, h5.mono (fun j b _ hb h => by rw [ho b hb]; exact h), by rw [ho _ (Blk.lt h1)]; exact h6, fun b hb => by rw [ho b (h2.lt b hb).2]; exact h7 b hb, fun b hb => by rw [ho b (h3.lt b hb).2]; exact h8 b hb, fun b hb => by rw [ho b (h4.lt b hb).2]; exact h9 b hb⟩
end
/-- All files. -/
def FilesI (w : World) (base : Nat) (own : Own) (fs : Nat → Option Fi) : Prop := ∀ gf F, fs gf = some F → base ≤ gf ∧ F.ok ∧ F.wait.length ≤ 1000000 ∧ FileI w base own gf F
def upd (fs : Nat → Option Fi) (gf : Nat) (F : Fi) : Nat → Option Fi := fun x => if x = gf then some F else fs x
theorem upd_same (fs : Nat → Option Fi) (gf : Nat) (F : Fi) : upd fs gf F gf = some F := if_pos rfl
theorem upd_other (fs : Nat → Option Fi) {gf x : Nat} (F : Fi) (h : x ≠ gf) : upd fs gf F x = fs x := if_neg h
theorem upd_some {fs : Nat → Option Fi} {gf x : Nat} {F G : Fi} (h : fs x = some G) : ∃ H, upd fs gf F x = some H := by
  by_cases e : x = gf
  · subst e; exact ⟨_, upd_same _ _ _⟩
  · exact ⟨G, by rw [upd_other _ _ e]; exact h⟩
theorem FilesI.keep {w w' : World} {base : Nat} {own : Own} {fs : Nat → Option Fi} {S : Nat → Prop} (h : FilesI w base own fs) (c : Chg w w' S) (hS : ∀ b gf k F, S b → fs gf = some F → own b ≠ some (gf, k)) : FilesI w' base own fs :=
  fun gf F hF => ⟨(h gf F hF).1, (h gf F hF).2.1, (h gf F hF).2.2.1, (h gf F hF).2.2.2.keep c (fun b k hs => hS b gf k F hs hF)⟩
theorem FilesI.turn {w w' : World} {base : Nat} {own own' : Own} {fs : Nat → Option Fi} {S : Nat → Prop} (h : FilesI w base own fs) (c : Chg w w' S) (gf : Nat) (hS : ∀ b x k, S b → x ≠ gf → fs x ≠ none → own b ≠ some (x, k)) (ho : ∀ b, b < w.heap.size → own' b = own b) (F : Fi) (hF : base ≤ gf ∧ F.ok ∧ F.wait.length ≤ 1000000 ∧ FileI w' base own' gf F) : FilesI w' base own' (upd fs gf F) := by
  intro x G hG
  by_cases e : x = gf
  · subst e
    rw [upd_same] at hG
    injection hG with hG
    subst hG
    exact hF
  · rw [upd_other _ _ e] at hG
    obtain ⟨h1, h2, h3, h4⟩ := h x G hG
    have h5 := h4.reown ho
    refine ⟨h1, h2, h3, FileI.keep (own := own') h5 (S := fun b => S b ∧ b < w.heap.size) (c.mono (fun b hb hs => ⟨hs, hb⟩)) (fun b k hs => ?_)⟩
    rw [ho b hs.2]
    exact hS b x k hs.1 e (by rw [hG]; simp)
/-- A medium, apart from its files: room, power, names, what waits. -/
structure Me where
  room : Int
  left : Int
  off : Bool
  now : NT
  fast : NT
  wait : List (ByteArray × ByteArray × Int)
  fs : Nat → Option Fi
  cnt : Nat
def DirI (w : World) (base : Nat) (own : Own) (g : Nat) (M : Me) : Prop :=
  ∃ bn bf wv ns nn nf, MedB w g M.room bn bf wv M.left M.off ∧ NM w bn nn (nmD M.now) ∧ NM w bf nf (nmD M.fast) ∧ nn ≤ M.cnt ∧ nf + M.wait.length ≤ M.cnt ∧ w.ownsRow base 263 3 wv M.wait.length ns ∧ HasN M.wait ns ∧ M.wait.length ≤ M.cnt ∧ own g = some (g, 0) ∧ own bn = some (g, 1) ∧ own bf = some (g, 2) ∧ (∀ b, wv.ownBlock = some b → own b = some (g, 3))
structure MedI (w : World) (base : Nat) (own : Own) (g : Nat) (M : Me) : Prop where
  dir : DirI w base own g M
  files : FilesI w base own M.fs
  dom : ∀ b, own b ≠ none → base ≤ b ∧ b < w.heap.size
  low : base ≤ w.heap.size
  nog : M.fs g = none
section
variable {w w' : World} {base g : Nat} {own own' : Own} {M : Me} {S : Nat → Prop}
theorem DirI.keep (h : DirI w base own g M) (c : Chg w w' S) (hS : ∀ b k, S b → own b ≠ some (g, k)) : DirI w' base own g M := by
  obtain ⟨bn, bf, wv, ns, nn, nf, h1, h2, h3, h4, h5, h6, h7, h8, h9, h10, h11, h12⟩ := h
  exact ⟨bn, bf, wv, ns, nn, nf, c.blk h1 (fun hs => hS _ _ hs h9), c.nm h2 (fun hs => hS _ _ hs h10), c.nm h3 (fun hs => hS _ _ hs h11), h4, h5, c.own h6 (fun b hb hs => hS _ _ hs (h12 b hb)), h7, h8, h9, h10, h11, h12⟩
theorem DirI.reown (h : DirI w base own g M) (ho : ∀ b, b < w.heap.size → own' b = own b) : DirI w base own' g M := by
  obtain ⟨bn, bf, wv, ns, nn, nf, h1, h2, h3, h4, h5, h6, h7, h8, h9, h10, h11, h12⟩ := h
  exact ⟨bn, bf, wv, ns, nn, nf, h1, h2, h3, h4, h5, h6, h7, h8, by rw [ho _ (Blk.lt h1)]; exact h9, by rw [ho _ h2.lt]; exact h10, by rw [ho _ h3.lt]; exact h11, fun b hb => by rw [ho b (h6.lt b hb).2]; exact h12 b hb⟩
theorem DirI.cong {M' : Me} (h : DirI w base own g M) (e1 : M'.room = M.room) (e2 : M'.left = M.left) (e3 : M'.off = M.off) (e4 : M'.now = M.now) (e5 : M'.fast = M.fast) (e6 : M'.wait = M.wait) (e7 : M.cnt ≤ M'.cnt) : DirI w base own g M' := by
  obtain ⟨bn, bf, wv, ns, nn, nf, h1, h2, h3, h4, h5, h6, h7, h8, h9⟩ := h
  exact ⟨bn, bf, wv, ns, nn, nf, by rw [e1, e2, e3]; exact h1, by rw [e4]; exact h2, by rw [e5]; exact h3, by omega, by rw [e6]; omega, by rw [e6]; exact h6, by rw [e6]; exact h7, by rw [e6]; omega, h9⟩
theorem MedI.keep (h : MedI w base own g M) (c : Chg w w' S) (hS : ∀ b, S b → own b = none) : MedI w' base own g M where
  dir := h.dir.keep c (fun b k hs e => by rw [hS b hs] at e; cases e)
  files := h.files.keep c (fun b gf k F hs _ e => by rw [hS b hs] at e; cases e)
  dom := fun b hb => ⟨(h.dom b hb).1, Nat.lt_of_lt_of_le (h.dom b hb).2 c.size⟩
  low := Nat.le_trans h.low c.size
  nog := h.nog
theorem MedI.still (h : MedI w base own g M) (s : Still w w') : MedI w' base own g M := h.keep (Chg.of_still s (fun _ => False)) (fun _ h => h.elim)
end
/-- What lies below is nobody's. -/
theorem MedI.below {w : World} {base g : Nat} {own : Own} {M : Me} (h : MedI w base own g M) : ∀ b, b < base → own b = none ∧ b < w.heap.size := fun b hp => by
  have hl := h.low
  refine ⟨?_, by omega⟩
  cases hq : own b with
  | none => rfl
  | some q => have := (h.dom b (by rw [hq]; simp)).1; omega
/-- A file behind a crash. -/
def Fi.crash (F : Fi) (zs : List Int) : Fi := ⟨crashL F.fast F.wait zs, crashL F.fast F.wait zs, []⟩
theorem Fi.crash_ok {F : Fi} (h : F.ok) (zs : List Int) : (F.crash zs).ok := ⟨rfl, ChOK.nil (crashL_len zs h.2)⟩
theorem fcrash_I {w : World} {base gf gl : Nat} {B : Nat → Prop} {own : Own} {F : Fi} {zs : List Int} (h : FileI w base own gf F) (hok : F.ok) (hb : base ≤ gf) (hw6 : F.wait.length ≤ 1000000) (hlow : base ≤ w.heap.size) (hdom : ∀ b, own b ≠ none → base ≤ b ∧ b < w.heap.size)
    (hT : TK w B gl zs) (hgl : own gl = none) (hB : ¬ B gl) (hBo : ∀ b, B b → own b = none ∧ b < w.heap.size) :
    Calls Tryz.prog 103 #[.pointer (some ⟨gf, 0, none⟩), .func (.func 160) #[] #[.pointer (some ⟨gl, 0, none⟩)]] w fun e w' => e = .returned (.tuple #[]) ∧ TK w' B gl zs.tail.tail ∧ Chg w w' (fun b => b = gl ∨ ∃ k, own b = some (gf, k)) ∧ ∃ own' : Own, (∀ b, b < w.heap.size → own' b = own b) ∧ (∀ b, own' b ≠ none → base ≤ b ∧ b < w'.heap.size) ∧ FileI w' base own' gf (F.crash zs) := by
  obtain ⟨nv, fv, wv, cs, h1, h2, h3, h4, h5, h6, h7, h8, h9⟩ := h
  refine (fcrash_any gf gl nv fv wv base B F.fast F.wait cs _ zs h1 h4 h5 h3 (fun b hb i e => by rw [h8 b hb] at e; simp at e; omega) (fun i e => by rw [h6] at e; simp at e; omega) (fun i e => by rw [hgl] at e; cases e) hlow hw6 hok.2 hT hB (fun b hb hp => by have := (hBo b hp).1; rw [h8 b hb] at this; cases this) (fun hp => by have := (hBo gf hp).1; rw [h6] at this; cases this) (fun b hp => (hBo b hp).2)).mono ?_
  rintro e w' ⟨he, nv', fv', g1, g2, g3, g4, g5, g6, g7⟩
  have hsz := g5.size
  refine ⟨he, g4, g5.mono ?_, fun b => if nv'.ownBlock = some b then some (gf, 1) else if fv'.ownBlock = some b then some (gf, 2) else own b, ?_, ?_, ?_⟩
  · rintro b hb (rfl | rfl | hs)
    · exact .inr ⟨0, h6⟩
    · exact .inl rfl
    · exact .inr ⟨2, h8 b hs⟩
  · intro b hb
    show (if nv'.ownBlock = some b then some (gf, 1) else if fv'.ownBlock = some b then some (gf, 2) else own b) = own b
    rw [if_neg (fun e => by have := (g2.lt b e).1; omega)]
    split
    · rename_i e
      rcases g6 with h | ⟨j, h, hj⟩
      · rw [h] at e; exact (h8 b e).symm
      · rw [h] at e; injection e with e; omega
    · rfl
  · intro b hb
    change (if nv'.ownBlock = some b then some (gf, 1) else if fv'.ownBlock = some b then some (gf, 2) else own b) ≠ none at hb
    split at hb
    · rename_i e; exact ⟨Nat.le_trans hlow (g2.lt b e).1, (g2.lt b e).2⟩
    · split at hb
      · rename_i e; exact g3.lt b e
      · have := hdom b hb; omega
  · have nsome : ∀ b, nv'.ownBlock = some b → (if nv'.ownBlock = some b then some (gf, 1) else if fv'.ownBlock = some b then some (gf, 2) else own b) = some (gf, 1) := fun b hb => if_pos hb
    refine ⟨nv', fv', .slice none 0 0, [], g1, own_low g2 hlow, g3, World.ownsRow_nil _ _ _ _, HasC.nil _ _ _, ?_, nsome, ?_, fun b hb => by simp [Value.ownBlock] at hb⟩
    · show (if nv'.ownBlock = some gf then some (gf, 1) else if fv'.ownBlock = some gf then some (gf, 2) else own gf) = _
      rw [if_neg (own_neM g1 g2 (by decide)), if_neg (own_neM g1 g3 (by decide))]
      exact h6
    · intro b hb
      show (if nv'.ownBlock = some b then some (gf, 1) else if fv'.ownBlock = some b then some (gf, 2) else own b) = _
      rw [if_neg (fun e => g7 b e hb), if_pos hb]
end Go.Proofs.YtfneloobfidckaaGreatDoor

/- Contracts: slices.Sorted(maps.Keys(m)) and maps.Clone of a map of names. It proves no statement. -/


namespace Go.Proofs.YtfneloobfidckaaGreatDoor
open Go.RowKit Go.Maps Go.WideMaps Go.Sort Go.Shelf
set_option linter.unusedVariables false
set_option linter.unusedSimpArgs false

theorem keys_any (b : Nat) (W : World) : Calls Tryz.prog 102 #[.map (some b)] W fun e w' => e = .returned (.func (.func 164) #[] #[.pointer (some ⟨W.heap.size, 0, none⟩)]) ∧ w' = W.alloc (.cells #[.map (some b)] 144) :=
  callsIn_wide.1 (Tryz.maps_keys (some b) W)
/-- Names, as the model's values. -/
def namesV (N : NT) : List Value := (N.map (·.1)).map encStr
theorem namesV_length (N : NT) : (namesV N).length = N.length := by simp [namesV]
theorem namesV_get (N : NT) (i : Nat) (p : List UInt8 × Nat) (h : N[i]? = some p) : (namesV N)[i]? = some (.string ⟨p.1.toArray⟩) := by
  simp [namesV, h]
theorem sortedkeys_any (N : NT) (hN : Rising N) (b n : Nat) (W : World) (hown : NM W b n (nmD N)) (hlen : N.length ≤ 1000000) :
    Calls Tryz.prog 101 #[.func (.func 164) #[] #[.pointer (some ⟨W.heap.size, 0, none⟩)]] (W.alloc (.cells #[.map (some b)] 144)) fun e w' => (∃ v, e = .returned v ∧ w'.ownsRow W.heap.size 9 1 v N.length (namesV N)) ∧ Still W w' := by
  refine (callsIn_wide.1 (Tryz.sorted_keys b n (nmD N) ptrElem W hown (by rw [size_nm]; unfold maxLen; omega) (by rw [size_nm]; omega))).mono ?_
  rintro e w' ⟨v, ss, he, hp, hrow, _, hb⟩
  rw [keys_nm] at hp
  have hl : ss.length = N.length := by rw [hp.length_eq, List.length_map]
  rw [hN.sorted hp, hl] at hrow
  have s1 : Still W (W.alloc (.cells #[.map (some b)] 144)) := (Still.refl W).alloc (Nat.le_refl _) _
  exact ⟨⟨v, he, own_low hrow s1.size⟩, Below.trans s1 (hb.mono s1.size)⟩
theorem mclone_any (N : NT) (b n : Nat) (W : World) (hown : NM W b n (nmD N)) :
    Calls Tryz.prog 104 #[.map (some b)] W fun e w' => e = .returned (.map (some W.heap.size)) ∧ NM w' W.heap.size n (nmD N) ∧ Still W w' := by
  have h := AnyW.maps_Clone_owns Tryz.clonem 9 ptrElem b n (nmD N) W hown
  exact h.mono fun e w' ⟨h1, h2, _, h3⟩ => ⟨h1, h2, h3⟩
end Go.Proofs.YtfneloobfidckaaGreatDoor
