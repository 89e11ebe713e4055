/- Contracts and facts, several texts in one. It proves no statement. -/
import Derived.Test.YtljacdbdjacbkaaGreatDkRot
import Derived.Test.YtljacdbdjacbkaaGreatMpGzd

/- The document's disk and the program's medium side by side: names. Mathematics; it proves no statement. -/



namespace Go.Proofs.YtljacdbdjacbkaaGreat
open Go.RowKit Go.Maps Go.WideMaps Go.Sort
set_option linter.unusedVariables false
set_option linter.unusedSimpArgs false

def mapN (φ : Nat → Nat) (N : NT) : NT := N.map fun p => (p.1, φ p.2)
section
variable {φ : Nat → Nat}
theorem mapN_length (N : NT) : (mapN φ N).length = N.length := List.length_map _
theorem mapN_del (N : NT) (s : List UInt8) : nDel (mapN φ N) s = mapN φ (nDel N s) := by
  unfold nDel mapN
  rw [List.filter_map]
  rfl
theorem mapN_ins (x : List UInt8 × Nat) (N : NT) : nIns (x.1, φ x.2) (mapN φ N) = mapN φ (nIns x N) := by
  induction N with
  | nil => rfl
  | cons y r ih =>
    show nIns (x.1, φ x.2) ((y.1, φ y.2) :: mapN φ r) = _
    unfold nIns
    split
    · rename_i h
      rfl
    · rename_i h
      rw [ih]
      rfl
theorem mapN_put (N : NT) (s : List UInt8) (f : Nat) : nPut (mapN φ N) s (φ f) = mapN φ (nPut N s f) := by
  unfold nPut
  rw [mapN_del]
  exact mapN_ins (s, f) _
theorem mapN_find (N : NT) (s : List UInt8) : nFind (mapN φ N) s = (nFind N s).map φ := by
  unfold nFind mapN
  rw [List.find?_map]
  have e : ((fun p : List UInt8 × Nat => p.1 == s) ∘ fun p : List UInt8 × Nat => (p.1, φ p.2)) = fun p => p.1 == s := rfl
  rw [e]
  cases N.find? fun p => p.1 == s <;> rfl
end
theorem bE_iff (s : ByteArray) : bE s = true ↔ s.data.toList = [] := by
  unfold bE
  rw [ByteArray.toList_eq, List.isEmpty_iff]
/-- No name is empty. -/
def Full (N : NT) : Prop := ∀ p ∈ N, p.1 ≠ []
theorem Full.del {N : NT} (h : Full N) (s : List UInt8) : Full (nDel N s) := fun p hp => h p (List.mem_filter.1 hp).1
theorem Full.put {N : NT} (h : Full N) (s : List UInt8) (f : Nat) (hs : s ≠ []) : Full (nPut N s f) := fun p hp => by
  rcases mem_ins.1 hp with rfl | hp
  · exact hs
  · exact h.del s p hp
theorem Full.del_nil {N : NT} (h : Full N) : nDel N [] = N := by
  unfold nDel
  rw [List.filter_eq_self]
  intro p hp
  simpa using h p hp
theorem lk1_eq {N : NT} (h : Full N) (x : Lk) : lk1 N x = nDel N x.s.data.toList := by
  unfold lk1
  split
  · rename_i e
    rw [(bE_iff _).1 e, h.del_nil]
  · rfl
theorem Full.lk {N : NT} (h : Full N) (x : Lk) : Full (lkD N x) := by
  unfold lkD
  split
  · rw [lk1_eq h]; exact h.del _
  · rename_i e
    rw [lk1_eq h]
    exact (h.del _).put _ _ (fun e2 => e ((bE_iff _).2 e2))
/-- A change of names, by the program. -/
def lkM (φ : Nat → Nat) (x : Lk) : ByteArray × ByteArray × Int := (x.s, x.t, if bE x.t = true then -1 else (φ x.f : Int))
theorem step_sim {φ : Nat → Nat} {N : NT} (h : Full N) (x : Lk) : nmStep (mapN φ N) (lkM φ x) = mapN φ (lkD N x) := by
  unfold nmStep lkD lkM
  by_cases e : bE x.t = true
  · rw [if_pos e, if_pos e, if_pos (show (-1 : Int) < 0 by decide), lk1_eq h, mapN_del]
  · rw [if_neg e, if_neg e, if_neg (by show ¬ ((φ x.f : Nat) : Int) < 0; omega), lk1_eq h, mapN_del]
    show nPut _ _ ((φ x.f : Nat) : Int).toNat = _
    rw [Int.toNat_natCast, mapN_put]
theorem full_foldl {N : NT} (h : Full N) (X : List Lk) : Full (X.foldl lkD N) := by
  induction X generalizing N with
  | nil => exact h
  | cons x r ih => exact ih (h.lk x)
theorem namesD_full {D : Dk} (h : Full D.fast) (j : Nat) : Full (namesD D j) := full_foldl h _
theorem steps_sim {φ : Nat → Nat} {N : NT} (h : Full N) (X : List Lk) : nmSteps (mapN φ N) (X.map (lkM φ)) = mapN φ (X.foldl lkD N) := by
  unfold nmSteps
  induction X generalizing N with
  | nil => rfl
  | cons x r ih =>
    rw [List.map_cons, List.foldl_cons, List.foldl_cons, step_sim h, ih (h.lk x)]
/-! ### Files -/
structure SimF (G : Fi) (F : DFi) : Prop where
  now : G.now = F.now
  fast : G.fast = F.fast
  len : G.wait.length = F.waits.length
  each : ∀ (j : Nat) (c : Ch) (x : DCh), G.wait[j]? = some c → F.waits[j]? = some x → (x.cut = true → x.k = (c.fin : Int) ∧ c.more = []) ∧ (x.cut = false → c.fin = (bytesD F j).length ∧ c.more = x.b)
  bare : ∀ x ∈ F.waits, x.cut = true → x.b = []
theorem SimF.bytes {G : Fi} {F : DFi} (h : SimF G F) (j : Nat) (hj : j ≤ F.waits.length) : bytesD F j = appAll G.fast (G.wait.take j) := by
  induction j with
  | zero => exact h.fast.symm
  | succ j ih =>
    have hx := List.getElem?_eq_getElem (show j < F.waits.length by omega)
    have hc := List.getElem?_eq_getElem (show j < G.wait.length by rw [h.len]; omega)
    have ih := ih (by omega)
    rw [bytesD_succ F j _ hx, appAll_step _ _ j _ hc, ← ih]
    obtain ⟨e1, e2⟩ := h.each j _ _ hc hx
    unfold appD
    cases hcu : (F.waits[j]).cut
    · obtain ⟨q1, q2⟩ := e2 hcu
      rw [if_neg (by simp), q1, q2, List.take_length]
    · obtain ⟨q1, q2⟩ := e1 hcu
      rw [if_pos rfl, q1, q2, List.append_nil, Int.toNat_natCast]
end Go.Proofs.YtljacdbdjacbkaaGreat

/- The document's disk and the program's medium side by side: the relation and the calls that only read or set. Mathematics; it proves no statement. -/

namespace Go.Proofs.YtljacdbdjacbkaaGreat
open Go.RowKit Go.Maps Go.WideMaps Go.Sort
set_option linter.unusedVariables false
set_option linter.unusedSimpArgs false

/-- The program's medium tells what the document's disk tells; φ says which block of the program holds a file of the document's. -/
structure Sim (φ : Nat → Nat) (M : Me) (D : Dk) : Prop where
  room : M.room = D.room
  off : M.off = D.off
  left : (D.armed = false ∧ M.left = -1) ∨ (D.armed = true ∧ M.left = D.left)
  least : 0 ≤ D.left ∧ D.left ≤ 9223372036854775807
  now : M.now = mapN φ D.now
  fast : M.fast = mapN φ D.fast
  wait : M.wait = D.waits.map (lkM φ)
  eqn : D.now = D.waits.foldl lkD D.fast
  full : Full D.fast
  idxf : ∀ p ∈ D.fast, p.2 < D.files.length
  idxw : ∀ x ∈ D.waits, x.f < D.files.length
  inj : ∀ i j, i < D.files.length → j < D.files.length → φ i = φ j → i = j
  files : ∀ (i : Nat) (F : DFi), D.files[i]? = some F → ∃ G, M.fs (φ i) = some G ∧ SimF G F
  few : D.files.length ≤ M.cnt

theorem lkD_mem {N : NT} {x : Lk} {p : List UInt8 × Nat} (hp : p ∈ lkD N x) : p ∈ N ∨ p.2 = x.f := by
  have h1 : ∀ q, q ∈ lk1 N x → q ∈ N := by
    intro q hq
    unfold lk1 at hq
    split at hq
    · exact hq
    · exact (List.mem_filter.1 hq).1
  unfold lkD at hp
  split at hp
  · exact .inl (h1 p hp)
  · rcases mem_ins.1 hp with rfl | hp
    · exact .inr rfl
    · exact .inl (h1 p (List.mem_filter.1 hp).1)
theorem foldl_mem {n : Nat} {X : List Lk} : ∀ {N : NT}, (∀ p ∈ N, p.2 < n) → (∀ x ∈ X, x.f < n) → ∀ p ∈ X.foldl lkD N, p.2 < n := by
  induction X with
  | nil => exact fun h _ => h
  | cons x r ih =>
    intro N h hx
    refine ih (fun p hp => ?_) (fun y hy => hx y (List.mem_cons_of_mem _ hy))
    rcases lkD_mem hp with h1 | h1
    · exact h p h1
    · rw [h1]; exact hx x List.mem_cons_self
theorem Sim.idx {φ : Nat → Nat} {M : Me} {D : Dk} (h : Sim φ M D) (j : Nat) : ∀ p ∈ namesD D j, p.2 < D.files.length :=
  foldl_mem h.idxf (fun x hx => h.idxw x (List.mem_of_mem_take hx))
theorem Sim.nowx {φ : Nat → Nat} {M : Me} {D : Dk} (h : Sim φ M D) : ∀ p ∈ D.now, p.2 < D.files.length := by
  rw [h.eqn]; exact foldl_mem h.idxf h.idxw
theorem Sim.fulln {φ : Nat → Nat} {M : Me} {D : Dk} (h : Sim φ M D) : Full D.now := by
  rw [h.eqn]; exact full_foldl h.full _
theorem Sim.names {φ : Nat → Nat} {M : Me} {D : Dk} (h : Sim φ M D) (j : Nat) : nmSteps M.fast (M.wait.take j) = mapN φ (namesD D j) := by
  rw [h.fast, h.wait, ← List.map_take]
  exact steps_sim h.full _
theorem Sim.find {φ : Nat → Nat} {M : Me} {D : Dk} (h : Sim φ M D) (s : List UInt8) : nFind M.now s = (nFind D.now s).map φ := by
  rw [h.now, mapN_find]
/-- A name's file, on both sides. -/
theorem Sim.file {φ : Nat → Nat} {M : Me} {D : Dk} (h : Sim φ M D) {s : List UInt8} {f : Nat} (hs : nFind D.now s = some f) : ∃ F G, D.files[f]? = some F ∧ M.fs (φ f) = some G ∧ SimF G F ∧ f < D.files.length := by
  have hf := h.nowx _ (nFind_mem hs)
  obtain ⟨G, g1, g2⟩ := h.files f _ (List.getElem?_eq_getElem hf)
  exact ⟨_, G, List.getElem?_eq_getElem hf, g1, g2, hf⟩
theorem Sim.look {φ : Nat → Nat} {M : Me} {D : Dk} (h : Sim φ M D) (s : ByteArray) :
    (D.off = true ∧ M.find s = .inl 12) ∨ (D.off = false ∧ nFind D.now s.data.toList = none ∧ M.find s = .inl 9)
    ∨ ∃ f F G, D.off = false ∧ nFind D.now s.data.toList = some f ∧ D.files[f]? = some F ∧ M.fs (φ f) = some G ∧ SimF G F ∧ f < D.files.length ∧ M.find s = .inr (φ f, G) := by
  unfold Me.find
  cases ho : D.off
  · rw [if_neg (by rw [h.off, ho]; decide), h.find]
    cases hs : nFind D.now s.data.toList with
    | none => exact .inr (.inl ⟨rfl, rfl, rfl⟩)
    | some f =>
      obtain ⟨F, G, a, b, c, d⟩ := h.file hs
      refine .inr (.inr ⟨f, F, G, rfl, rfl, a, b, c, d, ?_⟩)
      simp only [Option.map_some, b]
  · rw [if_pos (by rw [h.off, ho])]
    exact .inl ⟨rfl, rfl⟩
theorem Sim.read {φ : Nat → Nat} {M : Me} {D : Dk} (h : Sim φ M D) (s : ByteArray) (x y : Int) : opRead M s x y = readD D s.data.toList x y := by
  unfold opRead readD
  rcases h.look s with ⟨a, b⟩ | ⟨a, b, c⟩ | ⟨f, F, G, a, b, c, d, e, _, g⟩
  · rw [b, if_pos a]
  · rw [c, if_neg (by rw [a]; decide), b]
  · rw [g, if_neg (by rw [a]; decide), b]
    simp only [c, e.now]
    by_cases h0 : x < 0 ∨ y < 0
    · rw [if_pos h0, if_pos h0]
    · rw [if_neg h0, if_neg h0]
      by_cases h1 : (F.now.length : Int) < x ∨ (F.now.length : Int) - x < y
      · rw [if_pos h1, if_pos (by omega)]
      · rw [if_neg h1, if_neg (by omega)]
theorem Sim.arm {φ : Nat → Nat} {M : Me} {D : Dk} (h : Sim φ M D) (n : Int) (hn : n ≤ 9223372036854775807) : (opArm M n).1 = (armD D n).1 ∧ Sim φ (opArm M n).2 (armD D n).2 := by
  unfold opArm armD
  rw [h.off]
  by_cases ho : D.off = true
  · rw [if_pos ho, if_pos ho]; exact ⟨rfl, h⟩
  rw [if_neg ho, if_neg ho]
  by_cases h0 : n < 0
  · rw [if_pos h0, if_pos h0]; exact ⟨rfl, h⟩
  rw [if_neg h0, if_neg h0]
  exact ⟨rfl, h.room, rfl, .inr ⟨rfl, rfl⟩, ⟨by show 0 ≤ n; omega, hn⟩, h.now, h.fast, h.wait, h.eqn, h.full, h.idxf, h.idxw, h.inj, h.files, h.few⟩
theorem Sim.setRoom {φ : Nat → Nat} {M : Me} {D : Dk} (h : Sim φ M D) (n : Int) : (opSetRoom M n).1 = (roomD D n).1 ∧ Sim φ (opSetRoom M n).2 (roomD D n).2 := by
  unfold opSetRoom roomD
  rw [h.off]
  by_cases ho : D.off = true
  · rw [if_pos ho, if_pos ho]; exact ⟨rfl, h⟩
  rw [if_neg ho, if_neg ho]
  by_cases h0 : n < 0 ∨ 16777216 < n
  · rw [if_pos h0, if_pos (by unfold roomOK; rw [decide_eq_false_iff_not]; omega)]; exact ⟨rfl, h⟩
  rw [if_neg h0, if_neg (by unfold roomOK; rw [decide_eq_false_iff_not]; omega)]
  exact ⟨rfl, rfl, rfl, h.left, h.least, h.now, h.fast, h.wait, h.eqn, h.full, h.idxf, h.idxw, h.inj, h.files, h.few⟩
/-- A step: both go on, or both sides' power is cut. -/
theorem Sim.step {φ : Nat → Nat} {M : Me} {D : Dk} (h : Sim φ M D) : (M.left = 0 ∧ (stepD D).1 = 12 ∧ Sim φ M.dead (stepD D).2) ∨ (M.left ≠ 0 ∧ (stepD D).1 = 0 ∧ Sim φ { M with left := stepL M.left } (stepD D).2 ∧ (stepD D).2 = { D with left := (stepD D).2.left }) := by
  have hl := h.least
  unfold stepD
  rcases h.left with ⟨a, b⟩ | ⟨a, b⟩
  · rw [if_neg (by rw [a]; decide)]
    refine .inr ⟨by rw [b]; decide, rfl, ?_, rfl⟩
    rw [b, stepL_on]
    exact ⟨h.room, h.off, .inl ⟨a, rfl⟩, h.least, h.now, h.fast, h.wait, h.eqn, h.full, h.idxf, h.idxw, h.inj, h.files, h.few⟩
  · rw [if_pos a]
    by_cases h0 : D.left = 0
    · rw [if_pos h0]
      exact .inl ⟨by rw [b, h0], rfl, h.room, rfl, h.left, h.least, h.now, h.fast, h.wait, h.eqn, h.full, h.idxf, h.idxw, h.inj, h.files, h.few⟩
    · rw [if_neg h0]
      refine .inr ⟨by rw [b]; exact h0, rfl, ?_, rfl⟩
      have e : stepL M.left = D.left - 1 := by
        unfold stepL stepR
        rw [b, if_neg h0, if_pos (by omega)]
      rw [e]
      exact ⟨h.room, h.off, .inr ⟨a, rfl⟩, ⟨by show 0 ≤ D.left - 1; omega, by show D.left - 1 ≤ 9223372036854775807; omega⟩, h.now, h.fast, h.wait, h.eqn, h.full, h.idxf, h.idxw, h.inj, h.files, h.few⟩
end Go.Proofs.YtljacdbdjacbkaaGreat

/- The document's disk and the program's medium side by side: names change. Mathematics; it proves no statement. -/

namespace Go.Proofs.YtljacdbdjacbkaaGreat
open Go.RowKit Go.Maps Go.WideMaps Go.Sort
set_option linter.unusedVariables false
set_option linter.unusedSimpArgs false

theorem bE_nil : bE (⟨#[]⟩ : ByteArray) = true := (bE_iff _).2 rfl
theorem step_same {φ : Nat → Nat} {N : NT} (h : Full N) (x : Lk) : mapN φ (lkD N x) = nmStep (mapN φ N) (lkM φ x) := (step_sim h x).symm
/-- A change of names, without a file more. -/
theorem Sim.link {φ : Nat → Nat} {M : Me} {D : Dk} (h : Sim φ M D) (x : Lk) (hx : x.f < D.files.length) : Sim φ { M with now := nmStep M.now (lkM φ x), wait := M.wait ++ [lkM φ x], cnt := M.cnt + 1 } (movedD D x) where
  room := h.room
  off := h.off
  left := h.left
  least := h.least
  now := by
    show nmStep M.now (lkM φ x) = mapN φ (lkD D.now x)
    rw [h.now, step_sim h.fulln]
  fast := h.fast
  wait := by
    show M.wait ++ [lkM φ x] = (D.waits ++ [x]).map (lkM φ)
    rw [h.wait, List.map_append]
    rfl
  eqn := by
    show lkD D.now x = (D.waits ++ [x]).foldl lkD D.fast
    rw [List.foldl_append, ← h.eqn]
    rfl
  full := h.full
  idxf := h.idxf
  idxw := fun y hy => by
    rcases List.mem_append.1 (show y ∈ D.waits ++ [x] from hy) with hy | hy
    · exact h.idxw y hy
    · rw [List.mem_singleton.1 hy]; exact hx
  inj := h.inj
  files := h.files
  few := Nat.le_succ_of_le h.few
/-- A file more. -/
theorem Sim.more {φ : Nat → Nat} {M : Me} {D : Dk} (h : Sim φ M D) (gf : Nat) (hg : M.fs gf = none) :
    Sim (fun i => if i = D.files.length then gf else φ i) { M with fs := upd M.fs gf ⟨[], [], []⟩, cnt := M.cnt + 1 } { D with files := D.files ++ [⟨[], [], []⟩] } := by
  have hold : ∀ i, i < D.files.length → (if i = D.files.length then gf else φ i) = φ i := fun i hi => if_neg (by omega)
  have hmap : ∀ N : NT, (∀ p ∈ N, p.2 < D.files.length) → mapN φ N = mapN (fun i => if i = D.files.length then gf else φ i) N := by
    intro N hN
    unfold mapN
    refine List.map_congr_left fun p hp => ?_
    show (p.1, φ p.2) = (p.1, if p.2 = D.files.length then gf else φ p.2)
    rw [hold _ (hN p hp)]
  have hne : ∀ i, i < D.files.length → φ i ≠ gf := by
    intro i hi e
    obtain ⟨G, g1, _⟩ := h.files i _ (List.getElem?_eq_getElem hi)
    rw [e, hg] at g1
    cases g1
  exact {
    room := h.room
    off := h.off
    left := h.left
    least := h.least
    now := h.now.trans (hmap _ h.nowx)
    fast := h.fast.trans (hmap _ h.idxf)
    wait := by
      refine h.wait.trans ?_
      refine List.map_congr_left fun x hx => ?_
      show (x.s, x.t, if bE x.t = true then -1 else ((φ x.f : Nat) : Int)) = (x.s, x.t, if bE x.t = true then -1 else (((if x.f = D.files.length then gf else φ x.f : Nat)) : Int))
      rw [hold _ (h.idxw x hx)]
    eqn := h.eqn
    full := h.full
    idxf := fun p hp => by have := h.idxf p hp; show p.2 < (D.files ++ [_]).length; rw [List.length_append]; simp; omega
    idxw := fun x hx => by have := h.idxw x hx; show x.f < (D.files ++ [_]).length; rw [List.length_append]; simp; omega
    inj := fun i j hi hj e => by
      have hi : i < D.files.length + 1 := by simpa using hi
      have hj : j < D.files.length + 1 := by simpa using hj
      have e : (if i = D.files.length then gf else φ i) = (if j = D.files.length then gf else φ j) := e
      by_cases e1 : i = D.files.length
      · by_cases e2 : j = D.files.length
        · rw [e1, e2]
        · rw [if_pos e1, if_neg e2] at e
          exact absurd e.symm (hne j (by omega))
      · by_cases e2 : j = D.files.length
        · rw [if_neg e1, if_pos e2] at e
          exact absurd e (hne i (by omega))
        · rw [if_neg e1, if_neg e2] at e
          exact h.inj i j (by omega) (by omega) e
    files := fun i F hF => by
      have hF : (D.files ++ [⟨[], [], []⟩])[i]? = some F := hF
      by_cases hi : i < D.files.length
      · rw [List.getElem?_append_left hi] at hF
        obtain ⟨G, g1, g2⟩ := h.files i F hF
        refine ⟨G, ?_, g2⟩
        show upd M.fs gf _ (if i = D.files.length then gf else φ i) = some G
        rw [hold i hi]
        unfold upd
        rw [if_neg (hne i hi), g1]
      · have hl := (List.getElem?_eq_some_iff.1 hF).1
        have hi2 : i = D.files.length := by
          rw [List.length_append] at hl
          simp at hl
          omega
        subst hi2
        rw [List.getElem?_append_right (Nat.le_refl _), Nat.sub_self] at hF
        have e : F = ⟨[], [], []⟩ := by simpa using hF.symm
        subst e
        refine ⟨⟨[], [], []⟩, ?_, ⟨rfl, rfl, rfl, fun j c x hc => by simp at hc, fun x hx => by cases hx⟩⟩
        show upd M.fs gf _ (if D.files.length = D.files.length then gf else φ D.files.length) = some _
        rw [if_pos rfl]
        unfold upd
        rw [if_pos rfl]
    few := by have := h.few; show (D.files ++ [_]).length ≤ M.cnt + 1; rw [List.length_append]; simp; omega }
theorem Sim.syncDir {φ : Nat → Nat} {M : Me} {D : Dk} (h : Sim φ M D) : Sim φ { M with fast := M.now, wait := [] } (syncDirD D) :=
  ⟨h.room, h.off, h.left, h.least, h.now, h.now, rfl, rfl, h.fulln, h.nowx, fun x hx => (by cases hx), h.inj, h.files, h.few⟩
end Go.Proofs.YtljacdbdjacbkaaGreat

/- The document's disk and the program's medium side by side: a file changes; the calls that write. Mathematics; it proves no statement. -/

namespace Go.Proofs.YtljacdbdjacbkaaGreat
open Go.RowKit Go.Maps Go.WideMaps Go.Sort
set_option linter.unusedVariables false
set_option linter.unusedSimpArgs false

theorem Sim.put {φ : Nat → Nat} {M : Me} {D : Dk} (h : Sim φ M D) {f : Nat} (hf : f < D.files.length) {G : Fi} {F : DFi} (hs : SimF G F) (n : Nat) (hn : M.cnt ≤ n) : Sim φ { M with fs := upd M.fs (φ f) G, cnt := n } { D with files := D.files.set f F } where
  room := h.room
  off := h.off
  left := h.left
  least := h.least
  now := h.now
  fast := h.fast
  wait := h.wait
  eqn := h.eqn
  full := h.full
  idxf := fun p hp => by rw [List.length_set]; exact h.idxf p hp
  idxw := fun x hx => by rw [List.length_set]; exact h.idxw x hx
  inj := fun i j hi hj => h.inj i j (by rw [List.length_set] at hi; exact hi) (by rw [List.length_set] at hj; exact hj)
  files := fun i H hH => by
    have hH : (D.files.set f F)[i]? = some H := hH
    rw [List.getElem?_set] at hH
    by_cases e : f = i
    · subst e
      rw [if_pos rfl, if_pos hf] at hH
      cases hH
      exact ⟨G, upd_same _ _ _, hs⟩
    · rw [if_neg e] at hH
      obtain ⟨G', g1, g2⟩ := h.files i H hH
      have hi := (List.getElem?_eq_some_iff.1 hH).1
      exact ⟨G', (upd_other _ _ (fun e2 => e (h.inj _ _ hf hi e2.symm))).trans g1, g2⟩
  few := by rw [List.length_set]; exact Nat.le_trans h.few hn
theorem SimF.synced {G : Fi} {F : DFi} (h : SimF G F) : SimF G.synced ⟨F.now, F.now, []⟩ := ⟨h.now, h.now, rfl, fun j c x hc => by simp [Fi.synced] at hc, fun x hx => by cases hx⟩
theorem SimF.wrote {G : Fi} {F : DFi} (h : SimF G F) (hok : G.ok) (c : Ch) (x : DCh) (h1 : x.cut = true → x.k = (c.fin : Int) ∧ c.more = []) (h2 : x.cut = false → c.fin = F.now.length ∧ c.more = x.b) (h3 : x.cut = true → x.b = []) : SimF (G.wrote c) (byteFi F x) where
  now := by
    show c.app G.now = appD F.now x
    unfold Ch.app appD
    rw [h.now]
    cases hc : x.cut
    · obtain ⟨a, b⟩ := h2 hc
      rw [if_neg (by decide), a, b, List.take_length]
    · obtain ⟨a, b⟩ := h1 hc
      rw [if_pos rfl, a, b, List.append_nil, Int.toNat_natCast]
  fast := h.fast
  bare := fun y hy => by
    rcases List.mem_append.1 (show y ∈ F.waits ++ [x] from hy) with hy | hy
    · exact h.bare y hy
    · rw [List.mem_singleton.1 hy]; exact h3
  len := by
    show (G.wait ++ [c]).length = (F.waits ++ [x]).length
    rw [List.length_append, List.length_append, h.len]
    rfl
  each := fun j d y hd hy => by
    have hd : (G.wait ++ [c])[j]? = some d := hd
    have hy : (F.waits ++ [x])[j]? = some y := hy
    have hb : j ≤ F.waits.length → bytesD (byteFi F x) j = bytesD F j := by
      intro hj
      unfold bytesD byteFi
      rw [List.take_append_of_le_length hj]
    by_cases hj : j < F.waits.length
    · rw [List.getElem?_append_left hj] at hy
      rw [List.getElem?_append_left (by rw [h.len]; exact hj)] at hd
      rw [hb (by omega)]
      exact h.each j d y hd hy
    · have hl := (List.getElem?_eq_some_iff.1 hy).1
      have hj2 : j = F.waits.length := by rw [List.length_append] at hl; simp at hl; omega
      subst hj2
      rw [List.getElem?_append_right (Nat.le_refl _), Nat.sub_self] at hy
      rw [List.getElem?_append_right (by rw [h.len]; exact Nat.le_refl _), h.len, Nat.sub_self] at hd
      have e1 : y = x := by simpa using hy.symm
      have e2 : d = c := by simpa using hd.symm
      subst e1 e2
      have e3 : bytesD F F.waits.length = F.now := by
        rw [h.bytes _ (Nat.le_refl _), ← h.len, List.take_length, ← hok.1, h.now]
      rw [hb (Nat.le_refl _), e3]
      exact ⟨h1, h2⟩
theorem Sim.used {φ : Nat → Nat} {M : Me} {D : Dk} (h : Sim φ M D) : M.used = usedD D D.now := by
  rw [used_sumN, h.now]
  unfold sumN usedD mapN
  rw [List.map_map]
  congr 1
  refine List.map_congr_left fun p hp => ?_
  have hp := h.nowx p hp
  obtain ⟨G, g1, g2⟩ := h.files p.2 _ (List.getElem?_eq_getElem hp)
  show szF M.fs (φ p.2) = _
  unfold szF
  rw [g1, List.getElem?_eq_getElem hp]
  show G.now.length = _
  rw [g2.now]
  rfl
end Go.Proofs.YtljacdbdjacbkaaGreat

/- The document's disk and the program's medium side by side: each call that writes. Mathematics; it proves no statement. -/

namespace Go.Proofs.YtljacdbdjacbkaaGreat
open Go.RowKit Go.Maps Go.WideMaps Go.Sort
set_option linter.unusedVariables false
set_option linter.unusedSimpArgs false

/-- Both sides answer alike, and are alike behind it. -/
def Alike (a : Int × Me) (b : Int × Dk) : Prop := a.1 = b.1 ∧ ∃ φ, Sim φ a.2 b.2
theorem Alike.same {φ : Nat → Nat} {M : Me} {D : Dk} (h : Sim φ M D) (E : Int) : Alike (E, M) (E, D) := ⟨rfl, φ, h⟩
theorem Sim.act {φ : Nat → Nat} {M : Me} {D : Dk} (h : Sim φ M D) (m : Me) (d : Dk → Dk)
    (hs : ∀ D', Sim φ { M with left := stepL M.left } D' → D' = { D with left := D'.left } → ∃ φ', Sim φ' m (d D')) :
    Alike (if M.left = 0 then (12, M.dead) else (0, m)) (if (stepD D).1 = 0 then (0, d (stepD D).2) else stepD D) := by
  rcases h.step with ⟨a, b, c⟩ | ⟨a, b, c, e⟩
  · rw [if_pos a, if_neg (by rw [b]; decide)]
    exact ⟨b.symm, φ, c⟩
  · rw [if_neg a, if_pos b]
    exact ⟨rfl, hs _ c e⟩
theorem dFind_at {N : NT} {s : List UInt8} {f : Nat} (h : nFind N s = some f) : dFind N s = (f : Int) := by unfold dFind; rw [h]
theorem dFind_no {N : NT} {s : List UInt8} (h : nFind N s = none) : dFind N s = -1 := by unfold dFind; rw [h]
theorem Sim.create_ {φ : Nat → Nat} {M : Me} {D : Dk} (h : Sim φ M D) (s : ByteArray) (gf : Nat) (hg : M.fs gf = none) : Alike (opCreate M s gf) (createD D s) := by
  unfold opCreate createD
  by_cases ho : D.off = true
  · rw [if_pos ho, if_pos (by rw [h.off]; exact ho)]; exact Alike.same h _
  rw [if_neg ho, if_neg (by rw [h.off]; exact ho)]
  by_cases hn : nmOK s.data.toList = false
  · rw [if_pos hn, if_pos hn]; exact Alike.same h _
  rw [if_neg hn, if_neg hn]
  cases hf : nFind D.now s.data.toList with
  | some f =>
    rw [if_pos (by rw [h.find, hf]; rfl), if_pos (by rw [dFind_at hf]; omega)]
    exact Alike.same h _
  | none =>
    rw [if_neg (show ¬ (nFind M.now s.data.toList).isSome = true by rw [h.find, hf]; exact fun e => by cases e), if_neg (show ¬ ¬ dFind D.now s.data.toList < 0 by rw [dFind_no hf]; decide)]
    have e : M.now.length = D.now.length := by rw [h.now, mapN_length]
    rw [e]
    by_cases hl : 500 ≤ D.now.length
    · rw [if_pos hl, if_pos hl]; exact Alike.same h _
    rw [if_neg hl, if_neg hl]
    refine h.act _ (fun D' => madeD D' s) fun D' h' e' => ?_
    have hnE : bE s = false := by
      cases hb : bE s
      · rfl
      · exact absurd (by rw [(bE_iff s).1 hb]; rfl) hn
    have h1 := h'.more gf hg
    have h2 := h1.link (newLk s D'.files.length) (by show D'.files.length < (D'.files ++ [_]).length; rw [List.length_append]; simp)
    refine ⟨fun i => if i = D'.files.length then gf else φ i, ?_⟩
    have hk : lkM (fun i => if i = D'.files.length then gf else φ i) (newLk s D'.files.length) = (⟨#[]⟩, s, (gf : Int)) := by
      unfold lkM newLk
      dsimp only
      rw [if_neg (by rw [hnE]; decide), if_pos rfl]
    rw [hk] at h2
    exact { h2 with few := by have := h'.few; show (D'.files ++ [_]).length ≤ M.cnt + 1; rw [List.length_append]; simpa using this }
theorem Sim.append_ {φ : Nat → Nat} {M : Me} {D : Dk} (h : Sim φ M D) (hfo : ∀ gf F, M.fs gf = some F → F.ok) (s : ByteArray) (b : List UInt8) : Alike (opAppend M s b) (byteD D s ⟨false, 0, b⟩) := by
  unfold opAppend byteD
  rcases h.look s with ⟨a, e⟩ | ⟨a, e, c⟩ | ⟨f, F, G, a, e, c, d, g, hf, q⟩
  · rw [e, if_pos a]; exact Alike.same h _
  · rw [c, if_neg (by rw [a]; decide), e]; exact Alike.same h _
  · rw [q, if_neg (by rw [a]; decide), e]
    dsimp only
    rw [c]
    dsimp only
    have hu := h.used
    have hr := h.room
    have eb : byteBad D F ⟨false, 0, b⟩ = if D.room - (usedD D D.now : Nat) < (b.length : Int) then 11 else 0 := rfl
    rw [eb]
    by_cases hx : M.room < (b.length : Int) + M.used
    · rw [if_pos hx, if_pos (show D.room - (usedD D D.now : Nat) < (b.length : Int) by omega), if_pos (by decide)]
      exact Alike.same h _
    · rw [if_neg hx, if_neg (show ¬ D.room - (usedD D D.now : Nat) < (b.length : Int) by omega), if_neg (show ¬ (0 : Int) ≠ 0 by decide)]
      refine h.act _ (fun D' => byteFile D' f ⟨false, 0, b⟩) fun D' h' e' => ⟨φ, ?_⟩
      have ef : D'.files = D.files := by rw [e']
      unfold byteFile
      rw [ef, c]
      have h2 := h'.put (f := f) (by rw [ef]; exact hf) (g.wrote (hfo _ _ d) ⟨G.now.length, b⟩ ⟨false, 0, b⟩ (fun h => (by cases h)) (fun _ => ⟨by rw [g.now], rfl⟩) (fun h => (by cases h))) (M.cnt + 1) (Nat.le_succ _)
      rw [ef] at h2
      exact h2
theorem Sim.truncate_ {φ : Nat → Nat} {M : Me} {D : Dk} (h : Sim φ M D) (hfo : ∀ gf F, M.fs gf = some F → F.ok) (s : ByteArray) (n : Int) : Alike (opTruncate M s n) (byteD D s ⟨true, n, []⟩) := by
  unfold opTruncate byteD
  rcases h.look s with ⟨a, e⟩ | ⟨a, e, c⟩ | ⟨f, F, G, a, e, c, d, g, hf, q⟩
  · rw [e, if_pos a]; exact Alike.same h _
  · rw [c, if_neg (by rw [a]; decide), e]; exact Alike.same h _
  · rw [q, if_neg (by rw [a]; decide), e]
    dsimp only
    rw [c]
    dsimp only
    have eb : byteBad D F ⟨true, n, []⟩ = if n < 0 ∨ (F.now.length : Int) < n then 2 else 0 := rfl
    rw [eb, g.now]
    by_cases hx : n < 0 ∨ (F.now.length : Int) < n
    · rw [if_pos hx, if_pos hx, if_pos (by decide)]
      exact Alike.same h _
    · rw [if_neg hx, if_neg hx, if_neg (show ¬ (0 : Int) ≠ 0 by decide)]
      refine h.act _ (fun D' => byteFile D' f ⟨true, n, []⟩) fun D' h' e' => ⟨φ, ?_⟩
      have ef : D'.files = D.files := by rw [e']
      unfold byteFile
      rw [ef, c]
      have h2 := h'.put (f := f) (by rw [ef]; exact hf) (g.wrote (hfo _ _ d) ⟨n.toNat, []⟩ ⟨true, n, []⟩ (fun _ => ⟨by show n = ((n.toNat : Nat) : Int); omega, rfl⟩) (fun h => (by cases h)) (fun _ => rfl)) (M.cnt + 1) (Nat.le_succ _)
      rw [ef] at h2
      exact h2
theorem Sim.sync_ {φ : Nat → Nat} {M : Me} {D : Dk} (h : Sim φ M D) (s : ByteArray) : Alike (opSync M s) (syncD D s false) := by
  unfold opSync syncD
  rcases h.look s with ⟨a, e⟩ | ⟨a, e, c⟩ | ⟨f, F, G, a, e, c, d, g, hf, q⟩
  · rw [e, if_pos a]; exact Alike.same h _
  · rw [c, if_neg (by rw [a]; decide), if_pos ⟨rfl, by rw [dFind_no e]; decide⟩]; exact Alike.same h _
  · rw [q, if_neg (by rw [a]; decide), if_neg (by rw [dFind_at e]; omega)]
    dsimp only
    refine h.act _ (fun D' => if false = true then syncDirD D' else syncFileD D' (dFind D.now s.data.toList).toNat) fun D' h' e' => ⟨φ, ?_⟩
    rw [if_neg (by decide), dFind_at e, Int.toNat_natCast]
    have ef : D'.files = D.files := by rw [e']
    unfold syncFileD
    rw [ef, c]
    have h2 := h'.put (f := f) (by rw [ef]; exact hf) g.synced (M.cnt + 1) (Nat.le_succ _)
    rw [ef] at h2
    exact h2
theorem Sim.syncDir_ {φ : Nat → Nat} {M : Me} {D : Dk} (h : Sim φ M D) (s : ByteArray) : Alike (opSyncDir M) (syncD D s true) := by
  unfold opSyncDir syncD
  by_cases ho : D.off = true
  · rw [if_pos ho, if_pos (by rw [h.off]; exact ho)]; exact Alike.same h _
  rw [if_neg ho, if_neg (by rw [h.off]; exact ho), if_neg (show ¬ (true = false ∧ dFind D.now s.data.toList < 0) from fun e => by cases e.1)]
  refine h.act _ (fun D' => if true = true then syncDirD D' else syncFileD D' (dFind D.now s.data.toList).toNat) fun D' h' e' => ⟨φ, ?_⟩
  rw [if_pos rfl]
  exact h'.syncDir
theorem Sim.rename_ {φ : Nat → Nat} {M : Me} {D : Dk} (h : Sim φ M D) (s t : ByteArray) : Alike (opRename M s t) (moveD D s t false) := by
  unfold opRename moveD
  rcases h.look s with ⟨a, e⟩ | ⟨a, e, c⟩ | ⟨f, F, G, a, e, c, d, g, hf, q⟩
  · rw [e, if_pos a]; exact Alike.same h _
  · rw [c, if_neg (by rw [a]; decide), if_pos (by rw [dFind_no e]; decide)]; exact Alike.same h _
  · rw [q, if_neg (by rw [a]; decide), if_neg (by rw [dFind_at e]; omega)]
    dsimp only
    by_cases hn : nmOK t.data.toList = false
    · rw [if_pos hn, if_pos ⟨rfl, hn⟩]; exact Alike.same h _
    rw [if_neg hn, if_neg (fun q => hn q.2)]
    unfold opName
    refine h.act _ (fun D' => movedD D' ⟨s, if false = true then ⟨#[]⟩ else t, (dFind D.now s.data.toList).toNat⟩) fun D' h' e' => ⟨φ, ?_⟩
    have hnE : bE t = false := by
      cases hb : bE t
      · rfl
      · exact absurd (by rw [(bE_iff t).1 hb]; rfl) hn
    rw [if_neg (by decide), dFind_at e, Int.toNat_natCast]
    have h2 := h'.link ⟨s, t, f⟩ (by show f < D'.files.length; rw [e']; exact hf)
    have hk : lkM φ ⟨s, t, f⟩ = (s, t, (φ f : Int)) := by
      unfold lkM
      dsimp only
      rw [if_neg (by rw [hnE]; decide)]
    rw [hk] at h2
    exact h2
theorem Sim.remove_ {φ : Nat → Nat} {M : Me} {D : Dk} (h : Sim φ M D) (s t : ByteArray) : Alike (opRemove M s) (moveD D s t true) := by
  unfold opRemove moveD
  rcases h.look s with ⟨a, e⟩ | ⟨a, e, c⟩ | ⟨f, F, G, a, e, c, d, g, hf, q⟩
  · rw [e, if_pos a]; exact Alike.same h _
  · rw [c, if_neg (by rw [a]; decide), if_pos (by rw [dFind_no e]; decide)]; exact Alike.same h _
  · rw [q, if_neg (by rw [a]; decide), if_neg (by rw [dFind_at e]; omega)]
    dsimp only
    rw [if_neg (fun q => by cases q.1)]
    unfold opName
    refine h.act _ (fun D' => movedD D' ⟨s, if true = true then ⟨#[]⟩ else t, (dFind D.now s.data.toList).toNat⟩) fun D' h' e' => ⟨φ, ?_⟩
    rw [if_pos rfl, dFind_at e, Int.toNat_natCast]
    have h2 := h'.link ⟨s, ⟨#[]⟩, f⟩ (by show f < D'.files.length; rw [e']; exact hf)
    have hk : lkM φ ⟨s, ⟨#[]⟩, f⟩ = (s, ⟨#[]⟩, -1) := by
      unfold lkM
      dsimp only
      rw [if_pos bE_nil]
    rw [hk] at h2
    exact h2
end Go.Proofs.YtljacdbdjacbkaaGreat
