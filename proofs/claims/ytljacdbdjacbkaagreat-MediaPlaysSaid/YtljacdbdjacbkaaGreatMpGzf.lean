/- Contracts and facts, several texts in one. It proves no statement. -/
import Derived.Test.YtljacdbdjacbkaaGreatMpGze

/- The document's disk and the program's medium side by side: a crash. Mathematics; it proves no statement. -/

namespace Go.Proofs.YtljacdbdjacbkaaGreat
open Go.RowKit Go.Maps Go.WideMaps Go.Sort
set_option linter.unusedVariables false
set_option linter.unusedSimpArgs false

theorem numD_zero (zs : List Int) (m : Nat) : numD zs 0 m = natN zs m := rfl
theorem SimF.torn {G : Fi} {F : DFi} (h : SimF G F) (n : Nat) : (tornOf G.wait n).length = (match F.waits[n]? with | some x => if x.cut = true then 0 else x.b.length | none => 0) := by
  unfold tornOf
  by_cases hn : n < F.waits.length
  · have hx := List.getElem?_eq_getElem hn
    have hc := List.getElem?_eq_getElem (show n < G.wait.length by rw [h.len]; exact hn)
    obtain ⟨e1, e2⟩ := h.each n _ _ hc hx
    rw [hx, hc]
    dsimp only
    cases hcu : (F.waits[n]).cut
    · rw [if_neg (by decide), (e2 hcu).2]
    · rw [if_pos rfl, (e1 hcu).2]; rfl
  · rw [List.getElem?_eq_none (show G.wait.length ≤ n by rw [h.len]; omega), List.getElem?_eq_none (show F.waits.length ≤ n by omega)]
    rfl
/-- What a crash leaves of a file is the same on both sides. -/
theorem SimF.crash {G : Fi} {F : DFi} (h : SimF G F) (zs : List Int) (i : Nat) : crashL G.fast G.wait (zs.drop (2 * i + 1)) = crB F zs i := by
  unfold crashL crB
  have e0 : natN (zs.drop (2 * i + 1)) G.wait.length = numD zs (2 * i + 1) F.waits.length := by rw [h.len]; rfl
  rw [e0]
  generalize hn : numD zs (2 * i + 1) F.waits.length = n
  have hle : n ≤ F.waits.length := by rw [← hn]; exact natN_le _ _
  rw [← h.bytes n hle]
  congr 1
  rw [List.tail_drop]
  by_cases hlt : n < F.waits.length
  · have hx := List.getElem?_eq_getElem hlt
    have hc := List.getElem?_eq_getElem (show n < G.wait.length by rw [h.len]; exact hlt)
    obtain ⟨e1, e2⟩ := h.each n _ _ hc hx
    unfold tornOf crTorn crLen
    rw [hx, hc]
    dsimp only
    cases hcu : (F.waits[n]).cut
    · rw [if_neg (by decide), (e2 hcu).2]
      rfl
    · rw [if_pos rfl, (e1 hcu).2]
      exact List.take_nil
  · unfold tornOf crTorn
    rw [List.getElem?_eq_none (show G.wait.length ≤ n by rw [h.len]; omega), List.getElem?_eq_none (show F.waits.length ≤ n by omega)]
    exact List.take_nil
/-- The files that a crash treats, one behind another. -/
theorem crAll_at (L : List Nat) : ∀ (fs : Nat → Option Fi) (zs : List Int), L.Nodup → (∀ f ∈ L, ∃ F, fs f = some F) →
    (∀ i f, L[i]? = some f → ∀ F, fs f = some F → (crAll fs zs L).1 f = some (F.crash (zs.drop (2 * i)))) ∧ (∀ f, f ∉ L → (crAll fs zs L).1 f = fs f) := by
  induction L with
  | nil => exact fun fs zs _ _ => ⟨fun i f h => by simp at h, fun f _ => rfl⟩
  | cons g L ih =>
    intro fs zs hL hs
    obtain ⟨hg, hn⟩ := List.nodup_cons.1 hL
    obtain ⟨Fg, hFg⟩ := hs g List.mem_cons_self
    have e1 : crSt (fs, zs) g = (upd fs g (Fg.crash zs), zs.tail.tail) := by
      unfold crSt
      dsimp only
      rw [hFg]
    have e2 : crAll fs zs (g :: L) = crAll (upd fs g (Fg.crash zs)) zs.tail.tail L := by
      unfold crAll
      rw [List.foldl_cons, e1]
    have hot : ∀ f ∈ L, upd fs g (Fg.crash zs) f = fs f := fun f hf => upd_other _ _ (fun e => hg (e ▸ hf))
    obtain ⟨a, b⟩ := ih (upd fs g (Fg.crash zs)) zs.tail.tail hn (fun f hf => by rw [hot f hf]; exact hs f (List.mem_cons_of_mem _ hf))
    rw [e2]
    refine ⟨fun i f hi F hF => ?_, fun f hf => ?_⟩
    · cases i with
      | zero =>
        have e : g = f := by simpa using hi
        subst e
        rw [b g hg, upd_same]
        rw [hFg] at hF
        cases hF
        rfl
      | succ i =>
        have hi : L[i]? = some f := by simpa using hi
        have hm := List.mem_of_getElem? hi
        rw [a i f hi F ((hot f hm).trans hF)]
        have e : zs.tail.tail.drop (2 * i) = zs.drop (2 * (i + 1)) := by
          rw [← List.drop_one, ← List.drop_one, List.drop_drop, List.drop_drop]
          congr 1
          omega
        rw [e]
    · have hf' : f ≠ g ∧ f ∉ L := by simpa using hf
      rw [b f hf'.2, upd_other _ _ hf'.1]
theorem crNames_mem {N : NT} {p : List UInt8 × Nat} (h : p ∈ crNames N N.length) : p.2 < N.length ∧ ∃ q, N[p.2]? = some q ∧ p.1 = q.1 := by
  unfold crNames at h
  obtain ⟨i, hi, rfl⟩ := List.mem_map.1 h
  have hi := List.mem_range.1 hi
  refine ⟨hi, N[i], List.getElem?_eq_getElem hi, ?_⟩
  rw [List.getElem?_eq_getElem hi]
  rfl
theorem Sim.crash_ {φ : Nat → Nat} {M : Me} {D : Dk} (h : Sim φ M D) (zs : List Int) (ho : Once (M.lasts zs)) (hcnt : (M.lasts zs).length ≤ M.cnt) : ∃ φ', Sim φ' (M.crash zs) (crashD D zs) := by
  have hN : M.lasts zs = mapN φ (namesD D (numD zs 0 D.waits.length)) := by
    have e : M.wait.length = D.waits.length := by rw [h.wait, List.length_map]
    unfold Me.lasts
    rw [e, h.names]
    rfl
  have hfull := namesD_full h.full (numD zs 0 D.waits.length)
  have hidx := h.idx (numD zs 0 D.waits.length)
  unfold Me.crash crashD
  rw [hN] at ho hcnt ⊢
  dsimp only
  generalize namesD D (numD zs 0 D.waits.length) = N at ho hcnt hfull hidx ⊢
  clear hN
  rw [mapN_length] at hcnt
  have hL : ((mapN φ N).map (·.2)) = N.map fun p => φ p.2 := by unfold mapN; rw [List.map_map]; rfl
  have hnd : (N.map fun p => φ p.2).Nodup := by rw [← hL]; exact ho
  have hfs : ∀ f ∈ N.map (fun p => φ p.2), ∃ F, M.fs f = some F := by
    intro f hf
    obtain ⟨p, hp, rfl⟩ := List.mem_map.1 hf
    obtain ⟨G, g1, _⟩ := h.files p.2 _ (List.getElem?_eq_getElem (hidx p hp))
    exact ⟨G, g1⟩
  have hcr := crAll_at (N.map fun p => φ p.2) M.fs zs.tail hnd hfs
  rw [hL]
  have hnames : mapN φ N = mapN (fun i => match N[i]? with | some p => φ p.2 | none => 0) (crNames N N.length) := by
    apply List.ext_getElem?
    intro i
    unfold mapN crNames
    rw [List.map_map, List.getElem?_map, List.getElem?_map]
    by_cases hi : i < N.length
    · rw [List.getElem?_eq_getElem hi, List.getElem?_range hi]
      simp only [Option.map_some, Function.comp, List.getElem?_eq_getElem hi, Option.getD_some]
    · rw [List.getElem?_eq_none (by omega), List.getElem?_eq_none (by rw [List.length_range]; omega)]
      rfl
  have hfl : (crFiles D zs N N.length).length = N.length := by unfold crFiles; rw [List.length_map, List.length_range]
  refine ⟨fun i => match N[i]? with | some p => φ p.2 | none => 0, ?_⟩
  have hi2 : ∀ p ∈ crNames N N.length, p.2 < (crFiles D zs N N.length).length := fun p hp => by rw [hfl]; exact (crNames_mem hp).1
  exact {
    room := h.room
    off := rfl
    left := .inl ⟨rfl, rfl⟩
    least := ⟨Int.le_refl _, show (0 : Int) ≤ 9223372036854775807 by decide⟩
    now := hnames
    fast := hnames
    wait := rfl
    eqn := rfl
    full := fun p hp => by
      obtain ⟨_, q, hq, e⟩ := crNames_mem hp
      rw [e]
      exact hfull q (List.mem_of_getElem? hq)
    idxf := hi2
    idxw := fun x hx => by cases hx
    inj := fun i j hi hj e => by
      have hi : i < N.length := by rw [← hfl]; exact hi
      have hj : j < N.length := by rw [← hfl]; exact hj
      simp only [List.getElem?_eq_getElem hi, List.getElem?_eq_getElem hj] at e
      have hi' : i < (N.map fun p => φ p.2).length := by rw [List.length_map]; exact hi
      have hj' : j < (N.map fun p => φ p.2).length := by rw [List.length_map]; exact hj
      exact (List.getElem_inj (h₀ := hi') (h₁ := hj') hnd).1 (by rw [List.getElem_map, List.getElem_map]; exact e)
    files := fun i F hF => by
      have hF : (crFiles D zs N N.length)[i]? = some F := hF
      have hi : i < N.length := by rw [← hfl]; exact (List.getElem?_eq_some_iff.1 hF).1
      obtain ⟨G, g1, g2⟩ := h.files (N[i]).2 _ (List.getElem?_eq_getElem (hidx _ (List.getElem_mem hi)))
      have e1 := hcr.1 i (φ (N[i]).2) (by rw [List.getElem?_map, List.getElem?_eq_getElem hi]; rfl) G g1
      refine ⟨G.crash (zs.tail.drop (2 * i)), ?_, ?_⟩
      · simp only [List.getElem?_eq_getElem hi]
        exact e1
      · have e2 : F = crFi (D.files[(N[i]).2]'(hidx _ (List.getElem_mem hi))) zs i := by
          unfold crFiles at hF
          rw [List.getElem?_map, List.getElem?_range hi] at hF
          have hF := (Option.some.inj hF).symm
          rw [hF]
          unfold crFile
          rw [List.getElem?_eq_getElem hi]
          dsimp only
          rw [List.getElem?_eq_getElem (hidx _ (List.getElem_mem hi))]
        have e3 : zs.tail.drop (2 * i) = zs.drop (2 * i + 1) := by rw [← List.drop_one, List.drop_drop]; congr 1; omega
        rw [e2, e3]
        exact ⟨g2.crash zs i, g2.crash zs i, rfl, fun j c x hc => by simp [Fi.crash] at hc, fun x hx => by cases hx⟩
    few := by rw [hfl]; exact hcnt }
end Go.Proofs.YtljacdbdjacbkaaGreat

/- The document's disk and the program's medium side by side: a byte rots. Mathematics; it proves no statement. -/

namespace Go.Proofs.YtljacdbdjacbkaaGreat
open Go.RowKit Go.Maps Go.WideMaps Go.Sort
set_option linter.unusedVariables false
set_option linter.unusedSimpArgs false

/-- What the program spoils is no cut's. -/
theorem rots_uncut {G : Fi} {F : DFi} (h : SimF G F) (hok : G.ok) {p i : Nat} (hp : p < F.now.length) (hr : Rots G p (some i)) {x : DCh} (hx : F.waits[i]? = some x) : x.cut = false := by
  cases hcu : x.cut
  · rfl
  obtain ⟨⟨c, hc, hle⟩, hlater⟩ := hr
  obtain ⟨e1, _⟩ := h.each i c x hc hx
  have hm := (e1 hcu).2
  have hlen : (appAll G.fast (G.wait.take (i + 1))).length ≤ p := by
    rw [appAll_step _ _ i c hc, hm, List.append_nil, List.length_take]
    omega
  by_cases hi : i + 1 < G.wait.length
  · have hd := List.getElem?_eq_getElem hi
    have h1 := hlater (i + 1) _ (Nat.lt_succ_self i) hd
    have h2 := (hok.2.2 (i + 1) _ hd).1
    omega
  · have hi2 : i < G.wait.length := (List.getElem?_eq_some_iff.1 hc).1
    have e : i + 1 = G.wait.length := by omega
    rw [e, List.take_length, ← hok.1, h.now] at hlen
    omega
/-- Both sides spoil the same change's byte. -/
theorem rots_same {G : Fi} {F : DFi} (h : SimF G F) (hok : G.ok) {p : Nat} {o o' : Option Nat} (hp : p < F.now.length) (hr : Rots G p o) (hr' : RotsD F p o') : o = o' := by
  have hget : ∀ {j x}, F.waits[j]? = some x → ∃ c, G.wait[j]? = some c := fun {j x} hx => ⟨_, List.getElem?_eq_getElem (by rw [h.len]; exact (List.getElem?_eq_some_iff.1 hx).1)⟩
  have hget' : ∀ {j c}, G.wait[j]? = some c → ∃ x, F.waits[j]? = some x := fun {j x} hx => ⟨_, List.getElem?_eq_getElem (by rw [← h.len]; exact (List.getElem?_eq_some_iff.1 hx).1)⟩
  cases o with
  | none =>
    cases o' with
    | none => rfl
    | some i =>
      obtain ⟨⟨x, hx, hcu, hle⟩, _⟩ := hr'
      obtain ⟨c, hc⟩ := hget hx
      have h1 := hr i c hc
      have h2 := ((h.each i c x hc hx).2 hcu).1
      omega
  | some i =>
    obtain ⟨c, hc, hle⟩ := hr.1
    obtain ⟨x, hx⟩ := hget' hc
    have hcu := rots_uncut h hok hp hr hx
    have hf := ((h.each i c x hc hx).2 hcu).1
    cases o' with
    | none =>
      rcases hr' i x hx with h1 | h1
      · rw [hcu] at h1; cases h1
      · omega
    | some i' =>
      obtain ⟨⟨x', hx', hcu', hle'⟩, hl'⟩ := hr'
      obtain ⟨c', hc'⟩ := hget hx'
      have hf' := ((h.each i' c' x' hc' hx').2 hcu').1
      rcases Nat.lt_trichotomy i i' with hlt | heq | hgt
      · have := hr.2 i' c' hlt hc'
        omega
      · rw [heq]
      · rcases hl' i x hgt hx with h1 | h1
        · rw [hcu] at h1; cases h1
        · omega
theorem rotD_len {F : DFi} (p : Nat) (f : UInt8 → UInt8) (o : Option Nat) (j : Nat) (hj : j ≤ F.waits.length) : (bytesD (F.rotAt p f o) j).length = (bytesD F j).length := by
  cases o with
  | none =>
    induction j with
    | zero => exact List.length_modify ..
    | succ j ih =>
      have hx := List.getElem?_eq_getElem (show j < F.waits.length by omega)
      have ih := ih (by omega)
      rw [bytesD_succ F j _ hx, bytesD_succ (F.rotAt p f none) j _ hx]
      unfold appD
      cases (F.waits[j]).cut
      · rw [if_neg (by decide), if_neg (by decide), List.length_append, List.length_append, ih]
      · rw [if_pos rfl, if_pos rfl, List.length_take, List.length_take, ih]
  | some i =>
    induction j with
    | zero => rfl
    | succ j ih =>
      have hx := List.getElem?_eq_getElem (show j < F.waits.length by omega)
      have ih := ih (by omega)
      obtain ⟨y, hx', hcut, hk, hb⟩ : ∃ y : DCh, (F.rotAt p f (some i)).waits[j]? = some y ∧ y.cut = (F.waits[j]).cut ∧ y.k = (F.waits[j]).k ∧ y.b.length = (F.waits[j]).b.length := by
        by_cases e : i = j
        · refine ⟨⟨(F.waits[j]).cut, (F.waits[j]).k, (F.waits[j]).b.modify (p - (bytesD F i).length) f⟩, ?_, rfl, rfl, List.length_modify ..⟩
          show (F.waits.modify i _)[j]? = _
          rw [List.getElem?_modify, hx]
          simp [e]
        · refine ⟨F.waits[j], ?_, rfl, rfl, rfl⟩
          show (F.waits.modify i _)[j]? = _
          rw [List.getElem?_modify, hx]
          simp [e]
      rw [bytesD_succ F j _ hx, bytesD_succ (F.rotAt p f (some i)) j _ hx']
      unfold appD
      rw [hcut, hk]
      cases (F.waits[j]).cut
      · rw [if_neg (by decide), if_neg (by decide), List.length_append, List.length_append, ih, hb]
      · rw [if_pos rfl, if_pos rfl, List.length_take, List.length_take, ih]
theorem SimF.rot {G : Fi} {F : DFi} (h : SimF G F) (hok : G.ok) {p : Nat} {o : Option Nat} (hp : p < F.now.length) (hr : Rots G p o) (f : UInt8 → UInt8) : SimF (G.rotAt p f o) (F.rotAt p f o) := by
  cases o with
  | none =>
    refine ⟨by show G.now.modify p f = F.now.modify p f; rw [h.now], by show G.fast.modify p f = F.fast.modify p f; rw [h.fast], h.len, fun j c x hc hx => ?_, h.bare⟩
    have hj : j < F.waits.length := (List.getElem?_eq_some_iff.1 (show F.waits[j]? = some x from hx)).1
    obtain ⟨e1, e2⟩ := h.each j c x hc hx
    refine ⟨e1, fun q => ?_⟩
    rw [rotD_len _ _ _ _ (by omega)]
    exact e2 q
  | some i =>
    refine ⟨by show G.now.modify p f = F.now.modify p f; rw [h.now], h.fast, ?_, fun j c x hc hx => ?_, fun x hx hcu => ?_⟩
    · show (G.wait.modify i _).length = (F.waits.modify i _).length
      rw [List.length_modify, List.length_modify, h.len]
    have hc : (G.wait.modify i (fun c => c.rot p f))[j]? = some c := hc
    have hx : (F.waits.modify i (fun x => ⟨x.cut, x.k, x.b.modify (p - (bytesD F i).length) f⟩))[j]? = some x := hx
    have hj : j < F.waits.length := by
      have := (List.getElem?_eq_some_iff.1 hx).1
      rw [List.length_modify] at this
      exact this
    have hx0 := List.getElem?_eq_getElem hj
    have hc0 := List.getElem?_eq_getElem (show j < G.wait.length by rw [h.len]; exact hj)
    obtain ⟨e1, e2⟩ := h.each j _ _ hc0 hx0
    rw [rotD_len _ _ _ _ (by omega)]
    rw [List.getElem?_modify, hc0] at hc
    rw [List.getElem?_modify, hx0] at hx
    by_cases e : i = j
    · subst e
      have hcu := rots_uncut h hok hp hr hx0
      simp only [if_true, Option.map_eq_map, Option.map_some, Option.some.injEq] at hc hx
      subst hc hx
      obtain ⟨q1, q2⟩ := e2 hcu
      refine ⟨fun q => ?_, fun _ => ⟨q1, ?_⟩⟩
      · exact absurd q (by show ¬ (F.waits[i]).cut = true; rw [hcu]; decide)
      · show (G.wait[i]'(by rw [h.len]; exact hj)).more.modify (p - (G.wait[i]'(by rw [h.len]; exact hj)).fin) f = (F.waits[i]).b.modify (p - (bytesD F i).length) f
        rw [q1, q2]
    · simp only [e, if_false, Option.map_eq_map, Option.map_some, Option.some.injEq] at hc hx
      have hc : G.wait[j]'(by rw [h.len]; exact hj) = c := hc
      have hx : F.waits[j] = x := hx
      subst hc hx
      exact ⟨e1, e2⟩
    have hx : x ∈ F.waits.modify i (fun x => ⟨x.cut, x.k, x.b.modify (p - (bytesD F i).length) f⟩) := hx
    obtain ⟨j, hj, rfl⟩ := List.getElem_of_mem hx
    have hj' : j < F.waits.length := by rw [List.length_modify] at hj; exact hj
    rw [List.getElem_modify] at hcu ⊢
    by_cases e : i = j
    · subst e
      rw [if_pos rfl] at hcu
      have h1 := rots_uncut h hok hp hr (List.getElem?_eq_getElem hj')
      have h2 : (F.waits[i]).cut = true := hcu
      rw [h1] at h2
      cases h2
    · rw [if_neg e] at hcu ⊢
      exact h.bare _ (List.getElem_mem hj') hcu
end Go.Proofs.YtljacdbdjacbkaaGreat

/- The document's disk and the program's medium side by side: what holds of the program's holds of the document's. Mathematics; it proves no statement. -/

namespace Go.Proofs.YtljacdbdjacbkaaGreat
open Go.RowKit Go.Maps Go.WideMaps Go.Sort
set_option linter.unusedVariables false
set_option linter.unusedSimpArgs false

theorem lkD_length (N : NT) (x : Lk) : (lkD N x).length ≤ N.length + 1 := by
  have h1 : (lk1 N x).length ≤ N.length := by
    unfold lk1
    split
    · exact Nat.le_refl _
    · exact List.length_filter_le _ _
  unfold lkD
  split
  · omega
  · have e : (nPut (lk1 N x) x.t.data.toList x.f).length = (nDel (lk1 N x) x.t.data.toList).length + 1 := ins_length _ _
    have h2 : (nDel (lk1 N x) x.t.data.toList).length ≤ (lk1 N x).length := List.length_filter_le _ _
    omega
theorem foldl_length (X : List Lk) : ∀ N : NT, (X.foldl lkD N).length ≤ N.length + X.length := by
  induction X with
  | nil => exact fun N => Nat.le_refl _
  | cons x r ih =>
    intro N
    have h1 := ih (lkD N x)
    have h2 := lkD_length N x
    rw [List.foldl_cons, List.length_cons]
    omega
theorem Sim.good {φ : Nat → Nat} {M : Me} {D : Dk} {k : Nat} (h : Sim φ M D) (hg : M.good k) (hfo : ∀ gf F, M.fs gf = some F → F.ok) : D.good k where
  nf := Nat.le_trans h.few hg.cnt
  nn := by
    have := now_length hg.ok
    rw [h.now, mapN_length] at this
    exact Nat.le_trans this hg.cnt
  nw := by
    have h1 := hg.ok.len
    have h2 : M.wait.length = D.waits.length := by rw [h.wait, List.length_map]
    have := hg.cnt
    omega
  nm := fun j => ⟨by
    have h1 := hg.ok.len
    have h2 : M.wait.length = D.waits.length := by rw [h.wait, List.length_map]
    have h3 : M.fast.length = D.fast.length := by rw [h.fast, mapN_length]
    have h4 := foldl_length (D.waits.take j) D.fast
    have h5 : (D.waits.take j).length ≤ D.waits.length := by rw [List.length_take]; omega
    have := hg.cnt
    show ((D.waits.take j).foldl lkD D.fast).length ≤ k
    omega, h.idx j⟩
  fs := fun f F hF => by
    obtain ⟨G, g1, g2⟩ := h.files f F hF
    have hok := hfo _ _ g1
    have hnow : F.now = bytesD F F.waits.length := by
      rw [g2.bytes _ (Nat.le_refl _), ← g2.len, List.take_length, ← hok.1, g2.now]
    have hover : ∀ j, bytesD F j = bytesD F (min j F.waits.length) := by
      intro j
      unfold bytesD
      by_cases hj : j ≤ F.waits.length
      · rw [Nat.min_eq_left hj]
      · rw [Nat.min_eq_right (by omega), List.take_length, List.take_of_length_le (by omega)]
    have hmost : ∀ j, (bytesD F j).length ≤ 16777216 := by
      intro j
      rw [hover j, g2.bytes _ (Nat.min_le_right _ _)]
      exact (hok.2.front _).len
    have hget : ∀ (j : Nat) (x : DCh), F.waits[j]? = some x → ∃ c, G.wait[j]? = some c := fun j x hx => ⟨_, List.getElem?_eq_getElem (by rw [g2.len]; exact (List.getElem?_eq_some_iff.1 hx).1)⟩
    refine ⟨?_, fun j x hx hcu => ?_, fun j => Nat.le_trans (hmost j) (by decide), fun x hx => ?_, hnow⟩
    · rw [← g2.len]
      exact Nat.le_trans (hg.wt _ _ g1) hg.cnt
    · obtain ⟨c, hc⟩ := hget j x hx
      have e := ((g2.each j c x hc hx).1 hcu).1
      have e2 := (hok.2.2 j c hc).1
      have hj : j ≤ F.waits.length := Nat.le_of_lt (List.getElem?_eq_some_iff.1 hx).1
      rw [g2.bytes j hj]
      omega
    · obtain ⟨j, hj, rfl⟩ := List.getElem_of_mem hx
      have hx := List.getElem?_eq_getElem hj
      obtain ⟨c, hc⟩ := hget j _ hx
      cases hcu : (F.waits[j]).cut
      · have h1 := hmost (j + 1)
        rw [bytesD_succ F j _ hx] at h1
        unfold appD at h1
        rw [hcu, if_neg (by decide), List.length_append] at h1
        omega
      · rw [g2.bare _ (List.getElem_mem hj) hcu]
        exact Nat.zero_le _
  left := h.least
  room := by rw [← h.room]; exact hg.ok.room
  nowf := h.nowx
end Go.Proofs.YtljacdbdjacbkaaGreat

/- The document's disk and the program's medium side by side: Rot, New. Mathematics; it proves no statement. -/

namespace Go.Proofs.YtljacdbdjacbkaaGreat
open Go.RowKit Go.Maps Go.WideMaps Go.Sort
set_option linter.unusedVariables false
set_option linter.unusedSimpArgs false

theorem Sim.rot_ {φ : Nat → Nat} {M : Me} {D D' : Dk} {r : Bool} (h : Sim φ M D) (hfo : ∀ gf F, M.fs gf = some F → F.ok) (s : ByteArray) (x : Int) (y : Nat) (o : Option Nat) (hR : M.Rotting s x o)
    (hd : (r = false ∧ D' = D ∧ ∀ f F, nFind D.now s.data.toList = some f → D.files[f]? = some F → (x < 0 ∨ (F.now.length : Int) ≤ x)) ∨
       (r = true ∧ ∃ (f p : Nat) (F : DFi) (o : Option Nat), nFind D.now s.data.toList = some f ∧ D.files[f]? = some F ∧ x = (p : Int) ∧ p < F.now.length ∧ RotsD F p o ∧ D' = { D with files := D.files.set f (F.rotAt p (· ^^^ UInt8.ofNat y) o) })) :
    (M.rotted s x y o).1 = r ∧ Sim φ (M.rotted s x y o).2 D' := by
  have hq := h.find s.data.toList
  unfold Me.rotted
  rcases hd with ⟨rfl, rfl, hb⟩ | ⟨rfl, f, p, F, o', hf, hF, rfl, hp, hro, rfl⟩
  · cases hf : nFind D'.now s.data.toList with
    | none =>
      rw [hf] at hq
      rw [hq]
      exact ⟨rfl, h⟩
    | some f =>
      obtain ⟨F, G, a, b, c, d⟩ := h.file hf
      have hbb := hb f F hf a
      rw [← c.now] at hbb
      rw [hf] at hq
      rw [hq]
      simp only [Option.map_some, b]
      rw [if_pos hbb]
      exact ⟨rfl, h⟩
  · obtain ⟨F2, G, a, b, c, d⟩ := h.file hf
    rw [hF] at a
    cases a
    rw [hf] at hq
    have hpG : p < G.now.length := by rw [c.now]; exact hp
    have hr := hR (φ f) G hq b (by omega) (by omega)
    rw [Int.toNat_natCast] at hr
    have e := rots_same c (hfo _ _ b) hp hr hro
    subst e
    rw [hq]
    simp only [Option.map_some, b]
    rw [if_neg (by omega), Int.toNat_natCast]
    exact ⟨rfl, h.put d (c.rot (hfo _ _ b) hp hr _) M.cnt (Nat.le_refl _)⟩
theorem Sim.new (φ : Nat → Nat) (room : Int) : Sim φ (Me.new room) (newD room) :=
  ⟨rfl, rfl, .inl ⟨rfl, rfl⟩, ⟨Int.le_refl _, show (0 : Int) ≤ 9223372036854775807 by decide⟩, rfl, rfl, rfl, rfl, fun p hp => (by cases hp), fun p hp => (by cases hp), fun x hx => (by cases hx), fun i j hi => absurd hi (Nat.not_lt_zero _), fun i F hF => (by cases hF), Nat.le_refl _⟩
end Go.Proofs.YtljacdbdjacbkaaGreat

/- Every front of the names' changes holds a file once. Mathematics; it proves no statement. -/

namespace Go.Proofs.YtljacdbdjacbkaaGreat
open Go.RowKit Go.Maps Go.WideMaps Go.Sort
set_option linter.unusedVariables false
set_option linter.unusedSimpArgs false

/-- Behind every front of the changes that wait a file has one name at most. -/
def Fronts (N : NT) (X : List (ByteArray × ByteArray × Int)) : Prop := ∀ j, Once (nmSteps N (X.take j))
theorem Fronts.nil {N : NT} (h : Once N) : Fronts N [] := fun j => by rw [List.take_nil]; exact h
theorem Fronts.all {N : NT} {X : List (ByteArray × ByteArray × Int)} (h : Fronts N X) : Once (nmSteps N X) := by
  have := h X.length
  rw [List.take_length] at this
  exact this
theorem Fronts.snoc {N : NT} {X : List (ByteArray × ByteArray × Int)} (h : Fronts N X) (x : ByteArray × ByteArray × Int) (hx : Once (nmStep (nmSteps N X) x)) : Fronts N (X ++ [x]) := by
  intro j
  by_cases hj : j ≤ X.length
  · rw [List.take_append_of_le_length hj]
    exact h j
  · rw [List.take_of_length_le (by rw [List.length_append]; show X.length + 1 ≤ j; omega), nmSteps_snoc]
    exact hx
theorem Fronts.link {M : Me} {room : Int} (h : Fronts M.fast M.wait) (hok : M.ok) (x : ByteArray × ByteArray × Int) (fs : Nat → Option Fi) (hf : (M.link x fs).Fits room) : Fronts (M.link x fs).fast (M.link x fs).wait := by
  refine h.snoc x ?_
  have := hf.once
  rw [← hok.eq]
  exact this
theorem Fronts.syncedDir {M : Me} {room : Int} (hf : M.Fits room) : Fronts M.syncedDir.fast M.syncedDir.wait := Fronts.nil hf.once
theorem Fronts.lasts {M : Me} (h : Fronts M.fast M.wait) (zs : List Int) : Once (M.lasts zs) := h _
theorem Fronts.crash {M : Me} (h : Fronts M.fast M.wait) (zs : List Int) : Fronts (M.crash zs).fast (M.crash zs).wait := Fronts.nil (h.lasts zs)
theorem lasts_length {M : Me} (hok : M.ok) (zs : List Int) : (M.lasts zs).length ≤ M.cnt := by
  have h1 := steps_length M.fast (M.wait.take (natN zs M.wait.length))
  have h2 := hok.len
  have h3 : (M.wait.take (natN zs M.wait.length)).length ≤ M.wait.length := by rw [List.length_take]; omega
  show (nmSteps M.fast (M.wait.take (natN zs M.wait.length))).length ≤ M.cnt
  omega
end Go.Proofs.YtljacdbdjacbkaaGreat

/- The document's disk and the program's medium side by side: one call of the law's, whatever its kind. Mathematics; it proves no statement. -/

namespace Go.Proofs.YtljacdbdjacbkaaGreat
open Go.RowKit Go.Maps Go.WideMaps Go.Sort
set_option linter.unusedVariables false
set_option linter.unusedSimpArgs false

theorem once_new {N : NT} (h : Once N) {gf : Nat} (hout : ∀ p ∈ N, p.2 ≠ gf) (s : ByteArray) : Once (nmStep N (⟨#[]⟩, s, (gf : Int))) := by
  have e0 : nmStep N (⟨#[]⟩, s, (gf : Int)) = nPut (nDel N []) s.data.toList gf := by
    unfold nmStep
    rw [if_neg (by show ¬ (gf : Int) < 0; omega)]
    rfl
  rw [e0]
  exact once_ins.2 ⟨fun p hp => hout p (List.mem_filter.1 (List.mem_filter.1 hp).1).1, (h.del _).del _⟩
theorem once_link {N : NT} (h : Once N) {gf : Nat} (s t : ByteArray) (hm : (s.data.toList, gf) ∈ N) : Once (nmStep N (s, t, (gf : Int))) := by
  have e0 : nmStep N (s, t, (gf : Int)) = nPut (nDel N s.data.toList) t.data.toList gf := by
    unfold nmStep
    rw [if_neg (by show ¬ (gf : Int) < 0; omega)]
    rfl
  rw [e0]
  exact once_ins.2 ⟨fun p hp => h.ne_del hm p (List.mem_filter.1 hp).1, (h.del _).del _⟩
theorem once_unlink {N : NT} (h : Once N) (s : ByteArray) : Once (nmStep N (s, ⟨#[]⟩, -1)) := by
  have e0 : nmStep N (s, ⟨#[]⟩, -1) = nDel N s.data.toList := by
    unfold nmStep
    rw [if_pos (by show (-1 : Int) < 0; decide)]
  rw [e0]
  exact h.del _
/-- A medium whose waiting names hold each file once, behind every front. -/
def Me.Fr (M : Me) : Prop := Fronts M.fast M.wait
theorem Me.Fr.new (room : Int) : (Me.new room).Fr := Fronts.nil List.nodup_nil
theorem Me.Fr.once {M : Me} (h : M.Fr) (hok : M.ok) : Once M.now := by rw [hok.eq]; exact Fronts.all h
theorem Me.Fr.link {M : Me} (h : M.Fr) (hok : M.ok) (x : ByteArray × ByteArray × Int) (fs : Nat → Option Fi) (ho : Once (nmStep M.now x)) : (M.link x fs).Fr :=
  Fronts.snoc h x (by rw [← hok.eq]; exact ho)
theorem Me.Fr.name {M : Me} (h : M.Fr) (hok : M.ok) (x : ByteArray × ByteArray × Int) (ho : Once (nmStep M.now x)) : (opName M x).2.Fr := by
  unfold opName
  split
  · exact h
  · exact h.link hok x _ ho
theorem Me.Fr.step {M : Me} (h : M.Fr) (hok : M.ok) (x : Call) (gf : Nat) (o : Option Nat) (hg : M.fs gf = none) : (stepM M x gf o).2.Fr := by
  have hon := h.once hok
  unfold stepM
  by_cases e0 : x.k = 0
  · rw [if_pos e0]
    unfold opCreate
    split
    · exact h
    split
    · exact h
    split
    · exact h
    split
    · exact h
    split
    · exact h
    refine h.link hok _ _ (once_new hon (fun p hp e => ?_) _)
    have hp' := hp
    rw [hok.eq] at hp'
    obtain ⟨F, hF⟩ := steps_files hok.ff hok.fw p hp'
    rw [e, hg] at hF
    cases hF
  rw [if_neg e0]
  by_cases e1 : x.k = 1
  · rw [if_pos e1]
    unfold opAppend
    split
    · exact h
    · split
      · exact h
      · split
        · exact h
        · exact h
  rw [if_neg e1]
  by_cases e2 : x.k = 2
  · rw [if_pos e2]
    unfold opTruncate
    split
    · exact h
    · split
      · exact h
      · split
        · exact h
        · exact h
  rw [if_neg e2]
  by_cases e3 : x.k = 3
  · rw [if_pos e3]
    unfold opRename
    split
    · exact h
    · rename_i gf F hf
      split
      · exact h
      · exact h.name hok _ (once_link hon _ _ (nFind_mem (Me.find_fs hf).2.1))
  rw [if_neg e3]
  by_cases e4 : x.k = 4
  · rw [if_pos e4]
    unfold opRemove
    split
    · exact h
    · exact h.name hok _ (once_unlink hon _)
  rw [if_neg e4]
  by_cases e5 : x.k = 5
  · rw [if_pos e5]
    unfold opSync
    split
    · exact h
    · split
      · exact h
      · exact h
  rw [if_neg e5]
  by_cases e6 : x.k = 6
  · rw [if_pos e6]
    unfold opSyncDir
    split
    · exact h
    split
    · exact h
    · exact Fronts.nil hon
  rw [if_neg e6]
  by_cases e7 : x.k = 7
  · rw [if_pos e7]
    unfold opArm
    split
    · exact h
    · split
      · exact h
      · exact h
  rw [if_neg e7]
  by_cases e8 : x.k = 8
  · rw [if_pos e8]
    exact Fronts.crash h _
  rw [if_neg e8]
  by_cases e9 : x.k = 9
  · rw [if_pos e9]
    unfold opSetRoom
    split
    · exact h
    · split
      · exact h
      · exact h
  rw [if_neg e9]
  by_cases e10 : x.k = 10
  · rw [if_pos e10]
    unfold Me.rotted
    split
    · exact h
    · split
      · exact h
      · split
        · exact h
        · exact h
  rw [if_neg e10]
  exact h
/-- What the document's Rot answers and leaves. -/
def RotD (D : Dk) (s : ByteArray) (x : Int) (y : Nat) (ro : Bool × Dk) : Prop :=
  (ro.1 = false ∧ ro.2 = D ∧ ∀ f F, nFind D.now s.data.toList = some f → D.files[f]? = some F → (x < 0 ∨ (F.now.length : Int) ≤ x)) ∨
  (ro.1 = true ∧ ∃ (f p : Nat) (F : DFi) (o : Option Nat), nFind D.now s.data.toList = some f ∧ D.files[f]? = some F ∧ x = (p : Int) ∧ p < F.now.length ∧ RotsD F p o ∧ ro.2 = { D with files := D.files.set f (F.rotAt p (· ^^^ UInt8.ofNat y) o) })
/-- What the document says of a call. -/
def toldD (D : Dk) (x : Call) (ro : Bool × Dk) : (List UInt8 × Int × Bool) × Dk :=
  if x.k = 0 then (([], (createD D x.s).1, false), (createD D x.s).2)
  else if x.k = 1 then (([], (byteD D x.s ⟨false, 0, x.b⟩).1, false), (byteD D x.s ⟨false, 0, x.b⟩).2)
  else if x.k = 2 then (([], (byteD D x.s ⟨true, x.nn, []⟩).1, false), (byteD D x.s ⟨true, x.nn, []⟩).2)
  else if x.k = 3 then (([], (moveD D x.s x.t false).1, false), (moveD D x.s x.t false).2)
  else if x.k = 4 then (([], (moveD D x.s ⟨#[]⟩ true).1, false), (moveD D x.s ⟨#[]⟩ true).2)
  else if x.k = 5 then (([], (syncD D x.s false).1, false), (syncD D x.s false).2)
  else if x.k = 6 then (([], (syncD D ⟨#[]⟩ true).1, false), (syncD D ⟨#[]⟩ true).2)
  else if x.k = 7 then (([], (armD D x.nn).1, false), (armD D x.nn).2)
  else if x.k = 8 then (([], 0, false), crashD D x.l)
  else if x.k = 9 then (([], (roomD D x.nn).1, false), (roomD D x.nn).2)
  else if x.k = 10 then (([], 0, ro.1), ro.2)
  else (((readD D x.s.data.toList x.nn x.mm).1, (readD D x.s.data.toList x.nn x.mm).2, false), D)
/-- Both sides answer alike, and are alike behind it. -/
def AlikeR (a : (List UInt8 × Int × Bool) × Me) (b : (List UInt8 × Int × Bool) × Dk) : Prop := a.1 = b.1 ∧ ∃ φ, Sim φ a.2 b.2
theorem Alike.R {a : Int × Me} {b : Int × Dk} (h : Alike a b) : AlikeR (([], a.1, false), a.2) (([], b.1, false), b.2) := ⟨by rw [h.1], h.2⟩
theorem Sim.told {φ : Nat → Nat} {M : Me} {D : Dk} (h : Sim φ M D) (hf : M.Fr) (hok : M.ok) (hfo : ∀ gf F, M.fs gf = some F → F.ok) (x : Call) (hx : x.nn ≤ 9223372036854775807) (gf : Nat) (o : Option Nat) (hg : M.fs gf = none) (hR : x.k = 10 → M.Rotting x.s x.nn o) (ro : Bool × Dk) (hro : x.k = 10 → RotD D x.s x.nn (IntKind.u8.wrap x.mm).toNat ro) : AlikeR (stepM M x gf o) (toldD D x ro) := by
  unfold stepM toldD
  by_cases e0 : x.k = 0
  · rw [if_pos e0, if_pos e0]
    exact (h.create_ x.s gf hg).R
  rw [if_neg e0, if_neg e0]
  by_cases e1 : x.k = 1
  · rw [if_pos e1, if_pos e1]
    exact (h.append_ hfo x.s x.b).R
  rw [if_neg e1, if_neg e1]
  by_cases e2 : x.k = 2
  · rw [if_pos e2, if_pos e2]
    exact (h.truncate_ hfo x.s x.nn).R
  rw [if_neg e2, if_neg e2]
  by_cases e3 : x.k = 3
  · rw [if_pos e3, if_pos e3]
    exact (h.rename_ x.s x.t).R
  rw [if_neg e3, if_neg e3]
  by_cases e4 : x.k = 4
  · rw [if_pos e4, if_pos e4]
    exact (h.remove_ x.s _).R
  rw [if_neg e4, if_neg e4]
  by_cases e5 : x.k = 5
  · rw [if_pos e5, if_pos e5]
    exact (h.sync_ x.s).R
  rw [if_neg e5, if_neg e5]
  by_cases e6 : x.k = 6
  · rw [if_pos e6, if_pos e6]
    exact (h.syncDir_ _).R
  rw [if_neg e6, if_neg e6]
  by_cases e7 : x.k = 7
  · rw [if_pos e7, if_pos e7]
    have ha := h.arm x.nn hx
    exact ⟨by rw [ha.1], φ, ha.2⟩
  rw [if_neg e7, if_neg e7]
  by_cases e8 : x.k = 8
  · rw [if_pos e8, if_pos e8]
    exact ⟨rfl, h.crash_ x.l (Fronts.lasts hf x.l) (lasts_length hok x.l)⟩
  rw [if_neg e8, if_neg e8]
  by_cases e9 : x.k = 9
  · rw [if_pos e9, if_pos e9]
    have ha := h.setRoom x.nn
    exact ⟨by rw [ha.1], φ, ha.2⟩
  rw [if_neg e9, if_neg e9]
  by_cases e10 : x.k = 10
  · rw [if_pos e10, if_pos e10]
    obtain ⟨r, D'⟩ := ro
    have ha := h.rot_ hfo x.s x.nn (IntKind.u8.wrap x.mm).toNat o (hR e10) (hro e10)
    exact ⟨by rw [ha.1], φ, ha.2⟩
  rw [if_neg e10, if_neg e10]
  exact ⟨by rw [h.read], φ, h⟩
end Go.Proofs.YtljacdbdjacbkaaGreat
