/- Contracts and facts, several texts in one. It proves no statement. -/
import Derived.Test.YtblgphfdicffcaaGreatDoorHfi
import Derived.Test.YtblgphfdicffcaaGreatDoorHfj
import Derived.Test.YtblgphfdicffcaaGreatDoorHfg

/- A medium's calls on its state, whatever stands against them: what a call leaves. It proves no statement. -/




namespace Go.Proofs.YtblgphfdicffcaaGreatDoor
open Go.RowKit Go.Maps Go.WideMaps Go.Sort
set_option linter.unusedVariables false
set_option linter.unusedSimpArgs false

/-- What a call leaves of a medium. -/
def Left (w w' : World) (base g : Nat) (own : Own) (M' : Me) : Prop := Chg w w' (fun b => own b ≠ none) ∧ ∃ own' : Own, (∀ b, b < w.heap.size → own' b = own b) ∧ MedI w' base own' g M'
theorem Left.still {w w' : World} {base g : Nat} {own : Own} {M : Me} (h : MedI w base own g M) (s : Still w w') : Left w w' base g own M := ⟨Chg.of_still s _, own, fun _ _ => rfl, h.still s⟩
theorem Left.same {w : World} {base g : Nat} {own : Own} {M : Me} (h : MedI w base own g M) : Left w w base g own M := Left.still h (Still.refl w)
theorem MedB.uniq {w : World} {g : Nat} {room room' : Int} {bn bf bn' bf' : Nat} {wv wv' : Value} {left left' : Int} {off off' : Bool} (h : MedB w g room bn bf wv left off) (h' : MedB w g room' bn' bf' wv' left' off') : bn = bn' ∧ bf = bf' ∧ wv = wv' := by
  have h1 : w.heap[g]? = some (.cells #[.int .i64 room, .map (some bn), .map (some bf), wv, .int .i64 left, .bool off, .bool true] 136 (0, 0)) := h
  have h2 : w.heap[g]? = some (.cells #[.int .i64 room', .map (some bn'), .map (some bf'), wv', .int .i64 left', .bool off', .bool true] 136 (0, 0)) := h'
  rw [h1] at h2
  simp only [Option.some.injEq, Obj.cells.injEq, Array.mk.injEq, List.cons.injEq, Value.map.injEq, and_true, true_and] at h2
  exact ⟨h2.2.1, h2.2.2.1, h2.2.2.2.1⟩
theorem MedI.reB {w w' : World} {base g : Nat} {own : Own} {M : Me} {bn bf : Nat} {wv : Value} {room' left' : Int} {off off' : Bool} (h : MedI w base own g M) (d : MedB w g M.room bn bf wv M.left off) (m : MedB w' g room' bn bf wv left' off') (c : Chg w w' (fun x => x = g)) : Left w w' base g own { M with room := room', left := left', off := off' } := by
  obtain ⟨⟨bn2, bf2, wv2, ns, nn, nf, d1, d2, d3, d4, d5, d6, d7, d8, d9, d10, d11, d12⟩, hfi, hdom, hlow, hnog⟩ := h
  obtain ⟨rfl, rfl, rfl⟩ := d.uniq d1
  exact ⟨c.mono (fun b _ hb => by rw [hb, d9]; simp), own, fun _ _ => rfl, ⟨⟨bn, bf, wv, ns, nn, nf, m, c.nm d2 (nm_ne d2 d1), c.nm d3 (nm_ne d3 d1), d4, d5, c.own d6 (fun b hb e => own_neM d1 d6 (by decide) (by rw [hb, e])), d7, d8, d9, d10, d11, d12⟩, hfi.keep c (fun b gf k F hs hF e => by rw [hs, d9] at e; simp at e; rw [← e.1, hnog] at hF; cases hF), fun b hb => ⟨(hdom b hb).1, Nat.lt_of_lt_of_le (hdom b hb).2 c.size⟩, Nat.le_trans hlow c.size, hnog⟩⟩
/-- Without power. -/
def Me.dead (M : Me) : Me := { M with off := true }
theorem Me.dead_ok {M : Me} (h : M.ok) : M.dead.ok := ⟨h.rn, h.rf, h.ff, h.fw, h.eq, h.room, h.left, h.len⟩
theorem MedI.dead {w w' : World} {base g : Nat} {own : Own} {M : Me} {bn bf : Nat} {wv : Value} (h : MedI w base own g M) (h0 : M.left = 0) (d : MedB w g M.room bn bf wv M.left false) (m : MedB w' g M.room bn bf wv 0 true) (c : Chg w w' (fun x => x = g)) : Left w w' base g own M.dead := by
  have := h.reB d m c
  have e : ({ M with room := M.room, left := 0, off := true } : Me) = M.dead := by rw [← h0]; rfl
  rw [e] at this
  exact this
/-- Nobody's file. -/
theorem MedI.fresh {w : World} {base g : Nat} {own : Own} {M : Me} (h : MedI w base own g M) : M.fs w.heap.size = none := by
  cases hq : M.fs w.heap.size with
  | none => rfl
  | some F => have := (h.files _ F hq).2.2.2.lt; omega
/-- A file that is there. -/
theorem Me.there {M : Me} (h : M.ok) {s : List UInt8} {gf : Nat} (hk : nFind M.now s = some gf) : ∃ F, M.fs gf = some F := by
  have hm := nFind_mem hk
  have h1 := h.eq
  rw [h1] at hm
  exact steps_files h.ff h.fw _ hm
theorem stepL_eq {M : Me} : stepL M.left = stepL M.left := rfl

def opCreate (M : Me) (s : ByteArray) (gf : Nat) : Int × Me :=
  if M.off = true then (12, M) else if nmOK s.data.toList = false then (7, M) else if (nFind M.now s.data.toList).isSome = true then (10, M) else if 500 ≤ M.now.length then (16, M) else if M.left = 0 then (12, M.dead) else (0, M.link (⟨#[]⟩, s, (gf : Int)) (upd M.fs gf ⟨[], [], []⟩))
theorem create_M {w : World} {base g : Nat} {own : Own} {M : Me} (s : ByteArray) (h : MedI w base own g M) (hok : M.ok) (hcnt : M.cnt ≤ 900000) (hs : s.size ≤ maxLen) :
    Calls Tryz.prog 142 #[.pointer (some ⟨g, 0, none⟩), .string s] w fun e w' => ∃ gf, M.fs gf = none ∧ w.heap.size ≤ gf ∧ e = .returned (.int .i64 (opCreate M s gf).1) ∧ Left w w' base g own (opCreate M s gf).2 := by
  have hfr := h.fresh
  obtain ⟨bn, bf, wv, ns, nn, nf, d1, d2, _⟩ := h.dir
  by_cases c1 : M.off = true
  · rw [c1] at d1
    refine (create_err _ s w 12 (by decide) (works_off d1)).mono ?_
    rintro e w' ⟨he, rfl⟩
    refine ⟨_, hfr, Nat.le_refl _, ?_⟩
    unfold opCreate
    rw [if_pos c1]
    exact ⟨he, Left.same h⟩
  have hoff : M.off = false := by simpa using c1
  have d1o := d1
  rw [hoff] at d1
  by_cases c2 : nmOK s.data.toList = false
  · refine (create_bad _ s hs c2 w (works_on d1)).mono ?_
    rintro e w' ⟨he, rfl⟩
    refine ⟨_, hfr, Nat.le_refl _, ?_⟩
    unfold opCreate
    rw [if_neg c1, if_pos c2]
    exact ⟨he, Left.same h⟩
  have hnm : nmOK s.data.toList = true := by simpa using c2
  by_cases c3 : (nFind M.now s.data.toList).isSome = true
  · obtain ⟨gq, hq⟩ := Option.isSome_iff_exists.1 c3
    refine (create_there d1 s nn _ d2 hs hnm gq (look_found hq)).mono ?_
    rintro e w' ⟨he, rfl⟩
    refine ⟨_, hfr, Nat.le_refl _, ?_⟩
    unfold opCreate
    rw [if_neg c1, if_neg c2, if_pos c3]
    exact ⟨he, Left.same h⟩
  have hno : nFind M.now s.data.toList = none := by simpa using c3
  have hlk : look (nmD M.now) s = -1 := by rw [look_nm, hno]
  by_cases c4 : 500 ≤ M.now.length
  · refine (create_many d1 s nn _ d2 hs hnm hlk (by rw [size_nm]; exact c4)).mono ?_
    rintro e w' ⟨he, rfl⟩
    refine ⟨_, hfr, Nat.le_refl _, ?_⟩
    unfold opCreate
    rw [if_neg c1, if_neg c2, if_neg c3, if_pos c4]
    exact ⟨he, Left.same h⟩
  by_cases c5 : M.left = 0
  · have d1z := d1
    rw [c5] at d1z
    refine (create_dead d1z s nn _ d2 hs hnm hlk (by rw [size_nm]; omega)).mono ?_
    rintro e w' ⟨he, m, c⟩
    refine ⟨_, hfr, Nat.le_refl _, ?_⟩
    unfold opCreate
    rw [if_neg c1, if_neg c2, if_neg c3, if_neg c4, if_pos c5]
    exact ⟨he, h.dead c5 d1 m c⟩
  · refine (create_I s h hok hoff c5 hcnt hs hnm hno (by omega)).mono ?_
    rintro e w' ⟨he, c, own', gf, ho, hn, hg, m⟩
    refine ⟨gf, hn, hg, ?_⟩
    unfold opCreate
    rw [if_neg c1, if_neg c2, if_neg c3, if_neg c4, if_neg c5]
    exact ⟨he, c, own', ho, m⟩
/-- A file that is there, its power on. -/
def Me.find (M : Me) (s : ByteArray) : Int ⊕ (Nat × Fi) := if M.off = true then .inl 12 else match nFind M.now s.data.toList with
  | none => .inl 9
  | some gf => match M.fs gf with
    | none => .inl 9
    | some F => .inr (gf, F)
theorem find_M {w : World} {base g : Nat} {own : Own} {M : Me} (s : ByteArray) (h : MedI w base own g M) (hok : M.ok) (hs : s.size ≤ maxLen) :
    (∃ E, M.find s = .inl E ∧ (E = 12 ∨ E = 9) ∧ Calls Tryz.prog 117 #[.pointer (some ⟨g, 0, none⟩), .string s] w fun e w' => e = .returned (.tuple #[.pointer none, .int .i64 E]) ∧ w = w')
    ∨ ∃ gf F, M.find s = .inr (gf, F) ∧ M.off = false ∧ nFind M.now s.data.toList = some gf ∧ M.fs gf = some F ∧ Calls Tryz.prog 117 #[.pointer (some ⟨g, 0, none⟩), .string s] w fun e w' => e = .returned (.tuple #[.pointer (some ⟨gf, 0, none⟩), .int .i64 0]) ∧ w = w' := by
  obtain ⟨bn, bf, wv, ns, nn, nf, d1, d2, _⟩ := h.dir
  by_cases c1 : M.off = true
  · rw [c1] at d1
    exact .inl ⟨12, by unfold Me.find; rw [if_pos c1], .inl rfl, find_off d1 s nn _ d2 hs⟩
  have hoff : M.off = false := by simpa using c1
  rw [hoff] at d1
  cases hk : nFind M.now s.data.toList with
  | none => exact .inl ⟨9, by unfold Me.find; rw [if_neg c1, hk], .inr rfl, find_none d1 s nn _ d2 hs (by rw [look_nm, hk])⟩
  | some gf =>
    obtain ⟨F, hF⟩ := Me.there hok hk
    refine .inr ⟨gf, F, ?_, hoff, hk ▸ rfl, hF, find_there d1 s nn _ d2 hs gf (look_found hk)⟩
    unfold Me.find
    rw [if_neg c1, hk]
    simp only [hF]
end Go.Proofs.YtblgphfdicffcaaGreatDoor

/- A medium's calls on its state: Truncate. It proves no statement. -/

namespace Go.Proofs.YtblgphfdicffcaaGreatDoor
open Go.RowKit Go.Maps Go.WideMaps Go.Sort
set_option linter.unusedVariables false
set_option linter.unusedSimpArgs false

end Go.Proofs.YtblgphfdicffcaaGreatDoor

/- A medium's calls on its state, whatever stands against them. It proves no statement. -/

namespace Go.Proofs.YtblgphfdicffcaaGreatDoor
open Go.RowKit Go.Maps Go.WideMaps Go.Sort
set_option linter.unusedVariables false
set_option linter.unusedSimpArgs false

theorem used_sum (sz : Int → Nat) (N : NT) : usedOf sz (nmD N) = (N.map fun p => sz (p.2 : Int)).sum := by
  show sumL sz (fun _ => true) (N.map fun p => (Lit.string p.1, fd (p.2 : Int))) = _
  induction N with
  | nil => rfl
  | cons p N ih =>
    rw [List.map_cons, List.map_cons, List.sum_cons, sumL, ih]
    rfl
theorem Me.used_eq (M : Me) : M.used = (M.now.map fun p => M.sz (p.2 : Int)).sum := used_sum _ _
theorem Me.sz_of {M : Me} {gf : Nat} {F : Fi} (hF : M.fs gf = some F) : M.sz (gf : Int) = F.now.length := by unfold Me.sz; simp [hF]
theorem sum_le_mul (l : List Nat) (c : Nat) (h : ∀ x ∈ l, x ≤ c) : l.sum ≤ c * l.length := by
  induction l with
  | nil => simp
  | cons x l ih =>
    rw [List.sum_cons, List.length_cons, Nat.mul_succ]
    have := h x (by simp)
    have := ih (fun y hy => h y (by simp [hy]))
    omega
theorem le_sum_of_mem {l : List Nat} {x : Nat} (h : x ∈ l) : x ≤ l.sum := by
  induction l with
  | nil => cases h
  | cons y l ih =>
    rw [List.sum_cons]
    rcases List.mem_cons.1 h with h | h
    · omega
    · have := ih h; omega
theorem used_most {w : World} {base g : Nat} {own : Own} {M : Me} (h : MedI w base own g M) (hok : M.ok) (hcnt : M.cnt ≤ 1000000) : M.used ≤ 35184372088832 := by
  have h1 : M.used ≤ 16777216 * (M.now.map fun p => M.sz (p.2 : Int)).length := by
    rw [Me.used_eq]
    refine sum_le_mul _ _ (fun x hx => ?_)
    obtain ⟨p, hp, rfl⟩ := List.mem_map.1 hx
    have hm := hp
    rw [hok.eq] at hm
    obtain ⟨F, hF⟩ := steps_files hok.ff hok.fw p hm
    show M.sz (p.2 : Int) ≤ _
    rw [Me.sz_of hF]
    exact Fi.len (h.files _ F hF).2.1
  have h2 : M.now.length ≤ M.cnt := by
    have := steps_length M.fast M.wait
    have := hok.len
    rw [hok.eq]
    omega
  rw [List.length_map] at h1
  omega
theorem used_has {M : Me} {s : List UInt8} {gf : Nat} {F : Fi} (hk : nFind M.now s = some gf) (hF : M.fs gf = some F) : F.now.length ≤ M.used := by
  rw [Me.used_eq, ← Me.sz_of hF]
  exact le_sum_of_mem (List.mem_map.2 ⟨_, nFind_mem hk, rfl⟩)
theorem name_I {w : World} {base g : Nat} {own : Own} {M : Me} (x : ByteArray × ByteArray × Int) (h : MedI w base own g M) (hok : M.ok) (hoff : M.off = false) (hl0 : M.left ≠ 0) (hcnt : M.cnt ≤ 900000) (hx1 : x.1.size ≤ maxLen) (hx2 : x.2.1.size ≤ maxLen) (hx3 : x.2.2 = -1 ∨ 0 ≤ x.2.2) :
    Calls Tryz.prog 204 #[.pointer (some ⟨g, 0, none⟩), .agg #[.string x.1, .string x.2.1, pv x.2.2]] w fun e w' => e = .returned (.int .i64 0) ∧ Left w w' base g own (M.link x M.fs) := by
  obtain ⟨⟨bn, bf, wv, ns, nn, nf, d1, d2, d3, d4, d5, d6, d7, d8, d9, d10, d11, d12⟩, hfi, hdom, hlow, hnog⟩ := h
  have hlt : g < w.heap.size ∧ bn < w.heap.size ∧ bf < w.heap.size := ⟨Blk.lt d1, d2.lt, d3.lt⟩
  have hbb : bn ≠ bf := fun e => by rw [e, d11] at d10; simp at d10
  have hst := step_ok hl0
  have d1' := d1
  rw [hoff] at d1
  refine (name_yes d1 hok.left.2 x.1 x.2.1 x.2.2 hx3 nn M.wait.length base (nmD M.now) ns d2 (by omega) hx1 hx2 d6 (by omega) hlow hst.1).mono ?_
  rintro e w' ⟨he, wv', m, r, q, c, loc⟩
  rw [hst.2] at m
  have hwv : ∀ b, w.heap.size ≤ b → wv'.ownBlock = some b → (fun b => if w.heap.size ≤ b ∧ wv'.ownBlock = some b then some (g, 3) else own b) b = some (g, 3) := fun b hb hw => if_pos ⟨hb, hw⟩
  have ho : ∀ b, b < w.heap.size → (fun b => if w.heap.size ≤ b ∧ wv'.ownBlock = some b then some (g, 3) else own b) b = own b := fun b hb => if_neg (fun e => by omega)
  have hcS : ∀ b, (b = g ∨ b = bn ∨ wv.ownBlock = some b) → ∃ k, own b = some (g, k) := by
    rintro b (rfl | rfl | e)
    · exact ⟨0, d9⟩
    · exact ⟨1, d10⟩
    · exact ⟨3, d12 b e⟩
  refine ⟨he, c.mono (fun b _ hs => by obtain ⟨k, hk⟩ := hcS b hs; rw [hk]; simp), _, ho, ?_, ?_, ?_, ?_, hnog⟩
  · have m' : MedB w' g M.room bn bf wv' (stepL M.left) M.off := by rw [hoff]; exact m
    exact link_dir (fs := M.fs) (x := x) d3 d4 d5 d7 d8 d9 d10 d11 d12 hbb d1' d6 m' r q c loc hx1 hx2 hx3 ho hwv hlt
  · intro gf F hF
    obtain ⟨q1, q2, q3, q4⟩ := hfi gf F hF
    refine ⟨q1, q2, q3, FileI.keep (q4.reown ho) (S := fun b => (b = g ∨ b = bn ∨ wv.ownBlock = some b) ∧ b < w.heap.size) (c.mono (fun b hb hs => ⟨hs, hb⟩)) (fun b k hs e => ?_)⟩
    have e2 := (ho b hs.2).symm.trans e
    obtain ⟨k2, hk2⟩ := hcS b hs.1
    rw [hk2] at e2
    simp at e2
    have hF2 : M.fs gf = some F := hF
    rw [← e2.1, hnog] at hF2
    cases hF2
  · intro b hb
    change (if w.heap.size ≤ b ∧ wv'.ownBlock = some b then some (g, 3) else own b) ≠ none at hb
    split at hb
    · rename_i e; exact r.lt b e.2
    · have := hdom b hb; have := c.size; omega
  · exact Nat.le_trans hlow c.size
/-- Any naming, the step done or not. -/
def opName (M : Me) (x : ByteArray × ByteArray × Int) : Int × Me := if M.left = 0 then (12, M.dead) else (0, M.link x M.fs)
theorem name_M {w : World} {base g : Nat} {own : Own} {M : Me} (x : ByteArray × ByteArray × Int) (h : MedI w base own g M) (hok : M.ok) (hoff : M.off = false) (hcnt : M.cnt ≤ 900000) (hx1 : x.1.size ≤ maxLen) (hx2 : x.2.1.size ≤ maxLen) (hx3 : x.2.2 = -1 ∨ 0 ≤ x.2.2) :
    Calls Tryz.prog 204 #[.pointer (some ⟨g, 0, none⟩), .agg #[.string x.1, .string x.2.1, pv x.2.2]] w fun e w' => e = .returned (.int .i64 (opName M x).1) ∧ Left w w' base g own (opName M x).2 := by
  by_cases c5 : M.left = 0
  · obtain ⟨bn, bf, wv, ns, nn, nf, d1, d2, _⟩ := h.dir
    rw [hoff] at d1
    have d1z := d1
    rw [c5] at d1z
    unfold opName
    rw [if_pos c5]
    exact (name_dead d1z x.1 x.2.1 x.2.2).mono fun e w' hh => ⟨hh.1, h.dead c5 d1 hh.2.1 hh.2.2⟩
  · unfold opName
    rw [if_neg c5]
    exact name_I x h hok hoff c5 hcnt hx1 hx2 hx3
def opRename (M : Me) (s t : ByteArray) : Int × Me := match M.find s with
  | .inl E => (E, M)
  | .inr (gf, F) => if nmOK t.data.toList = false then (7, M) else opName M (s, t, (gf : Int))
def opRemove (M : Me) (s : ByteArray) : Int × Me := match M.find s with
  | .inl E => (E, M)
  | .inr (gf, F) => opName M (s, ⟨#[]⟩, -1)
theorem err_ne {E : Int} (h : E = 12 ∨ E = 9) : (E != 0) = true := by rcases h with rfl | rfl <;> decide
theorem rename_M {w : World} {base g : Nat} {own : Own} {M : Me} (s t : ByteArray) (h : MedI w base own g M) (hok : M.ok) (hcnt : M.cnt ≤ 900000) (hs : s.size ≤ maxLen) (ht : t.size ≤ maxLen) :
    Calls Tryz.prog 144 #[.pointer (some ⟨g, 0, none⟩), .string s, .string t] w fun e w' => e = .returned (.int .i64 (opRename M s t).1) ∧ Left w w' base g own (opRename M s t).2 := by
  rcases find_M s h hok hs with ⟨E, hE, hEE, hf⟩ | ⟨gf, F, hE, hoff, hlk, hF, hf⟩
  · have e : opRename M s t = (E, M) := by unfold opRename; rw [hE]
    rw [e]
    exact (rename_err _ s t w E (err_ne hEE) hf).mono fun e w' hh => ⟨hh.1, hh.2 ▸ Left.same h⟩
  · by_cases c : nmOK t.data.toList = false
    · have e : opRename M s t = (7, M) := by unfold opRename; rw [hE]; exact if_pos c
      rw [e]
      exact (rename_bad _ _ s t ht c w hf).mono fun e w' hh => ⟨hh.1, hh.2 ▸ Left.same h⟩
    · have e : opRename M s t = opName M (s, t, (gf : Int)) := by unfold opRename; rw [hE]; exact if_neg c
      rw [e]
      exact rename_by gf s t ht (by simpa using c) _ (fun w w' => Left w w' base g own (opName M (s, t, (gf : Int))).2) hf (name_M (s, t, (gf : Int)) h hok hoff hcnt hs ht (.inr (by show (0 : Int) ≤ gf; omega)))
theorem remove_M {w : World} {base g : Nat} {own : Own} {M : Me} (s : ByteArray) (h : MedI w base own g M) (hok : M.ok) (hcnt : M.cnt ≤ 900000) (hs : s.size ≤ maxLen) :
    Calls Tryz.prog 141 #[.pointer (some ⟨g, 0, none⟩), .string s] w fun e w' => e = .returned (.int .i64 (opRemove M s).1) ∧ Left w w' base g own (opRemove M s).2 := by
  rcases find_M s h hok hs with ⟨E, hE, hEE, hf⟩ | ⟨gf, F, hE, hoff, hlk, hF, hf⟩
  · have e : opRemove M s = (E, M) := by unfold opRemove; rw [hE]
    rw [e]
    exact (remove_err _ s w E (err_ne hEE) hf).mono fun e w' hh => ⟨hh.1, hh.2 ▸ Left.same h⟩
  · have e : opRemove M s = opName M (s, ⟨#[]⟩, -1) := by unfold opRemove; rw [hE]
    rw [e]
    exact remove_by gf s _ (fun w w' => Left w w' base g own (opName M (s, ⟨#[]⟩, -1)).2) hf (name_M (s, ⟨#[]⟩, -1) h hok hoff hcnt hs (by show (⟨#[]⟩ : ByteArray).size ≤ maxLen; decide) (.inl rfl))
def opAppend (M : Me) (s : ByteArray) (x : List UInt8) : Int × Me := match M.find s with
  | .inl E => (E, M)
  | .inr (gf, F) => if M.room < (x.length : Int) + M.used then (11, M) else if M.left = 0 then (12, M.dead) else (0, M.wrote gf (F.wrote ⟨F.now.length, x⟩))
theorem append_M {w : World} {base g : Nat} {own : Own} {M : Me} (s : ByteArray) (A : Option Addr) (m c B : Nat) (x : List UInt8) (h : MedI w base own g M) (hok : M.ok) (hcnt : M.cnt ≤ 900000) (hwt : ∀ gf F, M.fs gf = some F → F.wait.length ≤ M.cnt) (hs : s.size ≤ maxLen)
    (hr : Reads w B A m x) (hB : B ≤ w.heap.size) (hA : A = none → m = 0 ∧ c = 0) (hm : m ≤ 70368744177664) :
    Calls Tryz.prog 206 #[.pointer (some ⟨g, 0, none⟩), .string s, .slice A m c] w fun e w' => e = .returned (.int .i64 (opAppend M s x).1) ∧ Left w w' base g own (opAppend M s x).2 := by
  rcases find_M s h hok hs with ⟨E, hE, hEE, hf⟩ | ⟨gf, F, hE, hoff, hlk, hF, hf⟩
  · have e : opAppend M s x = (E, M) := by unfold opAppend; rw [hE]
    rw [e]
    exact (append_err _ s A m c w E (err_ne hEE) hf).mono fun e w' hh => ⟨hh.1, hh.2 ▸ Left.same h⟩
  · have hu := used_most h hok (by omega)
    have hsz := sized_I h hok
    have hxl : x.length = m := hr.1
    have hus := used_has hlk hF
    obtain ⟨bn, bf, wv, ns, nn, nf, d1, d2, _⟩ := h.dir
    obtain ⟨q1, q2, q3, nv, fv, wtv, cs, f1, f2, _⟩ := h.files gf F hF
    rw [hoff] at d1
    by_cases c1 : M.room < (x.length : Int) + M.used
    · have e : opAppend M s x = (11, M) := by unfold opAppend; rw [hE]; exact if_pos c1
      rw [e]
      exact (append_full d1 s hs nn (nmD M.now) d2 M.sz hsz gf F.now.length base nv fv wtv F.now x A m c B (look_found hlk) f1 f2 hr hB hA hm hu hok.room.1 hok.room.2 (by rw [← hxl]; exact c1)).mono fun e w' hh => ⟨hh.1, Left.still h hh.2⟩
    by_cases c2 : M.left = 0
    · have e : opAppend M s x = (12, M.dead) := by unfold opAppend; rw [hE]; exact (if_neg c1).trans (if_pos c2)
      rw [e]
      have d1z := d1
      rw [c2] at d1z
      refine append_by d1 s hs nn (nmD M.now) d2 M.sz hsz gf F.now.length base nv fv wtv F.now x A m c B (look_found hlk) f1 f2 hr hB hA hm hu hok.room.1 hok.room.2 (by rw [← hxl]; show _ + (M.used : Int) ≤ _; omega) 12 (fun w' => Left w w' base g own M.dead) (fun W st Ac cc _ => ?_)
      exact (write_dead (d1z.still st) gf F.now.length m cc Ac).mono fun e w' hh => ⟨hh.1, h.dead c2 d1 hh.2.1 ((Chg.of_still st (fun x => x = g)).trans hh.2.2 (fun _ _ h => h))⟩
    · have e : opAppend M s x = (0, M.wrote gf (F.wrote ⟨F.now.length, x⟩)) := by unfold opAppend; rw [hE]; exact (if_neg c1).trans (if_neg c2)
      rw [e]
      have := hwt gf F hF
      have hr1 := hok.room.2
      exact append_I s gf F A m c B x h hok hoff c2 hs hlk hF (by omega) hr hB hA hu (by rw [← hxl]; omega) (by omega)
def opTruncate (M : Me) (s : ByteArray) (n : Int) : Int × Me := match M.find s with
  | .inl E => (E, M)
  | .inr (gf, F) => if n < 0 ∨ (F.now.length : Int) < n then (2, M) else if M.left = 0 then (12, M.dead) else (0, M.wrote gf (F.wrote ⟨n.toNat, []⟩))
def opSync (M : Me) (s : ByteArray) : Int × Me := match M.find s with
  | .inl E => (E, M)
  | .inr (gf, F) => if M.left = 0 then (12, M.dead) else (0, M.wrote gf F.synced)
theorem sync_M {w : World} {base g : Nat} {own : Own} {M : Me} (s : ByteArray) (h : MedI w base own g M) (hok : M.ok) (hs : s.size ≤ maxLen) :
    Calls Tryz.prog 101 #[.pointer (some ⟨g, 0, none⟩), .string s] w fun e w' => e = .returned (.int .i64 (opSync M s).1) ∧ Left w w' base g own (opSync M s).2 := by
  rcases find_M s h hok hs with ⟨E, hE, hEE, hf⟩ | ⟨gf, F, hE, hoff, hlk, hF, hf⟩
  · have e : opSync M s = (E, M) := by unfold opSync; rw [hE]
    rw [e]
    exact (sync_err _ s w E (err_ne hEE) hf).mono fun e w' hh => ⟨hh.1, hh.2 ▸ Left.same h⟩
  · by_cases c2 : M.left = 0
    · obtain ⟨bn, bf, wv, ns, nn, nf, d1, d2, _⟩ := h.dir
      rw [hoff] at d1
      have e : opSync M s = (12, M.dead) := by unfold opSync; rw [hE]; exact if_pos c2
      rw [e]
      have d1z := d1
      rw [c2] at d1z
      exact (sync_dead d1z gf s hf).mono fun e w' hh => ⟨hh.1, h.dead c2 d1 hh.2.1 hh.2.2⟩
    · have e : opSync M s = (0, M.wrote gf F.synced) := by unfold opSync; rw [hE]; exact if_neg c2
      rw [e]
      exact sync_I s gf F h hok hoff c2 hs hlk hF
def opSyncDir (M : Me) : Int × Me := if M.off = true then (12, M) else if M.left = 0 then (12, M.dead) else (0, M.syncedDir)
theorem syncDir_M {w : World} {base g : Nat} {own : Own} {M : Me} (h : MedI w base own g M) (hok : M.ok) (hcnt : M.cnt ≤ 900000) :
    Calls Tryz.prog 85 #[.pointer (some ⟨g, 0, none⟩)] w fun e w' => e = .returned (.int .i64 (opSyncDir M).1) ∧ Left w w' base g own (opSyncDir M).2 := by
  obtain ⟨bn, bf, wv, ns, nn, nf, d1, d2, _⟩ := h.dir
  by_cases c1 : M.off = true
  · rw [c1] at d1
    have e : opSyncDir M = (12, M) := if_pos c1
    rw [e]
    exact (syncDir_err _ w 12 (by decide) (works_off d1)).mono fun e w' hh => ⟨hh.1, hh.2 ▸ Left.same h⟩
  have hoff : M.off = false := by simpa using c1
  rw [hoff] at d1
  by_cases c2 : M.left = 0
  · have e : opSyncDir M = (12, M.dead) := (if_neg c1).trans (if_pos c2)
    rw [e]
    have d1z := d1
    rw [c2] at d1z
    exact (syncDir_dead d1z).mono fun e w' hh => ⟨hh.1, h.dead c2 d1 hh.2.1 hh.2.2⟩
  · have e : opSyncDir M = (0, M.syncedDir) := (if_neg c1).trans (if_neg c2)
    rw [e]
    exact (syncDir_I h hok hoff c2 (by omega)).mono fun e w' hh => ⟨hh.1, hh.2.1, own, fun _ _ => rfl, hh.2.2⟩
def opArm (M : Me) (n : Int) : Int × Me := if M.off = true then (12, M) else if n < 0 then (2, M) else (0, { M with left := n })
theorem arm_M {w : World} {base g : Nat} {own : Own} {M : Me} (n : Int) (h : MedI w base own g M) :
    Calls Tryz.prog 41 #[.pointer (some ⟨g, 0, none⟩), .int .i64 n] w fun e w' => e = .returned (.int .i64 (opArm M n).1) ∧ Left w w' base g own (opArm M n).2 := by
  obtain ⟨bn, bf, wv, ns, nn, nf, d1, d2, _⟩ := h.dir
  by_cases c1 : M.off = true
  · rw [c1] at d1
    have e : opArm M n = (12, M) := if_pos c1
    rw [e]
    exact (arm_err _ n w 12 (by decide) (works_off d1)).mono fun e w' hh => ⟨hh.1, hh.2 ▸ Left.same h⟩
  have hoff : M.off = false := by simpa using c1
  rw [hoff] at d1
  by_cases c2 : n < 0
  · have e : opArm M n = (2, M) := (if_neg c1).trans (if_pos c2)
    rw [e]
    exact (arm_arg n c2 (works_on d1)).mono fun e w' hh => ⟨hh.1, hh.2 ▸ Left.same h⟩
  · have e : opArm M n = (0, { M with left := n }) := (if_neg c1).trans (if_neg c2)
    rw [e]
    refine (arm_ok d1 n (by omega)).mono fun e w' hh => ⟨hh.1, ?_⟩
    have := h.reB d1 hh.2.1 (Chg.of_grown hh.2.2 (fun k h _ => by simpa using h.symm))
    rw [← hoff] at this
    exact this
def opSetRoom (M : Me) (n : Int) : Int × Me := if M.off = true then (12, M) else if roomOK n = false then (2, M) else (0, { M with room := n })
def opRead (M : Me) (s : ByteArray) (x y : Int) : List UInt8 × Int := match M.find s with
  | .inl E => ([], E)
  | .inr (gf, F) => if x < 0 ∨ y < 0 then ([], 2) else if (F.now.length : Int) - x < y then ([], 3) else ((F.now.drop x.toNat).take y.toNat, 0)
theorem read_M {w : World} {base g : Nat} {own : Own} {M : Me} (s : ByteArray) (x y : Int) (hx : x ≤ 9223372036854775807) (h : MedI w base own g M) (hok : M.ok) (hs : s.size ≤ maxLen) :
    Calls Tryz.prog 60 #[.pointer (some ⟨g, 0, none⟩), .string s, .int .i64 x, .int .i64 y] w fun e w' => (∃ v, e = .returned (.tuple #[v, .int .i64 (opRead M s x y).2]) ∧ w'.ownsRow w.heap.size 5 1 v (opRead M s x y).1.length (bytesV (opRead M s x y).1)) ∧ Still w w' := by
  rcases find_M s h hok hs with ⟨E, hE, hEE, hf⟩ | ⟨gf, F, hE, hoff, hlk, hF, hf⟩
  · have e : opRead M s x y = ([], E) := by unfold opRead; rw [hE]
    rw [e]
    exact (read_err _ s x y w E (err_ne hEE) hf).mono fun e w' hh => ⟨⟨_, hh.1, World.ownsRow_nil _ _ _ _⟩, hh.2 ▸ Still.refl w⟩
  · obtain ⟨q1, q2, q3, nv, fv, wtv, cs, f1, f2, _⟩ := h.files gf F hF
    have hln := Fi.len q2
    by_cases c1 : x < 0 ∨ y < 0
    · have e : opRead M s x y = ([], 2) := by unfold opRead; rw [hE]; exact if_pos c1
      rw [e]
      exact (read_arg s x y _ hf c1).mono fun e w' hh => ⟨⟨_, hh.1, World.ownsRow_nil _ _ _ _⟩, hh.2 ▸ Still.refl w⟩
    by_cases c2 : (F.now.length : Int) - x < y
    · obtain ⟨Anv, cnv, rfl, _, _, _⟩ := own_form f2
      have e : opRead M s x y = ([], 3) := by unfold opRead; rw [hE]; exact (if_neg c1).trans (if_pos c2)
      rw [e]
      exact (read_short s x y gf F.now.length cnv Anv fv wtv hf f1 hln (by omega) hx (by omega) c2).mono fun e w' hh => ⟨⟨_, hh.1, World.ownsRow_nil _ _ _ _⟩, hh.2 ▸ Still.refl w⟩
    · obtain ⟨i, rfl⟩ := Int.eq_ofNat_of_zero_le (show 0 ≤ x by omega)
      obtain ⟨j, rfl⟩ := Int.eq_ofNat_of_zero_le (show 0 ≤ y by omega)
      have e : opRead M s (i : Int) (j : Int) = ((F.now.drop i).take j, 0) := by unfold opRead; rw [hE]; exact (if_neg c1).trans (if_neg c2)
      rw [e]
      have hl : ((F.now.drop i).take j).length = j := by rw [List.length_take, List.length_drop]; omega
      rw [hl]
      exact read_ok s base i j gf F.now.length nv fv wtv F.now hf f1 f2 hln (by omega)
end Go.Proofs.YtblgphfdicffcaaGreatDoor

/- What a spoilt byte does to a file: the mathematics. It proves no statement. -/

namespace Go.Proofs.YtblgphfdicffcaaGreatDoor
open Go.RowKit Go.Maps Go.WideMaps Go.Sort
set_option linter.unusedVariables false
set_option linter.unusedSimpArgs false

section
variable {f : UInt8 → UInt8}
theorem modify_left {l m : List UInt8} {i : Nat} (h : i < l.length) : (l ++ m).modify i f = l.modify i f ++ m := by
  apply List.ext_getElem?
  intro j
  rw [List.getElem?_modify]
  by_cases hj : j < l.length
  · rw [List.getElem?_append_left hj, List.getElem?_append_left (by rw [List.length_modify]; exact hj), List.getElem?_modify]
  · rw [List.getElem?_append_right (by omega), List.getElem?_append_right (by rw [List.length_modify]; omega), List.length_modify]
    have : i ≠ j := by omega
    simp [this]
theorem modify_right {l m : List UInt8} {i : Nat} (h : l.length ≤ i) : (l ++ m).modify i f = l ++ m.modify (i - l.length) f := by
  apply List.ext_getElem?
  intro j
  rw [List.getElem?_modify]
  by_cases hj : j < l.length
  · rw [List.getElem?_append_left hj, List.getElem?_append_left hj]
    have : i ≠ j := by omega
    simp [this]
  · rw [List.getElem?_append_right (by omega), List.getElem?_append_right (by omega), List.getElem?_modify]
    by_cases e : i = j
    · simp [e]
    · have : i - l.length ≠ j - l.length := by omega
      simp [e, this]
theorem modify_far {α : Type} {g : α → α} {l : List α} {i : Nat} (h : l.length ≤ i) : l.modify i g = l := by
  apply List.ext_getElem?
  intro j
  rw [List.getElem?_modify]
  by_cases e : i = j
  · rw [List.getElem?_eq_none (by omega)]; rfl
  · simp [e]
/-- The byte's bytes behind it. -/
theorem app_over {b : List UInt8} {c : Ch} {at_ : Nat} (h : at_ < c.fin) (hf : c.fin ≤ b.length) : (b.modify at_ f).take c.fin ++ c.more = (b.take c.fin ++ c.more).modify at_ f := by
  rw [List.take_modify, modify_left (by rw [List.length_take]; omega)]
end
/-- Which change's byte it is: the last one that ends ahead of it; none: what was fast. -/
def Rots (F : Fi) (at_ : Nat) : Option Nat → Prop
  | none => ∀ (j : Nat) (c : Ch), F.wait[j]? = some c → at_ < c.fin
  | some i => (∃ c : Ch, F.wait[i]? = some c ∧ c.fin ≤ at_) ∧ ∀ (j : Nat) (c : Ch), i < j → F.wait[j]? = some c → at_ < c.fin
def Ch.rot (c : Ch) (at_ : Nat) (f : UInt8 → UInt8) : Ch := ⟨c.fin, c.more.modify (at_ - c.fin) f⟩
def Fi.rotAt (F : Fi) (at_ : Nat) (f : UInt8 → UInt8) : Option Nat → Fi
  | none => ⟨F.now.modify at_ f, F.fast.modify at_ f, F.wait⟩
  | some i => ⟨F.now.modify at_ f, F.fast, F.wait.modify i (fun c => c.rot at_ f)⟩
theorem Fi.rot_none {F : Fi} (h : F.ok) {at_ : Nat} (hr : Rots F at_ none) (f : UInt8 → UInt8) (k : Nat) (hk : k ≤ F.wait.length) : appAll (F.fast.modify at_ f) (F.wait.take k) = (appAll F.fast (F.wait.take k)).modify at_ f := by
  induction k with
  | zero => rfl
  | succ k ih =>
    have hc := List.getElem?_eq_getElem (show k < F.wait.length by omega)
    rw [appAll_step _ _ k _ hc, appAll_step _ _ k _ hc, ih (by omega)]
    exact app_over (hr k _ hc) (h.2.2 k _ hc).1
theorem Fi.rot_low {F : Fi} {at_ i : Nat} (f : UInt8 → UInt8) (k : Nat) (hk : k ≤ i) : (F.wait.modify i (fun c => c.rot at_ f)).take k = F.wait.take k := by
  rw [List.take_modify]
  exact modify_far (by rw [List.length_take]; omega)
theorem Fi.rot_some {F : Fi} (h : F.ok) {at_ i : Nat} (hr : Rots F at_ (some i)) (f : UInt8 → UInt8) (k : Nat) (hk : i + 1 + k ≤ F.wait.length) : appAll F.fast ((F.wait.modify i (fun c => c.rot at_ f)).take (i + 1 + k)) = (appAll F.fast (F.wait.take (i + 1 + k))).modify at_ f := by
  induction k with
  | zero =>
    obtain ⟨⟨c, hc, hle⟩, _⟩ := hr
    have hc2 : (F.wait.modify i (fun c => c.rot at_ f))[i]? = some (c.rot at_ f) := by rw [List.getElem?_modify, hc]; simp
    rw [Nat.add_zero, appAll_step _ _ i _ hc2, appAll_step _ _ i _ hc, Fi.rot_low f i (Nat.le_refl _)]
    have hl : ((appAll F.fast (F.wait.take i)).take c.fin).length = c.fin := by rw [List.length_take]; have := (h.2.2 i c hc).1; omega
    rw [modify_right (by omega), hl]
    rfl
  | succ k ih =>
    have hc := List.getElem?_eq_getElem (show i + 1 + k < F.wait.length by omega)
    have hc2 : (F.wait.modify i (fun c => c.rot at_ f))[i + 1 + k]? = some F.wait[i + 1 + k] := by
      rw [List.getElem?_modify, hc]
      have : i ≠ i + 1 + k := by omega
      simp [this]
    rw [← Nat.add_assoc, appAll_step _ _ (i + 1 + k) _ hc2, appAll_step _ _ (i + 1 + k) _ hc, ih (by omega)]
    exact app_over (hr.2 _ _ (by omega) hc) (h.2.2 _ _ hc).1
theorem Fi.rot_in {F : Fi} (h : F.ok) {at_ i : Nat} (hat : at_ < F.now.length) (hr : Rots F at_ (some i)) : ∃ c, F.wait[i]? = some c ∧ c.fin ≤ at_ ∧ at_ - c.fin < c.more.length := by
  obtain ⟨⟨c, hc, hle⟩, hj⟩ := hr
  refine ⟨c, hc, hle, ?_⟩
  have hl : (appAll F.fast (F.wait.take (i + 1))).length ≤ c.fin + c.more.length := by rw [appAll_step _ _ i _ hc, List.length_append, List.length_take]; omega
  have : at_ < (appAll F.fast (F.wait.take (i + 1))).length := by
    by_cases hi : i + 1 < F.wait.length
    · have hd := List.getElem?_eq_getElem hi
      have h1 := hj (i + 1) _ (by omega) hd
      have h2 := (h.2.2 _ _ hd).1
      omega
    · rw [List.take_of_length_le (by omega), ← h.1]
      exact hat
  omega
theorem Fi.rot_fast {F : Fi} (h : F.ok) {at_ : Nat} (hat : at_ < F.now.length) (hr : Rots F at_ none) : at_ < F.fast.length := by
  by_cases hi : 0 < F.wait.length
  · have hd := List.getElem?_eq_getElem hi
    have h1 := hr 0 _ hd
    have h2 := (h.2.2 _ _ hd).1
    rw [List.take_zero, appAll_nil] at h2
    omega
  · have : F.wait = [] := List.eq_nil_of_length_eq_zero (by omega)
    have h1 := h.1
    rw [this, appAll_nil] at h1
    rw [← h1]
    exact hat
theorem Fi.rot_ok {F : Fi} (h : F.ok) {at_ : Nat} (hat : at_ < F.now.length) (f : UInt8 → UInt8) {o : Option Nat} (hr : Rots F at_ o) : (F.rotAt at_ f o).ok := by
  cases o with
  | none =>
    have key := Fi.rot_none h hr f
    refine ⟨?_, ?_, ?_⟩
    · have := key F.wait.length (Nat.le_refl _)
      rw [List.take_length] at this
      show F.now.modify at_ f = appAll (F.fast.modify at_ f) F.wait
      rw [this, ← h.1]
    · show (F.fast.modify at_ f).length ≤ _
      rw [List.length_modify]; exact h.2.1
    · intro j c hc
      have hjl : j < F.wait.length := (List.getElem?_eq_some_iff.1 hc).1
      have := h.2.2 j c hc
      show c.fin ≤ (appAll (F.fast.modify at_ f) (F.wait.take j)).length ∧ (c.more = [] ∨ c.fin = (appAll (F.fast.modify at_ f) (F.wait.take j)).length) ∧ c.fin + c.more.length ≤ 16777216
      rw [key j (by omega), List.length_modify]
      exact this
  | some i =>
    obtain ⟨c, hc, hle, hin⟩ := Fi.rot_in h hat hr
    have hil : i < F.wait.length := (List.getElem?_eq_some_iff.1 hc).1
    have key := Fi.rot_some h hr f
    have hlen : ∀ j, j ≤ F.wait.length → (appAll F.fast ((F.wait.modify i (fun c => c.rot at_ f)).take j)).length = (appAll F.fast (F.wait.take j)).length := by
      intro j hj
      by_cases hji : j ≤ i
      · rw [Fi.rot_low f j hji]
      · obtain ⟨k, rfl⟩ : ∃ k, j = i + 1 + k := ⟨j - (i + 1), by omega⟩
        rw [key k hj, List.length_modify]
    refine ⟨?_, h.2.1, ?_⟩
    · have := key (F.wait.length - (i + 1)) (by omega)
      rw [show i + 1 + (F.wait.length - (i + 1)) = F.wait.length by omega, List.take_length, List.take_of_length_le (by rw [List.length_modify]; omega)] at this
      show F.now.modify at_ f = appAll F.fast (F.wait.modify i (fun c => c.rot at_ f))
      rw [this, ← h.1]
    · intro j d hd
      have hd1 : (F.wait.modify i (fun c => c.rot at_ f))[j]? = some d := hd
      have hjl : j < F.wait.length := by
        have := (List.getElem?_eq_some_iff.1 hd1).1
        rwa [List.length_modify] at this
      show d.fin ≤ (appAll F.fast ((F.wait.modify i (fun c => c.rot at_ f)).take j)).length ∧ (d.more = [] ∨ d.fin = (appAll F.fast ((F.wait.modify i (fun c => c.rot at_ f)).take j)).length) ∧ d.fin + d.more.length ≤ 16777216
      rw [hlen j (by omega)]
      have hd0 := List.getElem?_eq_getElem hjl
      have h3 := h.2.2 j _ hd0
      rw [List.getElem?_modify, hd0] at hd1
      by_cases e : i = j
      · have e2 : d = F.wait[j].rot at_ f := by simpa [e] using hd1.symm
        rw [e2]
        refine ⟨h3.1, ?_, ?_⟩
        · rcases h3.2.1 with q | q
          · left
            show F.wait[j].more.modify _ f = []
            rw [q]; exact modify_far (by simp)
          · exact .inr q
        · show F.wait[j].fin + (F.wait[j].more.modify _ f).length ≤ _
          rw [List.length_modify]; exact h3.2.2
      · have e2 : d = F.wait[j] := by simpa [e] using hd1.symm
        rw [e2]
        exact h3
end Go.Proofs.YtblgphfdicffcaaGreatDoor
