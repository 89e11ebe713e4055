/- Contracts and facts, several texts in one. It proves no statement. -/
import Derived.Test.YtljacdbdjacbkaaGreatDkByte
import Derived.Test.YtljacdbdjacbkaaGreatMpGq

/- Contracts: the document's Read, New. It proves no statement. -/

namespace Go.Proofs.YtljacdbdjacbkaaGreat
open Go.RowKit Go.Maps Go.WideMaps Go.Sort
set_option linter.unusedVariables false
set_option linter.unusedSimpArgs false

def newD (room : Int) : Dk := ⟨room, [], [], [], [], false, 0, false⟩
theorem newD_no (x : Int) (w : World) (h : ¬ (0 ≤ x ∧ x ≤ 16777216)) : Calls Tryz.prog 6 #[.int .i64 x] w fun e w' => e = .returned (.tuple #[.pointer none, .int .i64 2]) ∧ w' = w := by
  by_cases h1 : x < 0
  · clear h
    go_enter Tryz.func6, Tryz.ntmps6
    go_wp2
    go_ret2
    exact ⟨rfl, rfl⟩
  · have h2 : (16777216 : Int) < x := by omega
    clear h
    go_enter Tryz.func6, Tryz.ntmps6
    go_wp2
    go_ret2
    exact ⟨rfl, rfl⟩
set_option maxRecDepth 100000 in
theorem newD_yes (x : Int) (w : World) (h : 0 ≤ x ∧ x ≤ 16777216) : Calls Tryz.prog 6 #[.int .i64 x] w fun e w' => (∃ (dk : Nat) (own : DOwn), e = .returned (.tuple #[.pointer (some ⟨dk, 0, none⟩), .int .i64 0]) ∧ DiskI w' w.heap.size own dk (newD x)) ∧ Still w w' := by
  have h1 : ¬ x < 0 := by omega
  have h2 : ¬ (16777216 : Int) < x := by omega
  clear h
  go_enter Tryz.func6, Tryz.ntmps6
  go_wp2
  go_ret2
  refine ⟨⟨w.heap.size, rfl, fun b => if b = w.heap.size then some 1 else none, .slice none 0 0, [], none, 0, 0, none, 0, 0, .slice none 0 0, Blk.new _ _ _, World.ownsRow_nil _ _ _ _, ⟨rfl, fun i F h => by cases h⟩, NRow.none_, NRow.none_, World.ownsRow_nil _ _ _ _, if_pos rfl, fun b hb => by simp [Value.ownBlock] at hb, fun b hb => by simp [Value.ownBlock] at hb, fun b hb => ?_, by simp⟩, (Still.refl w).alloc (Nat.le_refl _) _⟩
  by_cases e : b = w.heap.size
  · subst e; exact ⟨Nat.le_refl _, by simp⟩
  · exact absurd (if_neg e) hb
def readD (D : Dk) (s : List UInt8) (x y : Int) : List UInt8 × Int :=
  if D.off = true then ([], 12) else match nFind D.now s with
    | none => ([], 9)
    | some f => match D.files[f]? with
      | none => ([], 9)
      | some F => if x < 0 ∨ y < 0 then ([], 2) else if (F.now.length : Int) < x ∨ (F.now.length : Int) - x < y then ([], 3) else ((F.now.drop x.toNat).take y.toNat, 0)
set_option maxRecDepth 100000 in
set_option maxHeartbeats 3200000 in
theorem read_D {w : World} {base dk k : Nat} {own : DOwn} {D : Dk} (h : DiskI w base own dk D) (hg : D.good k) (s : ByteArray) (x y : Int) (hx : x ≤ 9223372036854775807) :
    Calls Tryz.prog 39 #[.pointer (some ⟨dk, 0, none⟩), .string s, .int .i64 x, .int .i64 y] w fun e w' => (∃ (A : Option Addr) (c : Nat), e = .returned (.tuple #[.slice A (readD D s.data.toList x y).1.length c, .int .i64 (readD D s.data.toList x y).2]) ∧ w'.ownsRow w.heap.size 5 1 (.slice A (readD D s.data.toList x y).1.length c) (readD D s.data.toList x y).1.length (bytesV (readD D s.data.toList x y).1)) ∧ Still w w' := by
  have FD := Lib.hid (find_D h s)
  obtain ⟨fv, fcs, A, n, c, A2, n2, c2, wv, hc⟩ := id h
  obtain ⟨_, k1, _, _, _, _, _, c7⟩ := hc.cells
  by_cases ho : D.off = true
  · have E : readD D s.data.toList x y = ([], 12) := by unfold readD; rw [if_pos ho]
    rw [E]
    rw [ho] at c7
    clear h hc hg ho E FD
    go_enter Tryz.func39, Tryz.ntmps39
    go_wp2_with fail
    go_ret2
    exact ⟨⟨none, 0, rfl, World.ownsRow_nil _ _ _ _⟩, Still.refl _⟩
  have hf : D.off = false := by simpa using ho
  rw [hf] at c7
  by_cases hl : dFind D.now s.data.toList < 0
  · obtain ⟨e1, e2⟩ := dFind_none hl
    have E : readD D s.data.toList x y = ([], 9) := by unfold readD; rw [if_neg ho, e1]
    rw [E]
    rw [e2] at FD
    clear h hc hg ho E e1 e2 hl hf
    go_enter Tryz.func39, Tryz.ntmps39
    go_wp2_with fail
    refine FD.out.mono ?_
    rintro e w1 ⟨rfl, rfl⟩
    go_wp2_with fail
    go_ret2
    exact ⟨⟨none, 0, rfl, World.ownsRow_nil _ _ _ _⟩, Still.refl _⟩
  obtain ⟨f, e1, e2⟩ := dFind_some hl
  obtain ⟨F, hF⟩ := hg.file e1
  rw [e2] at FD
  have q0 : ¬ ((f : Int) < 0) := by omega
  have E0 : readD D s.data.toList x y = if x < 0 ∨ y < 0 then ([], 2) else if (F.now.length : Int) < x ∨ (F.now.length : Int) - x < y then ([], 3) else ((F.now.drop x.toNat).take y.toNat, 0) := by unfold readD; rw [if_neg ho, e1]; simp only [hF]
  have hfl := (List.getElem?_eq_some_iff.1 hF).1
  obtain ⟨g, cap, hfv, g1, g2, g3, cs, hcl, ⟨Af, nf, cf, Ag, ng, cg, Ah, nh, ch, ccs, rfl, r1, r2, r3, r4, r5, r6⟩, hrg⟩ := hc.file hF
  have y1 := hrg 1 _ rfl
  rw [hfv] at k1
  have HMO := Lib.hid (hg.most hF)
  have q1 : (f : Int) < (D.files.length : Int) := by omega
  obtain ⟨fl, hfl2⟩ : ∃ fl, fl = D.files.length := ⟨_, rfl⟩
  rw [← hfl2] at k1 g1 q1
  rw [r2.len] at E0
  have hng : ng ≤ 33554432 := by have := HMO.out; have := r2.len; omega
  have f1 := r2.fit
  have f2 := r2.cap
  have f3 := r2.nil
  have R2 := Lib.hid r2
  clear h hc hg ho hf hl e1 e2 hF hfl hfv hrg r1 r2 r3 r4 r5 r6 hcl hfl2
  by_cases hneg : x < 0 ∨ y < 0
  · have E : readD D s.data.toList x y = ([], 2) := by rw [E0, if_pos hneg]
    rw [E]
    clear E E0
    by_cases hx0 : x < 0
    · clear hneg
      go_enter Tryz.func39, Tryz.ntmps39
      go_wp2_with fail
      refine FD.out.mono ?_
      rintro e w1 ⟨rfl, rfl⟩
      go_wp2_with fail
      go_ret2
      exact ⟨⟨none, 0, rfl, World.ownsRow_nil _ _ _ _⟩, Still.refl _⟩
    · have hy0 : y < 0 := by omega
      clear hneg
      go_enter Tryz.func39, Tryz.ntmps39
      go_wp2_with fail
      refine FD.out.mono ?_
      rintro e w1 ⟨rfl, rfl⟩
      go_wp2_with fail
      go_ret2
      exact ⟨⟨none, 0, rfl, World.ownsRow_nil _ _ _ _⟩, Still.refl _⟩
  have hx0 : ¬ x < 0 := fun h => hneg (.inl h)
  have hy0 : ¬ y < 0 := fun h => hneg (.inr h)
  by_cases hsh : (ng : Int) < x ∨ (ng : Int) - x < y
  · have E : readD D s.data.toList x y = ([], 3) := by rw [E0, if_neg hneg, if_pos hsh]
    rw [E]
    clear E E0 hneg
    by_cases hx1 : (ng : Int) < x
    · clear hsh
      go_enter Tryz.func39, Tryz.ntmps39
      go_wp2_with fail
      refine FD.out.mono ?_
      rintro e w1 ⟨rfl, rfl⟩
      go_wp2_with fail
      go_ret2
      exact ⟨⟨none, 0, rfl, World.ownsRow_nil _ _ _ _⟩, Still.refl _⟩
    · have hy1 : (ng : Int) - x < y := by omega
      clear hsh
      go_enter Tryz.func39, Tryz.ntmps39
      go_wp2_with fail
      refine FD.out.mono ?_
      rintro e w1 ⟨rfl, rfl⟩
      go_wp2_with fail
      go_ret2
      exact ⟨⟨none, 0, rfl, World.ownsRow_nil _ _ _ _⟩, Still.refl _⟩
  obtain ⟨px, rfl⟩ := Int.eq_ofNat_of_zero_le (show 0 ≤ x by omega)
  obtain ⟨py, rfl⟩ := Int.eq_ofNat_of_zero_le (show 0 ≤ y by omega)
  have E : readD D s.data.toList px py = ((F.now.drop px).take py, 0) := by rw [E0, if_neg hneg, if_neg hsh]; rfl
  rw [E]
  have hxy : px + py ≤ ng := by omega
  have hlenR : ((F.now.drop px).take py).length = py := by
    have := R2.out.len
    rw [List.length_take, List.length_drop]
    omega
  rw [hlenR]
  have h1 : ¬ (px : Int) < 0 := by omega
  have h2 : ¬ (py : Int) < 0 := by omega
  have h3 : ¬ ((ng : Int) - px < (py : Int)) := by omega
  have h5 : ¬ ((ng : Int) < (px : Int)) := by omega
  have h4 : py ≤ ng := by omega
  have hxc : (px : Int) ≤ cg := by omega
  have hlen : F.now.length = ng := R2.out.len
  obtain ⟨l, hl⟩ : ∃ l, l = F.now := ⟨_, rfl⟩
  rw [← hl] at R2 hlen ⊢
  clear E E0 hneg hsh hl HMO hx0 hy0
  by_cases hcx : px < cg
  · rcases Ag with _ | ad
    · have := (f3 rfl).2; omega
    have CL := Lib.hid (copy_any (some (ad.add px)) py (cg - px) _ w w.heap.size (((R2.out.reads).dropk (k := px) (by omega)).takek (k := py) (by omega)) (by omega) (fun e => by cases e))
    clear f3 hlenR
    go_enter Tryz.func39, Tryz.ntmps39
    go_wp2_with fail
    refine FD.out.mono ?_
    rintro e w1 ⟨rfl, rfl⟩
    go_wp2_with fail
    refine CL.out.mono ?_
    rintro e w3 ⟨⟨v, rfl, o3⟩, s3⟩
    have O3 := Lib.hid o3
    have S3 := Lib.hid s3
    obtain ⟨Av, cv, rfl⟩ := own_formN o3
    clear o3 s3 CL
    go_wp2_with fail
    go_ret2
    exact ⟨⟨_, _, rfl, O3.out⟩, S3.out⟩
  · obtain rfl : ng = cg := by omega
    obtain rfl : px = ng := by omega
    obtain rfl : py = 0 := by omega
    rw [List.take_zero]
    have CL := Lib.hid (copy_any Ag 0 0 [] w w.heap.size ⟨rfl, fun h => by omega⟩ (by omega) (fun _ => ⟨rfl, rfl⟩))
    clear hcx hlenR
    go_enter Tryz.func39, Tryz.ntmps39
    go_wp2_with fail
    refine FD.out.mono ?_
    rintro e w1 ⟨rfl, rfl⟩
    go_wp2_with fail
    refine CL.out.mono ?_
    rintro e w3 ⟨⟨v, rfl, o3⟩, s3⟩
    have O3 := Lib.hid o3
    have S3 := Lib.hid s3
    obtain ⟨Av, cv, rfl⟩ := own_formN o3
    clear o3 s3 CL
    go_wp2_with fail
    go_ret2
    exact ⟨⟨_, _, rfl, O3.out⟩, S3.out⟩
end Go.Proofs.YtljacdbdjacbkaaGreat

/- What a spoilt byte does to a file: the mathematics. It proves no statement. -/

namespace Go.Proofs.YtljacdbdjacbkaaGreat
open Go.RowKit Go.Maps Go.WideMaps Go.Sort
set_option linter.unusedVariables false
set_option linter.unusedSimpArgs false

section
variable {f : UInt8 → UInt8}
theorem modify_left {l m : List UInt8} {i : Nat} (h : i < l.length) : (l ++ m).modify i f = l.modify i f ++ m := by
  apply List.ext_getElem?
  intro j
  rw [List.getElem?_modify]
  by_cases hj : j < l.length
  · rw [List.getElem?_append_left hj, List.getElem?_append_left (by rw [List.length_modify]; exact hj), List.getElem?_modify]
  · rw [List.getElem?_append_right (by omega), List.getElem?_append_right (by rw [List.length_modify]; omega), List.length_modify]
    have : i ≠ j := by omega
    simp [this]
theorem modify_right {l m : List UInt8} {i : Nat} (h : l.length ≤ i) : (l ++ m).modify i f = l ++ m.modify (i - l.length) f := by
  apply List.ext_getElem?
  intro j
  rw [List.getElem?_modify]
  by_cases hj : j < l.length
  · rw [List.getElem?_append_left hj, List.getElem?_append_left hj]
    have : i ≠ j := by omega
    simp [this]
  · rw [List.getElem?_append_right (by omega), List.getElem?_append_right (by omega), List.getElem?_modify]
    by_cases e : i = j
    · simp [e]
    · have : i - l.length ≠ j - l.length := by omega
      simp [e, this]
theorem modify_far {α : Type} {g : α → α} {l : List α} {i : Nat} (h : l.length ≤ i) : l.modify i g = l := by
  apply List.ext_getElem?
  intro j
  rw [List.getElem?_modify]
  by_cases e : i = j
  · rw [List.getElem?_eq_none (by omega)]; rfl
  · simp [e]
/-- The byte's bytes behind it. -/
theorem app_over {b : List UInt8} {c : Ch} {at_ : Nat} (h : at_ < c.fin) (hf : c.fin ≤ b.length) : (b.modify at_ f).take c.fin ++ c.more = (b.take c.fin ++ c.more).modify at_ f := by
  rw [List.take_modify, modify_left (by rw [List.length_take]; omega)]
end
/-- Which change's byte it is: the last one that ends ahead of it; none: what was fast. -/
def Rots (F : Fi) (at_ : Nat) : Option Nat → Prop
  | none => ∀ (j : Nat) (c : Ch), F.wait[j]? = some c → at_ < c.fin
  | some i => (∃ c : Ch, F.wait[i]? = some c ∧ c.fin ≤ at_) ∧ ∀ (j : Nat) (c : Ch), i < j → F.wait[j]? = some c → at_ < c.fin
def Ch.rot (c : Ch) (at_ : Nat) (f : UInt8 → UInt8) : Ch := ⟨c.fin, c.more.modify (at_ - c.fin) f⟩
def Fi.rotAt (F : Fi) (at_ : Nat) (f : UInt8 → UInt8) : Option Nat → Fi
  | none => ⟨F.now.modify at_ f, F.fast.modify at_ f, F.wait⟩
  | some i => ⟨F.now.modify at_ f, F.fast, F.wait.modify i (fun c => c.rot at_ f)⟩
theorem Fi.rot_none {F : Fi} (h : F.ok) {at_ : Nat} (hr : Rots F at_ none) (f : UInt8 → UInt8) (k : Nat) (hk : k ≤ F.wait.length) : appAll (F.fast.modify at_ f) (F.wait.take k) = (appAll F.fast (F.wait.take k)).modify at_ f := by
  induction k with
  | zero => rfl
  | succ k ih =>
    have hc := List.getElem?_eq_getElem (show k < F.wait.length by omega)
    rw [appAll_step _ _ k _ hc, appAll_step _ _ k _ hc, ih (by omega)]
    exact app_over (hr k _ hc) (h.2.2 k _ hc).1
theorem Fi.rot_low {F : Fi} {at_ i : Nat} (f : UInt8 → UInt8) (k : Nat) (hk : k ≤ i) : (F.wait.modify i (fun c => c.rot at_ f)).take k = F.wait.take k := by
  rw [List.take_modify]
  exact modify_far (by rw [List.length_take]; omega)
theorem Fi.rot_some {F : Fi} (h : F.ok) {at_ i : Nat} (hr : Rots F at_ (some i)) (f : UInt8 → UInt8) (k : Nat) (hk : i + 1 + k ≤ F.wait.length) : appAll F.fast ((F.wait.modify i (fun c => c.rot at_ f)).take (i + 1 + k)) = (appAll F.fast (F.wait.take (i + 1 + k))).modify at_ f := by
  induction k with
  | zero =>
    obtain ⟨⟨c, hc, hle⟩, _⟩ := hr
    have hc2 : (F.wait.modify i (fun c => c.rot at_ f))[i]? = some (c.rot at_ f) := by rw [List.getElem?_modify, hc]; simp
    rw [Nat.add_zero, appAll_step _ _ i _ hc2, appAll_step _ _ i _ hc, Fi.rot_low f i (Nat.le_refl _)]
    have hl : ((appAll F.fast (F.wait.take i)).take c.fin).length = c.fin := by rw [List.length_take]; have := (h.2.2 i c hc).1; omega
    rw [modify_right (by omega), hl]
    rfl
  | succ k ih =>
    have hc := List.getElem?_eq_getElem (show i + 1 + k < F.wait.length by omega)
    have hc2 : (F.wait.modify i (fun c => c.rot at_ f))[i + 1 + k]? = some F.wait[i + 1 + k] := by
      rw [List.getElem?_modify, hc]
      have : i ≠ i + 1 + k := by omega
      simp [this]
    rw [← Nat.add_assoc, appAll_step _ _ (i + 1 + k) _ hc2, appAll_step _ _ (i + 1 + k) _ hc, ih (by omega)]
    exact app_over (hr.2 _ _ (by omega) hc) (h.2.2 _ _ hc).1
theorem Fi.rot_in {F : Fi} (h : F.ok) {at_ i : Nat} (hat : at_ < F.now.length) (hr : Rots F at_ (some i)) : ∃ c, F.wait[i]? = some c ∧ c.fin ≤ at_ ∧ at_ - c.fin < c.more.length := by
  obtain ⟨⟨c, hc, hle⟩, hj⟩ := hr
  refine ⟨c, hc, hle, ?_⟩
  have hl : (appAll F.fast (F.wait.take (i + 1))).length ≤ c.fin + c.more.length := by rw [appAll_step _ _ i _ hc, List.length_append, List.length_take]; omega
  have : at_ < (appAll F.fast (F.wait.take (i + 1))).length := by
    by_cases hi : i + 1 < F.wait.length
    · have hd := List.getElem?_eq_getElem hi
      have h1 := hj (i + 1) _ (by omega) hd
      have h2 := (h.2.2 _ _ hd).1
      omega
    · rw [List.take_of_length_le (by omega), ← h.1]
      exact hat
  omega
theorem Fi.rot_fast {F : Fi} (h : F.ok) {at_ : Nat} (hat : at_ < F.now.length) (hr : Rots F at_ none) : at_ < F.fast.length := by
  by_cases hi : 0 < F.wait.length
  · have hd := List.getElem?_eq_getElem hi
    have h1 := hr 0 _ hd
    have h2 := (h.2.2 _ _ hd).1
    rw [List.take_zero, appAll_nil] at h2
    omega
  · have : F.wait = [] := List.eq_nil_of_length_eq_zero (by omega)
    have h1 := h.1
    rw [this, appAll_nil] at h1
    rw [← h1]
    exact hat
theorem Fi.rot_ok {F : Fi} (h : F.ok) {at_ : Nat} (hat : at_ < F.now.length) (f : UInt8 → UInt8) {o : Option Nat} (hr : Rots F at_ o) : (F.rotAt at_ f o).ok := by
  cases o with
  | none =>
    have key := Fi.rot_none h hr f
    refine ⟨?_, ?_, ?_⟩
    · have := key F.wait.length (Nat.le_refl _)
      rw [List.take_length] at this
      show F.now.modify at_ f = appAll (F.fast.modify at_ f) F.wait
      rw [this, ← h.1]
    · show (F.fast.modify at_ f).length ≤ _
      rw [List.length_modify]; exact h.2.1
    · intro j c hc
      have hjl : j < F.wait.length := (List.getElem?_eq_some_iff.1 hc).1
      have := h.2.2 j c hc
      show c.fin ≤ (appAll (F.fast.modify at_ f) (F.wait.take j)).length ∧ (c.more = [] ∨ c.fin = (appAll (F.fast.modify at_ f) (F.wait.take j)).length) ∧ c.fin + c.more.length ≤ 16777216
      rw [key j (by omega), List.length_modify]
      exact this
  | some i =>
    obtain ⟨c, hc, hle, hin⟩ := Fi.rot_in h hat hr
    have hil : i < F.wait.length := (List.getElem?_eq_some_iff.1 hc).1
    have key := Fi.rot_some h hr f
    have hlen : ∀ j, j ≤ F.wait.length → (appAll F.fast ((F.wait.modify i (fun c => c.rot at_ f)).take j)).length = (appAll F.fast (F.wait.take j)).length := by
      intro j hj
      by_cases hji : j ≤ i
      · rw [Fi.rot_low f j hji]
      · obtain ⟨k, rfl⟩ : ∃ k, j = i + 1 + k := ⟨j - (i + 1), by omega⟩
        rw [key k hj, List.length_modify]
    refine ⟨?_, h.2.1, ?_⟩
    · have := key (F.wait.length - (i + 1)) (by omega)
      rw [show i + 1 + (F.wait.length - (i + 1)) = F.wait.length by omega, List.take_length, List.take_of_length_le (by rw [List.length_modify]; omega)] at this
      show F.now.modify at_ f = appAll F.fast (F.wait.modify i (fun c => c.rot at_ f))
      rw [this, ← h.1]
    · intro j d hd
      have hd1 : (F.wait.modify i (fun c => c.rot at_ f))[j]? = some d := hd
      have hjl : j < F.wait.length := by
        have := (List.getElem?_eq_some_iff.1 hd1).1
        rwa [List.length_modify] at this
      show d.fin ≤ (appAll F.fast ((F.wait.modify i (fun c => c.rot at_ f)).take j)).length ∧ (d.more = [] ∨ d.fin = (appAll F.fast ((F.wait.modify i (fun c => c.rot at_ f)).take j)).length) ∧ d.fin + d.more.length ≤ 16777216
      rw [hlen j (by omega)]
      have hd0 := List.getElem?_eq_getElem hjl
      have h3 := h.2.2 j _ hd0
      rw [List.getElem?_modify, hd0] at hd1
      by_cases e : i = j
      · have e2 : d = F.wait[j].rot at_ f := by simpa [e] using hd1.symm
        rw [e2]
        refine ⟨h3.1, ?_, ?_⟩
        · rcases h3.2.1 with q | q
          · left
            show F.wait[j].more.modify _ f = []
            rw [q]; exact modify_far (by simp)
          · exact .inr q
        · show F.wait[j].fin + (F.wait[j].more.modify _ f).length ≤ _
          rw [List.length_modify]; exact h3.2.2
      · have e2 : d = F.wait[j] := by simpa [e] using hd1.symm
        rw [e2]
        exact h3
end Go.Proofs.YtljacdbdjacbkaaGreat
