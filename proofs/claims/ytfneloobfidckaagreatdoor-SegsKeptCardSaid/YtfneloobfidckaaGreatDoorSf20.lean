/- Contracts and facts, several texts in one. It proves no statement. -/
import Derived.Test.YtfneloobfidckaaGreatDoorSf19
import Derived.Test.YtfneloobfidckaaGreatDoorSf00
import Derived.Lib.ItoaNum
import Derived.Lib.AtoiAll
import Derived.Lib.RepeatB

/- A medium's calls on its state: Rot, Crash, Size, Used, List. It proves no statement. -/


namespace Go.Proofs.YtfneloobfidckaaGreatDoor
open Go.RowKit Go.Maps Go.WideMaps Go.Sort
set_option linter.unusedVariables false
set_option linter.unusedSimpArgs false

/-- One file turned. -/
theorem MedI.file {w w' : World} {base g gf : Nat} {own : Own} {M : Me} {F F' : Fi} (h : MedI w base own g M) (hF : M.fs gf = some F) (hok : F'.ok) (hw : F'.wait.length ≤ 1000000) (hI : FileI w' base own gf F') (c : Chg w w' (fun b => ∃ k, own b = some (gf, k))) : Left w w' base g own { M with fs := upd M.fs gf F' } := by
  have hgg : gf ≠ g := fun e => by rw [e, h.nog] at hF; cases hF
  refine ⟨c.mono (fun b _ hb => by obtain ⟨k, hk⟩ := hb; rw [hk]; simp), own, fun _ _ => rfl, ⟨?_, ?_, fun b hb => ⟨(h.dom b hb).1, Nat.lt_of_lt_of_le (h.dom b hb).2 c.size⟩, Nat.le_trans h.low c.size, ?_⟩⟩
  · exact (h.dir.keep c (fun b k hb e => by obtain ⟨k2, hk2⟩ := hb; rw [hk2] at e; simp at e; exact hgg e.1)).cong rfl rfl rfl rfl rfl rfl (Nat.le_refl _)
  · exact h.files.turn c gf (fun b x k hb hx _ e => by obtain ⟨k2, hk2⟩ := hb; rw [hk2] at e; simp at e; exact hx e.1.symm) (fun _ _ => rfl) F' ⟨(h.files gf F hF).1, hok, hw, hI⟩
  · show upd M.fs gf F' g = none
    rw [upd_other _ _ (fun e => hgg e.symm)]
    exact h.nog
def Me.rotted (M : Me) (s : ByteArray) (x : Int) (m : Nat) (o : Option Nat) : Bool × Me := match nFind M.now s.data.toList with
  | none => (false, M)
  | some gf => match M.fs gf with
    | none => (false, M)
    | some F => if x < 0 ∨ (F.now.length : Int) ≤ x then (false, M) else (true, { M with fs := upd M.fs gf (F.rotAt x.toNat (fun b => b ^^^ UInt8.ofNat m) o) })
/-- Which change's byte it is that is spoilt. -/
def Me.Rotting (M : Me) (s : ByteArray) (x : Int) (o : Option Nat) : Prop := ∀ gf F, nFind M.now s.data.toList = some gf → M.fs gf = some F → 0 ≤ x → x < F.now.length → Rots F x.toNat o
theorem rotAt_wait (F : Fi) (i : Nat) (f : UInt8 → UInt8) (o : Option Nat) : (F.rotAt i f o).wait.length = F.wait.length := by
  cases o with
  | none => rfl
  | some j => exact List.length_modify ..
theorem rotAt_now (F : Fi) (i : Nat) (f : UInt8 → UInt8) (o : Option Nat) : (F.rotAt i f o).now = F.now.modify i f := by cases o <;> rfl
theorem crash_M {w : World} {base g : Nat} {B : Nat → Prop} {own : Own} {M : Me} {A : Option Addr} {n c : Nat} {zs : List Int} (h : MedI w base own g M) (hok : M.ok) (hcnt : M.cnt ≤ 1000000) (hr : ReadsI w B A n zs) (hBo : ∀ b, B b → own b = none ∧ b < w.heap.size) (hc : n ≤ c) (hm : c ≤ 9223372036854775807) :
    Calls Tryz.prog 32 #[.pointer (some ⟨g, 0, none⟩), .slice A n c] w fun e w' => e = .returned (.tuple #[]) ∧ Left w w' base g own (M.crash zs) := mcrash_I h hok hcnt hr hBo hc hm
theorem used_M {w : World} {base g : Nat} {own : Own} {M : Me} (h : MedI w base own g M) (hok : M.ok) (hcnt : M.cnt ≤ 1000000) :
    Calls Tryz.prog 47 #[.pointer (some ⟨g, 0, none⟩)] w fun e w' => e = .returned (.int .i64 (if M.off = true then 0 else M.used : Nat)) ∧ Still w w' := by
  have hu := used_most h hok hcnt
  have hsz := sized_I h hok
  obtain ⟨bn, bf, wv, ns, nn, nf, d1, d2, _⟩ := h.dir
  by_cases c1 : M.off = true
  · rw [c1] at d1
    rw [if_pos c1]
    exact (used_err _ w 12 (by decide) (works_off d1)).mono fun e w' hh => ⟨hh.1, hh.2 ▸ Still.refl w⟩
  · have hoff : M.off = false := by simpa using c1
    rw [hoff] at d1
    rw [if_neg c1]
    exact used_yes d1 nn _ d2 M.sz hsz hu
def Me.bytes (M : Me) (s : ByteArray) : List UInt8 × Int := match M.find s with
  | .inl E => ([], E)
  | .inr (gf, F) => (F.now, 0)
theorem all_M {w : World} {base g : Nat} {own : Own} {M : Me} (s : ByteArray) (h : MedI w base own g M) (hok : M.ok) (hs : s.size ≤ maxLen) :
    Calls Tryz.prog 115 #[.pointer (some ⟨g, 0, none⟩), .string s] w fun e w' => (∃ v, e = .returned (.tuple #[v, .int .i64 (M.bytes s).2]) ∧ w'.ownsRow w.heap.size 5 1 v (M.bytes s).1.length (bytesV (M.bytes s).1)) ∧ Still w w' := by
  rcases find_M s h hok hs with ⟨E, hE, hEE, hf⟩ | ⟨gf, F, hE, hoff, hlk, hF, hf⟩
  · have e : M.bytes s = ([], E) := by unfold Me.bytes; rw [hE]
    rw [e]
    exact (all_err _ s w E (err_ne hEE) hf).mono fun e w' hh => ⟨⟨_, hh.1, World.ownsRow_nil _ _ _ _⟩, hh.2 ▸ Still.refl w⟩
  · have e : M.bytes s = (F.now, 0) := by unfold Me.bytes; rw [hE]
    rw [e]
    exact all_I s gf F h hoff hs hlk hF
end Go.Proofs.YtfneloobfidckaaGreatDoor

/- A medium's List; what stays true of a medium from call to call. It proves no statement. -/

namespace Go.Proofs.YtfneloobfidckaaGreatDoor
open Go.RowKit Go.Maps Go.WideMaps Go.Sort
set_option linter.unusedVariables false
set_option linter.unusedSimpArgs false

/-- All names. -/
def Me.names (M : Me) : NT := if M.off = true then [] else M.now
theorem now_length {M : Me} (hok : M.ok) : M.now.length ≤ M.cnt := by
  have := steps_length M.fast M.wait
  have := hok.len
  rw [hok.eq]
  omega
set_option maxRecDepth 100000 in
theorem list_M {w : World} {base g : Nat} {own : Own} {M : Me} (h : MedI w base own g M) (hok : M.ok) (hcnt : M.cnt ≤ 1000000) :
    Calls Tryz.prog 48 #[.pointer (some ⟨g, 0, none⟩)] w fun e w' => (∃ v, e = .returned v ∧ w'.ownsRow w.heap.size 9 1 v M.names.length (namesV M.names)) ∧ Still w w' := by
  obtain ⟨bn, bf, wv, ns, nn, nf, d1, d2, _⟩ := h.dir
  have hlen := now_length hok
  by_cases c1 : M.off = true
  · rw [c1] at d1
    have e : M.names = [] := if_pos c1
    rw [e]
    exact (list_err _ w 12 (by decide) (works_off d1)).mono fun e w' hh => ⟨⟨_, hh.1, World.ownsRow_nil _ _ _ _⟩, hh.2 ▸ Still.refl w⟩
  · have hoff : M.off = false := by simpa using c1
    rw [hoff] at d1
    have e : M.names = M.now := if_neg c1
    rw [e]
    have c1' : w.cell? ⟨g, 1, none⟩ = some (.map (some bn)) := Blk.cell d1 1
    have WK := Lib.hid (works_on d1)
    have SK := Lib.hid (sortedkeys_any M.now hok.rn bn nn w d2 (by omega))
    clear h hok hcnt d1 d2 c1 hoff e hlen
    go_enter Tryz.func48, Tryz.ntmps48
    go_wp2_with fail
    refine WK.out.mono ?_
    rintro e w1 ⟨rfl, rfl⟩
    go_wp2_with fail
    refine (keys_any bn w).mono ?_
    rintro e w3 ⟨rfl, rfl⟩
    go_wp2_with fail
    refine SK.out.mono ?_
    rintro e w4 ⟨⟨v, rfl, o4⟩, s4⟩
    have O4 := Lib.hid (And.intro o4 s4)
    obtain ⟨Av, cv, rfl⟩ := own_formV o4
    clear o4 s4 SK
    go_wp2_with fail
    go_ret
    exact ⟨⟨_, rfl, O4.out.1⟩, O4.out.2⟩
/-- What stays true of a medium from call to call. -/
structure Me.good (M : Me) (k : Nat) : Prop where
  ok : M.ok
  cnt : M.cnt ≤ k
  wt : ∀ gf F, M.fs gf = some F → F.wait.length ≤ M.cnt
theorem Me.good.mono {M : Me} {k k' : Nat} (h : M.good k) (hk : k ≤ k') : M.good k' := ⟨h.ok, Nat.le_trans h.cnt hk, h.wt⟩
theorem Me.dead_good {M : Me} {k : Nat} (h : M.good k) : M.dead.good (k + 1) := ⟨Me.dead_ok h.ok, by have := h.cnt; show M.cnt ≤ k + 1; omega, h.wt⟩
theorem Me.new_good {room : Int} (h : 0 ≤ room ∧ room ≤ 16777216) : (Me.new room).good 0 := ⟨Me.new_ok h, Nat.le_refl _, fun gf F hF => by cases hF⟩
theorem Me.link_good {M : Me} {k : Nat} (h : M.good k) (h0 : M.left ≠ 0) (x : ByteArray × ByteArray × Int) (fs : Nat → Option Fi) (hfs : ∀ gf F, M.fs gf = some F → ∃ G, fs gf = some G) (hx : 0 ≤ x.2.2 → ∃ F, fs x.2.2.toNat = some F) (hw : ∀ gf F, fs gf = some F → F.wait.length ≤ M.cnt + 1) : (M.link x fs).good (k + 1) :=
  ⟨Me.link_ok h.ok h0 x fs hfs hx, by have := h.cnt; show M.cnt + 1 ≤ k + 1; omega, fun gf F hF => hw gf F hF⟩
theorem Me.wrote_good {M : Me} {k : Nat} (h : M.good k) (h0 : M.left ≠ 0) (gf : Nat) (F : Fi) (hw : F.wait.length ≤ M.cnt + 1) : (M.wrote gf F).good (k + 1) := by
  refine ⟨Me.wrote_ok h.ok h0 gf F, by have := h.cnt; show M.cnt + 1 ≤ k + 1; omega, fun x G hG => ?_⟩
  have hG' : upd M.fs gf F x = some G := hG
  show G.wait.length ≤ M.cnt + 1
  by_cases e : x = gf
  · subst e
    rw [upd_same] at hG'
    injection hG' with hG'
    subst hG'
    exact hw
  · rw [upd_other _ _ e] at hG'
    have := h.wt x G hG'
    omega
theorem opCreate_good {M : Me} {k : Nat} (h : M.good k) (s : ByteArray) (gf : Nat) : (opCreate M s gf).2.good (k + 1) := by
  unfold opCreate
  split
  · exact h.mono (by omega)
  · split
    · exact h.mono (by omega)
    · split
      · exact h.mono (by omega)
      · split
        · exact h.mono (by omega)
        · split
          · exact Me.dead_good h
          · rename_i h0
            refine Me.link_good h h0 _ _ (fun x F hF => upd_some hF) (fun _ => ⟨_, by simp only [Int.toNat_natCast]; exact upd_same _ _ _⟩) (fun x F hF => ?_)
            by_cases e : x = gf
            · subst e
              rw [upd_same] at hF
              injection hF with hF
              subst hF
              exact Nat.zero_le _
            · rw [upd_other _ _ e] at hF
              have := h.wt x F hF
              omega
theorem Me.find_fs {M : Me} {s : ByteArray} {gf : Nat} {F : Fi} (h : M.find s = .inr (gf, F)) : M.fs gf = some F ∧ nFind M.now s.data.toList = some gf ∧ M.off = false := by
  unfold Me.find at h
  split at h
  · cases h
  · rename_i h0
    split at h
    · cases h
    · rename_i gf2 h1
      split at h
      · cases h
      · rename_i F2 h2
        injection h with h
        injection h with h3 h4
        subst h3 h4
        exact ⟨h2, h1, by simpa using h0⟩
theorem opName_good {M : Me} {k : Nat} (h : M.good k) (x : ByteArray × ByteArray × Int) (hx : 0 ≤ x.2.2 → ∃ F, M.fs x.2.2.toNat = some F) : (opName M x).2.good (k + 1) := by
  unfold opName
  split
  · exact Me.dead_good h
  · rename_i h0
    exact Me.link_good h h0 _ _ (fun x F hF => ⟨F, hF⟩) hx (fun gf F hF => by have := h.wt gf F hF; omega)
theorem opRename_good {M : Me} {k : Nat} (h : M.good k) (s t : ByteArray) : (opRename M s t).2.good (k + 1) := by
  unfold opRename
  split
  · exact h.mono (by omega)
  · rename_i gf F hf
    split
    · exact h.mono (by omega)
    · exact opName_good h _ (fun _ => ⟨F, by simp only [Int.toNat_natCast]; exact (Me.find_fs hf).1⟩)
theorem opRemove_good {M : Me} {k : Nat} (h : M.good k) (s : ByteArray) : (opRemove M s).2.good (k + 1) := by
  unfold opRemove
  split
  · exact h.mono (by omega)
  · exact opName_good h _ (fun h0 => absurd h0 (by show ¬ (0 : Int) ≤ -1; decide))
theorem opAppend_good {M : Me} {k : Nat} (h : M.good k) (s : ByteArray) (x : List UInt8) : (opAppend M s x).2.good (k + 1) := by
  unfold opAppend
  split
  · exact h.mono (by omega)
  · rename_i gf F hf
    split
    · exact h.mono (by omega)
    · split
      · exact Me.dead_good h
      · rename_i h0
        have := h.wt gf F (Me.find_fs hf).1
        exact Me.wrote_good h h0 gf _ (by show (F.wait ++ [_]).length ≤ _; rw [List.length_append]; simp; omega)
theorem opTruncate_good {M : Me} {k : Nat} (h : M.good k) (s : ByteArray) (n : Int) : (opTruncate M s n).2.good (k + 1) := by
  unfold opTruncate
  split
  · exact h.mono (by omega)
  · rename_i gf F hf
    split
    · exact h.mono (by omega)
    · split
      · exact Me.dead_good h
      · rename_i h0
        have := h.wt gf F (Me.find_fs hf).1
        exact Me.wrote_good h h0 gf _ (by show (F.wait ++ [_]).length ≤ _; rw [List.length_append]; simp; omega)
theorem opSync_good {M : Me} {k : Nat} (h : M.good k) (s : ByteArray) : (opSync M s).2.good (k + 1) := by
  unfold opSync
  split
  · exact h.mono (by omega)
  · rename_i gf F hf
    split
    · exact Me.dead_good h
    · rename_i h0
      exact Me.wrote_good h h0 gf _ (Nat.zero_le _)
theorem opSyncDir_good {M : Me} {k : Nat} (h : M.good k) : (opSyncDir M).2.good (k + 1) := by
  unfold opSyncDir
  split
  · exact h.mono (by omega)
  · split
    · exact Me.dead_good h
    · rename_i h0
      exact ⟨Me.syncedDir_ok h.ok h0, by have := h.cnt; show M.cnt ≤ k + 1; omega, h.wt⟩
theorem opArm_good {M : Me} {k : Nat} (h : M.good k) (n : Int) (hn : n ≤ 9223372036854775807) : (opArm M n).2.good (k + 1) := by
  unfold opArm
  split
  · exact h.mono (by omega)
  · split
    · exact h.mono (by omega)
    · exact ⟨⟨h.ok.rn, h.ok.rf, h.ok.ff, h.ok.fw, h.ok.eq, h.ok.room, ⟨by show -1 ≤ n; omega, hn⟩, h.ok.len⟩, by have := h.cnt; show M.cnt ≤ k + 1; omega, h.wt⟩
theorem opSetRoom_good {M : Me} {k : Nat} (h : M.good k) (n : Int) : (opSetRoom M n).2.good (k + 1) := by
  unfold opSetRoom
  split
  · exact h.mono (by omega)
  · split
    · exact h.mono (by omega)
    · rename_i h0
      have hr : 0 ≤ n ∧ n ≤ 16777216 := by unfold roomOK at h0; simpa using h0
      exact ⟨⟨h.ok.rn, h.ok.rf, h.ok.ff, h.ok.fw, h.ok.eq, hr, h.ok.left, h.ok.len⟩, by have := h.cnt; show M.cnt ≤ k + 1; omega, h.wt⟩
theorem rotted_good {M : Me} {k : Nat} (h : M.good k) (s : ByteArray) (x : Int) (m : Nat) (o : Option Nat) : (M.rotted s x m o).2.good (k + 1) := by
  unfold Me.rotted
  split
  · exact h.mono (by omega)
  · rename_i gf _
    split
    · exact h.mono (by omega)
    · rename_i F hF
      split
      · exact h.mono (by omega)
      · refine ⟨⟨h.ok.rn, h.ok.rf, fun p hp => ?_, fun y hy h1 => ?_, h.ok.eq, h.ok.room, h.ok.left, h.ok.len⟩, by have := h.cnt; show M.cnt ≤ k + 1; omega, fun y G hG => ?_⟩
        · obtain ⟨G, hG⟩ := h.ok.ff p hp; exact upd_some hG
        · obtain ⟨G, hG⟩ := h.ok.fw y hy h1; exact upd_some hG
        · have hG' : upd M.fs gf _ y = some G := hG
          by_cases e : y = gf
          · subst e
            rw [upd_same] at hG'
            injection hG' with hG'
            subst hG'
            rw [rotAt_wait]
            exact h.wt y F hF
          · rw [upd_other _ _ e] at hG'
            exact h.wt y G hG'
theorem crSt_wait {s : (Nat → Option Fi) × List Int} {f x : Nat} {G : Fi} (h : (crSt s f).1 x = some G) : (∃ F, s.1 x = some F ∧ G.wait.length ≤ F.wait.length) := by
  cases hF : s.1 f with
  | none =>
    have e : (crSt s f).1 = s.1 := by unfold crSt; rw [hF]
    rw [e] at h
    exact ⟨G, h, Nat.le_refl _⟩
  | some F =>
    have e : (crSt s f).1 = upd s.1 f (F.crash s.2) := by unfold crSt; rw [hF]
    rw [e] at h
    by_cases e2 : x = f
    · subst e2
      rw [upd_same] at h
      injection h with h
      subst h
      exact ⟨F, hF, Nat.zero_le _⟩
    · rw [upd_other _ _ e2] at h
      exact ⟨G, h, Nat.le_refl _⟩
theorem crFold_wait {x : Nat} (L : List Nat) : ∀ (s : (Nat → Option Fi) × List Int) {G : Fi}, (L.foldl crSt s).1 x = some G → ∃ F, s.1 x = some F ∧ G.wait.length ≤ F.wait.length := by
  induction L with
  | nil => exact fun s G h => ⟨G, h, Nat.le_refl _⟩
  | cons f L ih =>
    intro s G h
    obtain ⟨F, h1, h2⟩ := ih (crSt s f) h
    obtain ⟨E, h3, h4⟩ := crSt_wait h1
    exact ⟨E, h3, by omega⟩
theorem crash_good {M : Me} {k : Nat} (h : M.good k) (zs : List Int) : (M.crash zs).good (k + 1) :=
  ⟨Me.crash_ok h.ok zs, by have := h.cnt; show M.cnt ≤ k + 1; omega, fun gf G hG => by
    obtain ⟨F, h1, h2⟩ := crFold_wait _ _ hG
    exact Nat.le_trans h2 (h.wt gf F h1)⟩
end Go.Proofs.YtfneloobfidckaaGreatDoor

/- Segments' names: eight digits, there and back. Mathematics; it proves no statement. -/




namespace Go.Proofs.YtfneloobfidckaaGreatDoor
set_option linter.unusedVariables false
set_option linter.unusedSimpArgs false

/-- A number's last k digits. -/
def dig : Nat → Nat → List UInt8
  | 0, _ => []
  | k + 1, n => dig k (n / 10) ++ [UInt8.ofNat (48 + n % 10)]
theorem dig_length : ∀ k n, (dig k n).length = k
  | 0, _ => rfl
  | k + 1, n => by
    show (dig k (n / 10) ++ [_]).length = k + 1
    rw [List.length_append, dig_length k]
    rfl
theorem dig_front : ∀ k n, dig (k + 1) n = UInt8.ofNat (48 + n / 10 ^ k % 10) :: dig k n
  | 0, n => by simp [dig]
  | k + 1, n => by
    show dig (k + 1) (n / 10) ++ [UInt8.ofNat (48 + n % 10)] = _
    rw [dig_front k (n / 10), Nat.div_div_eq_div_mul, ← Nat.pow_succ']
    rfl
theorem dig_zero : ∀ k, dig k 0 = List.replicate k 48
  | 0 => rfl
  | k + 1 => by
    show dig k (0 / 10) ++ [UInt8.ofNat (48 + 0 % 10)] = _
    rw [Nat.zero_div, dig_zero k, List.replicate_succ']
    rfl
theorem nDigits_le : ∀ (k n : Nat), n < 10 ^ (k + 1) → Lib.nDigits n ≤ k + 1
  | 0, n, h => by rw [Lib.nDigits_small (by simpa using h)]; exact Nat.le_refl _
  | k + 1, n, h => by
    by_cases h1 : n < 10
    · rw [Lib.nDigits_small h1]; omega
    · rw [Lib.nDigits_big h1]
      have := nDigits_le k (n / 10) (by rw [Nat.pow_succ] at h; omega)
      omega
/-- A numeral, filled up with noughts. -/
theorem dig_pad : ∀ (k n : Nat), Lib.nDigits n ≤ k → List.replicate (k - (Lib.decDigits n).length) 48 ++ Lib.decDigits n = dig k n := by
  intro k
  induction k with
  | zero => intro n h; have := Lib.nDigits_pos n; omega
  | succ k ih =>
    intro n h
    show _ = dig k (n / 10) ++ [UInt8.ofNat (48 + n % 10)]
    by_cases h1 : n < 10
    · have e : Lib.decDigits n = [UInt8.ofNat (48 + n)] := by rw [Lib.decDigits, dif_pos h1]
      rw [e, Nat.div_eq_of_lt h1, dig_zero, Nat.mod_eq_of_lt h1]
      rfl
    · have e : Lib.decDigits n = Lib.decDigits (n / 10) ++ [UInt8.ofNat (48 + n % 10)] := by rw [Lib.decDigits, dif_neg h1]
      rw [Lib.nDigits_big h1] at h
      rw [e, ← ih (n / 10) (by omega), List.length_append, ← List.append_assoc]
      congr 3
      simp only [List.length_cons, List.length_nil]
      omega
theorem digit_nat (d : Nat) (h : d < 10) : (UInt8.ofNat (48 + d)).toNat = 48 + d := by
  rw [UInt8.toNat_ofNat']
  omega
/-- What digits are worth. -/
def valD (a : Nat) (l : List UInt8) : Nat := l.foldl (fun a c => a * 10 + (c.toNat - 48)) a
theorem dig_sum (a n k : Nat) : (a * 10 ^ k + n / 10 % 10 ^ k) * 10 + (48 + n % 10 - 48) = a * (10 ^ k * 10) + n % (10 ^ k * 10) := by
  rw [Nat.mul_comm (10 ^ k) 10, Nat.mod_mul, Nat.add_mul, Nat.mul_assoc, Nat.mul_comm (10 ^ k) 10, Nat.mul_comm (n / 10 % 10 ^ k) 10]
  omega
theorem valD_dig : ∀ (k n a : Nat), valD a (dig k n) = a * 10 ^ k + n % 10 ^ k
  | 0, n, a => by simp [valD, dig, Nat.mod_one]
  | k + 1, n, a => by
    show valD a (dig k (n / 10) ++ [UInt8.ofNat (48 + n % 10)]) = _
    unfold valD
    rw [List.foldl_append]
    have e := valD_dig k (n / 10) a
    unfold valD at e
    rw [e, List.foldl_cons, List.foldl_nil, digit_nat _ (by omega), Nat.pow_succ, dig_sum a n k]
theorem parse_dig : ∀ (k n a : Nat), a * 10 ^ k + 10 ^ k ≤ 1000000000000000000 → Lib.parseUint10 a (dig k n) = .ok (a * 10 ^ k + n % 10 ^ k)
  | 0, n, a, h => by simp [dig, Lib.parseUint10, Nat.mod_one]
  | k + 1, n, a, h => by
    have hp : 1 ≤ 10 ^ k := Nat.one_le_pow _ _ (by decide)
    have hd : n / 10 ^ k % 10 < 10 := Nat.mod_lt _ (by decide)
    rw [Nat.pow_succ] at h
    have h2 : (a * 10 + n / 10 ^ k % 10) * 10 ^ k + 10 ^ k ≤ 1000000000000000000 := by
      have e1 : (a * 10 + n / 10 ^ k % 10) * 10 ^ k = a * (10 ^ k * 10) + (n / 10 ^ k % 10) * 10 ^ k := by
        rw [Nat.add_mul, Nat.mul_assoc, Nat.mul_comm 10]
      have e2 : (n / 10 ^ k % 10) * 10 ^ k ≤ 9 * 10 ^ k := Nat.mul_le_mul_right _ (by omega)
      rw [e1]
      omega
    have ha : a ≤ 100000000000000000 := by
      have e3 : a * (1 * 10) ≤ a * (10 ^ k * 10) := Nat.mul_le_mul_left _ (Nat.mul_le_mul_right _ hp)
      omega
    rw [dig_front]
    unfold Lib.parseUint10
    rw [digit_nat _ hd, if_pos (by omega), if_neg (by omega), if_neg (by omega), show 48 + n / 10 ^ k % 10 - 48 = n / 10 ^ k % 10 by omega, parse_dig k n _ h2]
    congr 1
    have e1 : (a * 10 + n / 10 ^ k % 10) * 10 ^ k = a * (10 ^ k * 10) + (n / 10 ^ k % 10) * 10 ^ k := by
      rw [Nat.add_mul, Nat.mul_assoc, Nat.mul_comm 10]
    rw [e1, Nat.pow_succ, Nat.mod_mul, Nat.add_assoc, Nat.mul_comm (10 ^ k) (n / 10 ^ k % 10), Nat.add_comm (n / 10 ^ k % 10 * 10 ^ k)]
theorem atoi_dig (n : Nat) (h : n < 100000000) : Lib.atoiAll (dig 8 n) = .ok (n : Int) := by
  have hp := parse_dig 8 n 0 (by decide)
  rw [show (0 * 10 ^ 8 + n % 10 ^ 8) = n by rw [show (10 : Nat) ^ 8 = 100000000 by decide]; omega] at hp
  rw [dig_front 7] at hp ⊢
  have hd : n / 10 ^ 7 % 10 < 10 := Nat.mod_lt _ (by decide)
  have hc := digit_nat _ hd
  generalize hq : UInt8.ofNat (48 + n / 10 ^ 7 % 10) = c at hp hc
  unfold Lib.atoiAll
  dsimp only
  rw [if_neg (by omega)]
  unfold Lib.parseMag
  rw [if_neg (by simp), hp]
  dsimp only
  rw [if_neg (by omega), if_neg (by omega), if_neg (by omega)]
/-- A segment's name. -/
def sgnB (n : Nat) : List UInt8 := [115, 101, 103, 46] ++ dig 8 n
def nameS (n : Int) : ByteArray := if 0 ≤ n ∧ n < 1048576 then ⟨(sgnB n.toNat).toArray⟩ else ⟨#[]⟩
theorem sgnB_length (n : Nat) : (sgnB n).length = 12 := by unfold sgnB; rw [List.length_append, dig_length]; rfl
theorem sgnB_drop (n : Nat) : (sgnB n).drop 4 = dig 8 n := rfl
theorem val_sgnB (n : Nat) (h : n < 100000000) : valD 0 ((sgnB n).drop 4) = n := by
  rw [sgnB_drop, valD_dig, show (10 : Nat) ^ 8 = 100000000 by decide]
  omega
/-- Which segment a name is. -/
def segOf (s : List UInt8) : Option Nat := if valD 0 (s.drop 4) < 1048576 ∧ sgnB (valD 0 (s.drop 4)) = s then some (valD 0 (s.drop 4)) else none
theorem segOf_sgnB (n : Nat) (h : n < 1048576) : segOf (sgnB n) = some n := by
  unfold segOf
  rw [val_sgnB n (by omega), if_pos ⟨h, rfl⟩]
theorem segOf_some {s : List UInt8} {n : Nat} (h : segOf s = some n) : s = sgnB n ∧ n < 1048576 := by
  unfold segOf at h
  split at h
  · rename_i c
    injection h with h
    subst h
    exact ⟨c.2.symm, c.1⟩
  · cases h
theorem segOf_none {s : List UInt8} (h : segOf s = none) (n : Nat) (hn : n < 1048576) : s ≠ sgnB n := by
  intro e
  rw [e, segOf_sgnB n hn] at h
  cases h
theorem sgnB_inj {a b : Nat} (ha : a < 1048576) (hb : b < 1048576) (h : sgnB a = sgnB b) : a = b := by
  have := segOf_sgnB a ha
  rw [h, segOf_sgnB b hb] at this
  exact (Option.some.inj this).symm
theorem nameS_list (n : Int) : (nameS n).data.toList = if 0 ≤ n ∧ n < 1048576 then sgnB n.toNat else [] := by
  unfold nameS
  split <;> rfl
theorem nameS_nat {n : Nat} (h : n < 1048576) : nameS (n : Int) = ⟨(sgnB n).toArray⟩ := by
  unfold nameS
  rw [if_pos ⟨by omega, by omega⟩]
  rfl
end Go.Proofs.YtfneloobfidckaaGreatDoor
