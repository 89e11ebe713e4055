/- Contracts and facts, several texts in one. It proves no statement. -/
import Derived.Test.YtljacdbdjacbkaaGreatMpGza
import Derived.Test.YtljacdbdjacbkaaGreatMpGu
import Derived.Test.YtljacdbdjacbkaaGreatMpGa

/- A medium's calls on its state: Rot, Crash, Size, Used, List. It proves no statement. -/


namespace Go.Proofs.YtljacdbdjacbkaaGreat
open Go.RowKit Go.Maps Go.WideMaps Go.Sort
set_option linter.unusedVariables false
set_option linter.unusedSimpArgs false

set_option maxRecDepth 100000 in
theorem rot_none {w : World} {g : Nat} {room : Int} {bn bf : Nat} {wv : Value} {left : Int} {off : Bool} (h : MedB w g room bn bf wv left off) (s : ByteArray) (hs : s.size ≤ maxLen) (n : Nat) (D : DataW Unit) (hown : NM w bn n D) (x : Int) (m : Int) (hlk : look D s = -1) :
    Calls Tryz.prog 29 #[.pointer (some ⟨g, 0, none⟩), .string s, .int .i64 x, .int .u8 m] w fun e w' => e = .returned (.bool false) ∧ w = w' := by
  have c1 : w.cell? ⟨g, 1, none⟩ = some (.map (some bn)) := Blk.cell h 1
  have HO := Lib.hid hown
  have HS := Lib.hid hs
  have HL := Lib.hid hlk
  clear h hown hs hlk
  go_enter Tryz.func29, Tryz.ntmps29
  go_wp2_with (at_lookup; go_must (refine wpList_look rfl (.tmp 15) (.tmp 16) rfl bn n D rfl HO.out s rfl HS.out ?_; intro f hf hlk; rw [HL.out] at hlk; subst hlk; rw [pv_nil]; clear hf))
  go_ret
  exact ⟨rfl, rfl⟩
set_option maxRecDepth 100000 in
theorem rot_out {w : World} {g : Nat} {room : Int} {bn bf : Nat} {wv : Value} {left : Int} {off : Bool} (h : MedB w g room bn bf wv left off) (s : ByteArray) (hs : s.size ≤ maxLen) (n : Nat) (D : DataW Unit) (hown : NM w bn n D) (x : Int) (m : Int) (gf nf c : Nat) (A : Option Addr) (b d : Value) (hlk : look D s = (gf : Int)) (hf : FileB w gf (.slice A nf c) b d) (hx : x < 0 ∨ (nf : Int) ≤ x) :
    Calls Tryz.prog 29 #[.pointer (some ⟨g, 0, none⟩), .string s, .int .i64 x, .int .u8 m] w fun e w' => e = .returned (.bool false) ∧ w = w' := by
  have c1 : w.cell? ⟨g, 1, none⟩ = some (.map (some bn)) := Blk.cell h 1
  have c0 : w.cell? ⟨gf, 0, none⟩ = some (.slice A nf c) := Blk.cell hf 0
  have HO := Lib.hid hown
  have HS := Lib.hid hs
  have HL := Lib.hid hlk
  clear h hown hs hlk hf
  by_cases h0 : x < 0
  · clear hx
    go_enter Tryz.func29, Tryz.ntmps29
    go_wp2_with (at_lookup; go_must (refine wpList_look rfl (.tmp 15) (.tmp 16) rfl bn n D rfl HO.out s rfl HS.out ?_; intro f hf hlk; rw [HL.out] at hlk; subst hlk; rw [pv_at]; clear hf))
    go_ret
    exact ⟨rfl, rfl⟩
  · have h1 : (nf : Int) ≤ x := by omega
    clear hx
    go_enter Tryz.func29, Tryz.ntmps29
    go_wp2_with (at_lookup; go_must (refine wpList_look rfl (.tmp 15) (.tmp 16) rfl bn n D rfl HO.out s rfl HS.out ?_; intro f hf hlk; rw [HL.out] at hlk; subst hlk; rw [pv_at]; clear hf))
    go_ret
    exact ⟨rfl, rfl⟩
set_option maxRecDepth 100000 in
theorem rot_by {w : World} {g : Nat} {room : Int} {bn bf : Nat} {wv : Value} {left : Int} {off : Bool} (h : MedB w g room bn bf wv left off) (s : ByteArray) (hs : s.size ≤ maxLen) (n : Nat) (D : DataW Unit) (hown : NM w bn n D) (x : Nat) (m : Int) (gf nf c : Nat) (A : Option Addr) (b d : Value) (hlk : look D s = (gf : Int)) (hf : FileB w gf (.slice A nf c) b d) (hx : x < nf) (R : World → Prop)
    (hR : Calls Tryz.prog 63 #[.pointer (some ⟨gf, 0, none⟩), .int .i64 x, .int .u8 m] w fun e w' => e = .returned (.tuple #[]) ∧ R w') :
    Calls Tryz.prog 29 #[.pointer (some ⟨g, 0, none⟩), .string s, .int .i64 x, .int .u8 m] w fun e w' => e = .returned (.bool true) ∧ R w' := by
  have c1 : w.cell? ⟨g, 1, none⟩ = some (.map (some bn)) := Blk.cell h 1
  have c0 : w.cell? ⟨gf, 0, none⟩ = some (.slice A nf c) := Blk.cell hf 0
  have HO := Lib.hid hown
  have HS := Lib.hid hs
  have HL := Lib.hid hlk
  have HR := Lib.hid hR
  have h0 : ¬ (x : Int) < 0 := by omega
  have h1 : ¬ (nf : Int) ≤ (x : Int) := by omega
  clear h hown hs hlk hf hR
  go_enter Tryz.func29, Tryz.ntmps29
  go_wp2_with (at_lookup; go_must (refine wpList_look rfl (.tmp 15) (.tmp 16) rfl bn n D rfl HO.out s rfl HS.out ?_; intro f hf hlk; rw [HL.out] at hlk; subst hlk; rw [pv_at]; clear hf))
  refine HR.out.mono ?_
  rintro e w1 ⟨rfl, r1⟩
  have R1 := Lib.hid r1
  clear r1 HR
  go_wp2_with fail
  go_ret
  exact ⟨rfl, R1.out⟩
/-- One file turned. -/
theorem MedI.file {w w' : World} {base g gf : Nat} {own : Own} {M : Me} {F F' : Fi} (h : MedI w base own g M) (hF : M.fs gf = some F) (hok : F'.ok) (hw : F'.wait.length ≤ 1000000) (hI : FileI w' base own gf F') (c : Chg w w' (fun b => ∃ k, own b = some (gf, k))) : Left w w' base g own { M with fs := upd M.fs gf F' } := by
  have hgg : gf ≠ g := fun e => by rw [e, h.nog] at hF; cases hF
  refine ⟨c.mono (fun b _ hb => by obtain ⟨k, hk⟩ := hb; rw [hk]; simp), own, fun _ _ => rfl, ⟨?_, ?_, fun b hb => ⟨(h.dom b hb).1, Nat.lt_of_lt_of_le (h.dom b hb).2 c.size⟩, Nat.le_trans h.low c.size, ?_⟩⟩
  · exact (h.dir.keep c (fun b k hb e => by obtain ⟨k2, hk2⟩ := hb; rw [hk2] at e; simp at e; exact hgg e.1)).cong rfl rfl rfl rfl rfl rfl (Nat.le_refl _)
  · exact h.files.turn c gf (fun b x k hb hx _ e => by obtain ⟨k2, hk2⟩ := hb; rw [hk2] at e; simp at e; exact hx e.1.symm) (fun _ _ => rfl) F' ⟨(h.files gf F hF).1, hok, hw, hI⟩
  · show upd M.fs gf F' g = none
    rw [upd_other _ _ (fun e => hgg e.symm)]
    exact h.nog
def Me.rotted (M : Me) (s : ByteArray) (x : Int) (m : Nat) (o : Option Nat) : Bool × Me := match nFind M.now s.data.toList with
  | none => (false, M)
  | some gf => match M.fs gf with
    | none => (false, M)
    | some F => if x < 0 ∨ (F.now.length : Int) ≤ x then (false, M) else (true, { M with fs := upd M.fs gf (F.rotAt x.toNat (fun b => b ^^^ UInt8.ofNat m) o) })
/-- Which change's byte it is that is spoilt. -/
def Me.Rotting (M : Me) (s : ByteArray) (x : Int) (o : Option Nat) : Prop := ∀ gf F, nFind M.now s.data.toList = some gf → M.fs gf = some F → 0 ≤ x → x < F.now.length → Rots F x.toNat o
theorem rotAt_wait (F : Fi) (i : Nat) (f : UInt8 → UInt8) (o : Option Nat) : (F.rotAt i f o).wait.length = F.wait.length := by
  cases o with
  | none => rfl
  | some j => exact List.length_modify ..
theorem rotAt_now (F : Fi) (i : Nat) (f : UInt8 → UInt8) (o : Option Nat) : (F.rotAt i f o).now = F.now.modify i f := by cases o <;> rfl
theorem rot_M {w : World} {base g : Nat} {own : Own} {M : Me} (s : ByteArray) (x : Int) (m : Nat) (hm : m < 256) (h : MedI w base own g M) (hok : M.ok) (hs : s.size ≤ maxLen) :
    Calls Tryz.prog 29 #[.pointer (some ⟨g, 0, none⟩), .string s, .int .i64 x, .int .u8 m] w fun e w' => ∃ o, M.Rotting s x o ∧ e = .returned (.bool (M.rotted s x m o).1) ∧ Left w w' base g own (M.rotted s x m o).2 := by
  obtain ⟨bn, bf, wv, ns, nn, nf, d1, d2, _⟩ := h.dir
  cases hk : nFind M.now s.data.toList with
  | none =>
    refine (rot_none d1 s hs nn _ d2 x m (by rw [look_nm, hk])).mono ?_
    rintro e w' ⟨he, rfl⟩
    refine ⟨none, (by unfold Me.Rotting; intro gf F h1; rw [hk] at h1; cases h1), ?_⟩
    have e : M.rotted s x m none = (false, M) := by unfold Me.rotted; rw [hk]
    rw [e]
    exact ⟨he, Left.same h⟩
  | some gf =>
    obtain ⟨F, hF⟩ := Me.there hok hk
    obtain ⟨q1, q2, q3, q4⟩ := h.files gf F hF
    have q4' := q4
    obtain ⟨nv, fv, wtv, cs, f1, f2, _⟩ := q4
    obtain ⟨Anv, cnv, rfl, _, _, _⟩ := own_form f2
    by_cases hx : x < 0 ∨ (F.now.length : Int) ≤ x
    · refine (rot_out d1 s hs nn _ d2 x m gf F.now.length cnv Anv fv wtv (look_found hk) f1 hx).mono ?_
      rintro e w' ⟨he, rfl⟩
      refine ⟨none, ?_, ?_⟩
      · unfold Me.Rotting
        intro gf2 F2 h1 h2 h3 h4
        rw [hk] at h1; injection h1 with h1; subst h1; rw [hF] at h2; injection h2 with h2; subst h2; omega
      · have e : M.rotted s x m none = (false, M) := by unfold Me.rotted; rw [hk]; simp only [hF]; exact if_pos hx
        rw [e]
        exact ⟨he, Left.same h⟩
    · obtain ⟨i, rfl⟩ := Int.eq_ofNat_of_zero_le (show 0 ≤ x by omega)
      have hi : i < F.now.length := by omega
      refine (rot_by d1 s hs nn _ d2 i m gf F.now.length cnv Anv fv wtv (look_found hk) f1 hi _ (frot_I q4' q2 i hi m hm q3)).mono ?_
      rintro e w' ⟨he, o, ho, hI, hc⟩
      refine ⟨o, ?_, ?_⟩
      · unfold Me.Rotting
        intro gf2 F2 h1 h2 h3 h4
        rw [hk] at h1; injection h1 with h1; subst h1; rw [hF] at h2; injection h2 with h2; subst h2; exact ho
      · have e : M.rotted s (i : Int) m o = (true, { M with fs := upd M.fs gf (F.rotAt i (fun b => b ^^^ UInt8.ofNat m) o) }) := by unfold Me.rotted; rw [hk]; simp only [hF]; exact if_neg hx
        rw [e]
        exact ⟨he, h.file hF (Fi.rot_ok q2 hi _ ho) (by rw [rotAt_wait]; exact q3) hI hc⟩
theorem crash_M {w : World} {base g : Nat} {B : Nat → Prop} {own : Own} {M : Me} {A : Option Addr} {n c : Nat} {zs : List Int} (h : MedI w base own g M) (hok : M.ok) (hcnt : M.cnt ≤ 1000000) (hr : ReadsI w B A n zs) (hBo : ∀ b, B b → own b = none ∧ b < w.heap.size) (hc : n ≤ c) (hm : c ≤ 9223372036854775807) :
    Calls Tryz.prog 27 #[.pointer (some ⟨g, 0, none⟩), .slice A n c] w fun e w' => e = .returned (.tuple #[]) ∧ Left w w' base g own (M.crash zs) := mcrash_I h hok hcnt hr hBo hc hm
theorem used_M {w : World} {base g : Nat} {own : Own} {M : Me} (h : MedI w base own g M) (hok : M.ok) (hcnt : M.cnt ≤ 1000000) :
    Calls Tryz.prog 47 #[.pointer (some ⟨g, 0, none⟩)] w fun e w' => e = .returned (.int .i64 (if M.off = true then 0 else M.used : Nat)) ∧ Still w w' := by
  have hu := used_most h hok hcnt
  have hsz := sized_I h hok
  obtain ⟨bn, bf, wv, ns, nn, nf, d1, d2, _⟩ := h.dir
  by_cases c1 : M.off = true
  · rw [c1] at d1
    rw [if_pos c1]
    exact (used_err _ w 12 (by decide) (works_off d1)).mono fun e w' hh => ⟨hh.1, hh.2 ▸ Still.refl w⟩
  · have hoff : M.off = false := by simpa using c1
    rw [hoff] at d1
    rw [if_neg c1]
    exact used_yes d1 nn _ d2 M.sz hsz hu
def Me.bytes (M : Me) (s : ByteArray) : List UInt8 × Int := match M.find s with
  | .inl E => ([], E)
  | .inr (gf, F) => (F.now, 0)
theorem all_M {w : World} {base g : Nat} {own : Own} {M : Me} (s : ByteArray) (h : MedI w base own g M) (hok : M.ok) (hs : s.size ≤ maxLen) :
    Calls Tryz.prog 45 #[.pointer (some ⟨g, 0, none⟩), .string s] w fun e w' => (∃ v, e = .returned (.tuple #[v, .int .i64 (M.bytes s).2]) ∧ w'.ownsRow w.heap.size 5 1 v (M.bytes s).1.length (bytesV (M.bytes s).1)) ∧ Still w w' := by
  rcases find_M s h hok hs with ⟨E, hE, hEE, hf⟩ | ⟨gf, F, hE, hoff, hlk, hF, hf⟩
  · have e : M.bytes s = ([], E) := by unfold Me.bytes; rw [hE]
    rw [e]
    exact (all_err _ s w E (err_ne hEE) hf).mono fun e w' hh => ⟨⟨_, hh.1, World.ownsRow_nil _ _ _ _⟩, hh.2 ▸ Still.refl w⟩
  · have e : M.bytes s = (F.now, 0) := by unfold Me.bytes; rw [hE]
    rw [e]
    exact all_I s gf F h hoff hs hlk hF
end Go.Proofs.YtljacdbdjacbkaaGreat

/- A medium's List; what stays true of a medium from call to call. It proves no statement. -/

namespace Go.Proofs.YtljacdbdjacbkaaGreat
open Go.RowKit Go.Maps Go.WideMaps Go.Sort
set_option linter.unusedVariables false
set_option linter.unusedSimpArgs false

/-- All names. -/
def Me.names (M : Me) : NT := if M.off = true then [] else M.now
theorem now_length {M : Me} (hok : M.ok) : M.now.length ≤ M.cnt := by
  have := steps_length M.fast M.wait
  have := hok.len
  rw [hok.eq]
  omega
set_option maxRecDepth 100000 in
theorem list_M {w : World} {base g : Nat} {own : Own} {M : Me} (h : MedI w base own g M) (hok : M.ok) (hcnt : M.cnt ≤ 1000000) :
    Calls Tryz.prog 42 #[.pointer (some ⟨g, 0, none⟩)] w fun e w' => (∃ v, e = .returned v ∧ w'.ownsRow w.heap.size 9 1 v M.names.length (namesV M.names)) ∧ Still w w' := by
  obtain ⟨bn, bf, wv, ns, nn, nf, d1, d2, _⟩ := h.dir
  have hlen := now_length hok
  by_cases c1 : M.off = true
  · rw [c1] at d1
    have e : M.names = [] := if_pos c1
    rw [e]
    exact (list_err _ w 12 (by decide) (works_off d1)).mono fun e w' hh => ⟨⟨_, hh.1, World.ownsRow_nil _ _ _ _⟩, hh.2 ▸ Still.refl w⟩
  · have hoff : M.off = false := by simpa using c1
    rw [hoff] at d1
    have e : M.names = M.now := if_neg c1
    rw [e]
    have c1' : w.cell? ⟨g, 1, none⟩ = some (.map (some bn)) := Blk.cell d1 1
    have WK := Lib.hid (works_on d1)
    have SK := Lib.hid (sortedkeys_any M.now hok.rn bn nn w d2 (by omega))
    clear h hok hcnt d1 d2 c1 hoff e hlen
    go_enter Tryz.func42, Tryz.ntmps42
    go_wp2_with fail
    refine WK.out.mono ?_
    rintro e w1 ⟨rfl, rfl⟩
    go_wp2_with fail
    refine (keys_any bn w).mono ?_
    rintro e w3 ⟨rfl, rfl⟩
    go_wp2_with fail
    refine SK.out.mono ?_
    rintro e w4 ⟨⟨v, rfl, o4⟩, s4⟩
    have O4 := Lib.hid (And.intro o4 s4)
    obtain ⟨Av, cv, rfl⟩ := own_formV o4
    clear o4 s4 SK
    go_wp2_with fail
    go_ret
    exact ⟨⟨_, rfl, O4.out.1⟩, O4.out.2⟩
/-- What stays true of a medium from call to call. -/
structure Me.good (M : Me) (k : Nat) : Prop where
  ok : M.ok
  cnt : M.cnt ≤ k
  wt : ∀ gf F, M.fs gf = some F → F.wait.length ≤ M.cnt
theorem Me.good.mono {M : Me} {k k' : Nat} (h : M.good k) (hk : k ≤ k') : M.good k' := ⟨h.ok, Nat.le_trans h.cnt hk, h.wt⟩
theorem Me.dead_good {M : Me} {k : Nat} (h : M.good k) : M.dead.good (k + 1) := ⟨Me.dead_ok h.ok, by have := h.cnt; show M.cnt ≤ k + 1; omega, h.wt⟩
theorem Me.new_good {room : Int} (h : 0 ≤ room ∧ room ≤ 16777216) : (Me.new room).good 0 := ⟨Me.new_ok h, Nat.le_refl _, fun gf F hF => by cases hF⟩
theorem Me.link_good {M : Me} {k : Nat} (h : M.good k) (h0 : M.left ≠ 0) (x : ByteArray × ByteArray × Int) (fs : Nat → Option Fi) (hfs : ∀ gf F, M.fs gf = some F → ∃ G, fs gf = some G) (hx : 0 ≤ x.2.2 → ∃ F, fs x.2.2.toNat = some F) (hw : ∀ gf F, fs gf = some F → F.wait.length ≤ M.cnt + 1) : (M.link x fs).good (k + 1) :=
  ⟨Me.link_ok h.ok h0 x fs hfs hx, by have := h.cnt; show M.cnt + 1 ≤ k + 1; omega, fun gf F hF => hw gf F hF⟩
theorem Me.wrote_good {M : Me} {k : Nat} (h : M.good k) (h0 : M.left ≠ 0) (gf : Nat) (F : Fi) (hw : F.wait.length ≤ M.cnt + 1) : (M.wrote gf F).good (k + 1) := by
  refine ⟨Me.wrote_ok h.ok h0 gf F, by have := h.cnt; show M.cnt + 1 ≤ k + 1; omega, fun x G hG => ?_⟩
  have hG' : upd M.fs gf F x = some G := hG
  show G.wait.length ≤ M.cnt + 1
  by_cases e : x = gf
  · subst e
    rw [upd_same] at hG'
    injection hG' with hG'
    subst hG'
    exact hw
  · rw [upd_other _ _ e] at hG'
    have := h.wt x G hG'
    omega
theorem opCreate_good {M : Me} {k : Nat} (h : M.good k) (s : ByteArray) (gf : Nat) : (opCreate M s gf).2.good (k + 1) := by
  unfold opCreate
  split
  · exact h.mono (by omega)
  · split
    · exact h.mono (by omega)
    · split
      · exact h.mono (by omega)
      · split
        · exact h.mono (by omega)
        · split
          · exact Me.dead_good h
          · rename_i h0
            refine Me.link_good h h0 _ _ (fun x F hF => upd_some hF) (fun _ => ⟨_, by simp only [Int.toNat_natCast]; exact upd_same _ _ _⟩) (fun x F hF => ?_)
            by_cases e : x = gf
            · subst e
              rw [upd_same] at hF
              injection hF with hF
              subst hF
              exact Nat.zero_le _
            · rw [upd_other _ _ e] at hF
              have := h.wt x F hF
              omega
theorem Me.find_fs {M : Me} {s : ByteArray} {gf : Nat} {F : Fi} (h : M.find s = .inr (gf, F)) : M.fs gf = some F ∧ nFind M.now s.data.toList = some gf ∧ M.off = false := by
  unfold Me.find at h
  split at h
  · cases h
  · rename_i h0
    split at h
    · cases h
    · rename_i gf2 h1
      split at h
      · cases h
      · rename_i F2 h2
        injection h with h
        injection h with h3 h4
        subst h3 h4
        exact ⟨h2, h1, by simpa using h0⟩
theorem opName_good {M : Me} {k : Nat} (h : M.good k) (x : ByteArray × ByteArray × Int) (hx : 0 ≤ x.2.2 → ∃ F, M.fs x.2.2.toNat = some F) : (opName M x).2.good (k + 1) := by
  unfold opName
  split
  · exact Me.dead_good h
  · rename_i h0
    exact Me.link_good h h0 _ _ (fun x F hF => ⟨F, hF⟩) hx (fun gf F hF => by have := h.wt gf F hF; omega)
theorem opRename_good {M : Me} {k : Nat} (h : M.good k) (s t : ByteArray) : (opRename M s t).2.good (k + 1) := by
  unfold opRename
  split
  · exact h.mono (by omega)
  · rename_i gf F hf
    split
    · exact h.mono (by omega)
    · exact opName_good h _ (fun _ => ⟨F, by simp only [Int.toNat_natCast]; exact (Me.find_fs hf).1⟩)
theorem opRemove_good {M : Me} {k : Nat} (h : M.good k) (s : ByteArray) : (opRemove M s).2.good (k + 1) := by
  unfold opRemove
  split
  · exact h.mono (by omega)
  · exact opName_good h _ (fun h0 => absurd h0 (by show ¬ (0 : Int) ≤ -1; decide))
theorem opAppend_good {M : Me} {k : Nat} (h : M.good k) (s : ByteArray) (x : List UInt8) : (opAppend M s x).2.good (k + 1) := by
  unfold opAppend
  split
  · exact h.mono (by omega)
  · rename_i gf F hf
    split
    · exact h.mono (by omega)
    · split
      · exact Me.dead_good h
      · rename_i h0
        have := h.wt gf F (Me.find_fs hf).1
        exact Me.wrote_good h h0 gf _ (by show (F.wait ++ [_]).length ≤ _; rw [List.length_append]; simp; omega)
theorem opTruncate_good {M : Me} {k : Nat} (h : M.good k) (s : ByteArray) (n : Int) : (opTruncate M s n).2.good (k + 1) := by
  unfold opTruncate
  split
  · exact h.mono (by omega)
  · rename_i gf F hf
    split
    · exact h.mono (by omega)
    · split
      · exact Me.dead_good h
      · rename_i h0
        have := h.wt gf F (Me.find_fs hf).1
        exact Me.wrote_good h h0 gf _ (by show (F.wait ++ [_]).length ≤ _; rw [List.length_append]; simp; omega)
theorem opSync_good {M : Me} {k : Nat} (h : M.good k) (s : ByteArray) : (opSync M s).2.good (k + 1) := by
  unfold opSync
  split
  · exact h.mono (by omega)
  · rename_i gf F hf
    split
    · exact Me.dead_good h
    · rename_i h0
      exact Me.wrote_good h h0 gf _ (Nat.zero_le _)
theorem opSyncDir_good {M : Me} {k : Nat} (h : M.good k) : (opSyncDir M).2.good (k + 1) := by
  unfold opSyncDir
  split
  · exact h.mono (by omega)
  · split
    · exact Me.dead_good h
    · rename_i h0
      exact ⟨Me.syncedDir_ok h.ok h0, by have := h.cnt; show M.cnt ≤ k + 1; omega, h.wt⟩
theorem opArm_good {M : Me} {k : Nat} (h : M.good k) (n : Int) (hn : n ≤ 9223372036854775807) : (opArm M n).2.good (k + 1) := by
  unfold opArm
  split
  · exact h.mono (by omega)
  · split
    · exact h.mono (by omega)
    · exact ⟨⟨h.ok.rn, h.ok.rf, h.ok.ff, h.ok.fw, h.ok.eq, h.ok.room, ⟨by show -1 ≤ n; omega, hn⟩, h.ok.len⟩, by have := h.cnt; show M.cnt ≤ k + 1; omega, h.wt⟩
theorem opSetRoom_good {M : Me} {k : Nat} (h : M.good k) (n : Int) : (opSetRoom M n).2.good (k + 1) := by
  unfold opSetRoom
  split
  · exact h.mono (by omega)
  · split
    · exact h.mono (by omega)
    · rename_i h0
      have hr : 0 ≤ n ∧ n ≤ 16777216 := by unfold roomOK at h0; simpa using h0
      exact ⟨⟨h.ok.rn, h.ok.rf, h.ok.ff, h.ok.fw, h.ok.eq, hr, h.ok.left, h.ok.len⟩, by have := h.cnt; show M.cnt ≤ k + 1; omega, h.wt⟩
theorem rotted_good {M : Me} {k : Nat} (h : M.good k) (s : ByteArray) (x : Int) (m : Nat) (o : Option Nat) : (M.rotted s x m o).2.good (k + 1) := by
  unfold Me.rotted
  split
  · exact h.mono (by omega)
  · rename_i gf _
    split
    · exact h.mono (by omega)
    · rename_i F hF
      split
      · exact h.mono (by omega)
      · refine ⟨⟨h.ok.rn, h.ok.rf, fun p hp => ?_, fun y hy h1 => ?_, h.ok.eq, h.ok.room, h.ok.left, h.ok.len⟩, by have := h.cnt; show M.cnt ≤ k + 1; omega, fun y G hG => ?_⟩
        · obtain ⟨G, hG⟩ := h.ok.ff p hp; exact upd_some hG
        · obtain ⟨G, hG⟩ := h.ok.fw y hy h1; exact upd_some hG
        · have hG' : upd M.fs gf _ y = some G := hG
          by_cases e : y = gf
          · subst e
            rw [upd_same] at hG'
            injection hG' with hG'
            subst hG'
            rw [rotAt_wait]
            exact h.wt y F hF
          · rw [upd_other _ _ e] at hG'
            exact h.wt y G hG'
theorem crSt_wait {s : (Nat → Option Fi) × List Int} {f x : Nat} {G : Fi} (h : (crSt s f).1 x = some G) : (∃ F, s.1 x = some F ∧ G.wait.length ≤ F.wait.length) := by
  cases hF : s.1 f with
  | none =>
    have e : (crSt s f).1 = s.1 := by unfold crSt; rw [hF]
    rw [e] at h
    exact ⟨G, h, Nat.le_refl _⟩
  | some F =>
    have e : (crSt s f).1 = upd s.1 f (F.crash s.2) := by unfold crSt; rw [hF]
    rw [e] at h
    by_cases e2 : x = f
    · subst e2
      rw [upd_same] at h
      injection h with h
      subst h
      exact ⟨F, hF, Nat.zero_le _⟩
    · rw [upd_other _ _ e2] at h
      exact ⟨G, h, Nat.le_refl _⟩
theorem crFold_wait {x : Nat} (L : List Nat) : ∀ (s : (Nat → Option Fi) × List Int) {G : Fi}, (L.foldl crSt s).1 x = some G → ∃ F, s.1 x = some F ∧ G.wait.length ≤ F.wait.length := by
  induction L with
  | nil => exact fun s G h => ⟨G, h, Nat.le_refl _⟩
  | cons f L ih =>
    intro s G h
    obtain ⟨F, h1, h2⟩ := ih (crSt s f) h
    obtain ⟨E, h3, h4⟩ := crSt_wait h1
    exact ⟨E, h3, by omega⟩
theorem crash_good {M : Me} {k : Nat} (h : M.good k) (zs : List Int) : (M.crash zs).good (k + 1) :=
  ⟨Me.crash_ok h.ok zs, by have := h.cnt; show M.cnt ≤ k + 1; omega, fun gf G hG => by
    obtain ⟨F, h1, h2⟩ := crFold_wait _ _ hG
    exact Nat.le_trans h2 (h.wt gf F h1)⟩
end Go.Proofs.YtljacdbdjacbkaaGreat

/- The law's calls in rows: box and push of one. It proves no statement. -/

namespace Go.Proofs.YtljacdbdjacbkaaGreat
open Go.RowKit Go.Maps Go.WideMaps
set_option linter.unusedVariables false
set_option linter.unusedSimpArgs false

theorem Tryz.infoDo : (Tryz.prog.info? 36).map (fun i => (i.zero, i.size, i.bytes)) = some (some (.agg #[.int .i64 0, .string ⟨#[]⟩, .string ⟨#[]⟩, .int .i64 0, .int .i64 0, .slice none 0 0, .slice none 0 0]), 7, 104) := by kernel_rfl
set_option maxRecDepth 100000 in
theorem fill_Do (k : Int) (s : ByteArray) (t : ByteArray) (nn : Int) (mm : Int) (A : Option Addr) (n : Nat) (c : Nat) (A2 : Option Addr) (n2 : Nat) (c2 : Nat) : Instr.fill (fun i => some (i * 7, 7)) ((Array.range (1 * 7)).map ((Value.agg #[.int .i64 0, .string ⟨#[]⟩, .string ⟨#[]⟩, .int .i64 0, .int .i64 0, .slice none 0 0, .slice none 0 0]).cells[· % (Value.agg #[.int .i64 0, .string ⟨#[]⟩, .string ⟨#[]⟩, .int .i64 0, .int .i64 0, .slice none 0 0, .slice none 0 0]).cells.size]!)) [(0, .agg #[.int .i64 k, .string s, .string t, .int .i64 nn, .int .i64 mm, .slice A n c, .slice A2 n2 c2])] = some #[.int .i64 k, .string s, .string t, .int .i64 nn, .int .i64 mm, .slice A n c, .slice A2 n2 c2] := by kernel_rfl
theorem step_boxDo (w : World) {o : Oper} {a : Act} {K' : Act → World → Prop} {Q : Exit → Act → World → Prop} (x : Operand)
    (ho : o.op = .buildSlice 22 1 #[(0, x)]) (k : Int) (s : ByteArray) (t : ByteArray) (nn : Int) (mm : Int) (A : Option Addr) (n : Nat) (c : Nat) (A2 : Option Addr) (n2 : Nat) (c2 : Nat) (hx : a.eval x = .agg #[.int .i64 k, .string s, .string t, .int .i64 nn, .int .i64 mm, .slice A n c, .slice A2 n2 c2])
    (h : K' (a.put o.dst (.slice (some ⟨w.heap.size, 0, none⟩) 1 1)) (w.alloc (.cells #[.int .i64 k, .string s, .string t, .int .i64 nn, .int .i64 mm, .slice A n c, .slice A2 n2 c2] 36))) : o.wp Tryz.prog a w K' Q := by
  obtain ⟨i0, hi, hz0, hz1, hz2⟩ := info_parts Tryz.infoDo
  refine wp_buildSlice 22 36 1 #[(0, x)] ho #[.int .i64 k, .string s, .string t, .int .i64 nn, .int .i64 mm, .slice A n c, .slice A2 n2 c2] i0 _ Tryz.underlying22 hi hz0 (by rw [hz1]; decide) (by rw [hz1]; decide) ?_ h
  rw [hz1]
  simp only [List.map_toArray, List.map_cons, List.map_nil, hx]
  exact fill_Do k s t nn mm A n c A2 n2 c2
theorem wpList_boxDo (w : World) {ops : Array Oper} {rest : List Oper} {o : Oper} {a : Act} {Q : Exit → Act → World → Prop} (hgd : o.guard = none) (x : Operand)
    (ho : o.op = .buildSlice 22 1 #[(0, x)]) (k : Int) (s : ByteArray) (t : ByteArray) (nn : Int) (mm : Int) (A : Option Addr) (n : Nat) (c : Nat) (A2 : Option Addr) (n2 : Nat) (c2 : Nat) (hx : a.eval x = .agg #[.int .i64 k, .string s, .string t, .int .i64 nn, .int .i64 mm, .slice A n c, .slice A2 n2 c2])
    (h : wpList Tryz.prog ops Q rest (a.put o.dst (.slice (some ⟨w.heap.size, 0, none⟩) 1 1)) (w.alloc (.cells #[.int .i64 k, .string s, .string t, .int .i64 nn, .int .i64 mm, .slice A n c, .slice A2 n2 c2] 36))) : wpList Tryz.prog ops Q (o :: rest) a w :=
  wpList_plain hgd fun _ hQ => step_boxDo w x ho k s t nn mm A n c A2 n2 c2 hx (hQ _ _ h)
theorem step_pushDo (w : World) {o : Oper} {a : Act} {K : Act → World → Prop} {Q : Exit → Act → World → Prop} (s x : Operand)
    (ho : o.op = .call { callee := .builtin .append, args := #[s, x], argTypes := #[22, 22] })
    (base : Nat) (v : Value) (n : Nat) (xs : List Value) (hs : a.eval s = v) (hown : w.ownsRow base 36 7 v n xs) (gb : Nat) (cs : List Value)
    (hx : a.eval x = .slice (some ⟨gb, 0, none⟩) 1 1) (hc : ∀ q u, cs[q]? = some u → w.cell? ⟨gb, q, none⟩ = some u) (hc6 : cs.length = 7) (h1 : ∀ u ∈ cs, u.oneCell' = true) (hn : n ≤ 1048576) (hbase : base ≤ w.heap.size)
    (h : ∀ v' w', w'.ownsRow base 36 7 v' (n + 1) (xs ++ cs) → w.grownBy w' v.ownBlock → (v'.ownBlock = v.ownBlock ∨ v'.ownBlock = some w.heap.size) → K (a.put o.dst v') w') :
    o.wp Tryz.prog a w K Q := by
  obtain ⟨i0, hi, hz0, hz1, hz2⟩ := info_parts Tryz.infoDo
  obtain ⟨v', w', hrun, h2, h3, _, h5⟩ := run_append_own_at (P := Tryz.prog) w base 22 o.type 36 i0 _ 7 104 Tryz.underlying22 hi hz0 hz1 hz2 rfl (by decide) v n xs hown ⟨gb, 0, none⟩ 1 1 cs (by rw [hc6]) (fun j u hu => by
    rw [Addr.add_mid, Nat.zero_add]; exact hc j u hu) h1 (by unfold maxLen; omega) (by omega) hbase
  unfold Oper.wp execOp
  simp only [ho, resolve, invoke, builtin, Sem.run_bind, Sem.run_pure, Result.andThen_ok, List.map_toArray, List.map_cons, List.map_nil, hs, hx, hrun]
  exact h v' w' h2 h3 h5
theorem wpList_pushDo (w : World) {ops : Array Oper} {rest : List Oper} {o : Oper} {a : Act} {Q : Exit → Act → World → Prop} (hgd : o.guard = none) (s x : Operand)
    (ho : o.op = .call { callee := .builtin .append, args := #[s, x], argTypes := #[22, 22] })
    (base : Nat) (v : Value) (n : Nat) (xs : List Value) (hs : a.eval s = v) (hown : w.ownsRow base 36 7 v n xs) (gb : Nat) (cs : List Value)
    (hx : a.eval x = .slice (some ⟨gb, 0, none⟩) 1 1) (hc : ∀ q u, cs[q]? = some u → w.cell? ⟨gb, q, none⟩ = some u) (hc6 : cs.length = 7) (h1 : ∀ u ∈ cs, u.oneCell' = true) (hn : n ≤ 1048576) (hbase : base ≤ w.heap.size)
    (h : ∀ v' w', w'.ownsRow base 36 7 v' (n + 1) (xs ++ cs) → w.grownBy w' v.ownBlock → (v'.ownBlock = v.ownBlock ∨ v'.ownBlock = some w.heap.size) → wpList Tryz.prog ops Q rest (a.put o.dst v') w') :
    wpList Tryz.prog ops Q (o :: rest) a w :=
  wpList_plain hgd fun _ hQ => step_pushDo w s x ho base v n xs hs hown gb cs hx hc hc6 h1 hn hbase fun v' w' h2 h3 h5 => hQ _ _ (h v' w' h2 h3 h5)
end Go.Proofs.YtljacdbdjacbkaaGreat
