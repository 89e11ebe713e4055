/- Contracts: Sizes, Split. It proves no statement. -/
import Derived.Test.YtjihnagoebhinaaCtNext
import Derived.Test.YtjihnagoebhinaaCtRows
import Derived.Test.YtjihnagoebhinaaRowI
namespace Go.Proofs.Ytjihnagoebhinaa
open Go.RowKit
set_option linter.unusedVariables false
set_option linter.unusedSimpArgs false

/-- Numbers as values. -/
def intsV (l : List Nat) : List Value := l.map (fun (n : Nat) => Value.int .i64 (n : Int))
theorem intsV_snoc (l : List Nat) (n : Nat) : intsV l ++ [Value.int .i64 (n : Int)] = intsV (l ++ [n]) := by simp [intsV]
/-- How long they are. -/
def lens (L : List (List UInt8)) : List Nat := L.map List.length
theorem lens_snoc (L : List (List UInt8)) (x : List UInt8) : lens (L ++ [x]) = lens L ++ [x.length] := by simp [lens]
theorem own_grown {a b : World} {r : Option Nat} (h : a.grownBy b r) {base z n : Nat} {e : TypeId} {v : Value} {xs : List Value} (ho : a.ownsRow base e z v n xs) (hr : ∀ k, v.ownBlock = some k → r ≠ some k) : b.ownsRow base e z v n xs := by
  refine ⟨ho.1, ?_⟩
  rcases ho.2 with h0 | ⟨g, c, cur, h1, h2, h3, h4⟩
  · exact .inl h0
  · subst h1
    exact .inr ⟨g, c, cur, rfl, h2, (h.block g (Array.getElem?_eq_some_iff.1 h3).1 (fun e => hr g rfl e.symm)).trans h3, h4⟩
theorem FB.grown {w w' : World} {f r : Nat} {s : Shp} {l : List UInt8} (h : FB w f r s l) {g : Option Nat} (c : w.grownBy w' g) (h1 : g ≠ some f) (h2 : g ≠ some r) : FB w' f r s l :=
  ⟨(c.block f h.1.lt h1.symm).trans h.1, h.2.1.keepb (c.block r h.2.1.lt h2.symm), h.2.2⟩
theorem sizes_no (x y z u sd : Int) (b : Value) (w : World) (h : okZ x y z u = false) :
    Calls Try.prog 13 #[.agg #[.int .i64 x, .int .i64 y, .int .i64 z, .int .i64 u, .int .u32 sd], b] w fun e w' => e = .returned (.tuple #[.slice none 0 0, .int .i64 2]) ∧ Still w w' := by
  have st := (Still.refl w).alloc (Nat.le_refl _) (.cells #[.int .i64 x, .int .i64 y, .int .i64 z, .int .i64 u, .int .u32 sd] 24)
  have HC := Lib.hid (fun W => begin_no x y z u sd W h)
  have ST := Lib.hid st
  clear st h
  go_enter Try.func13, Try.ntmps13
  go_wp2_with fail
  refine (HC.out _).mono ?_
  rintro e w1 ⟨rfl, s1⟩
  have S1 := Lib.hid (Still.trans ST.out s1)
  clear s1
  go_wp2_with fail
  go_ret2
  exact ⟨rfl, S1.out⟩
/-- What holds between two chunks. -/
structure SzMid (w wr : World) (f r : Nat) (s : Shp) (b : List UInt8) (A : Option Addr) (n c : Nat) (rest : List UInt8) (v : Value) (done : List (List UInt8)) : Prop where
  row : RowP wr (fun k => k < w.heap.size) A n c rest
  own : wr.ownsRow w.heap.size 3 1 v done.length (intsV (lens done))
  far : ∀ k, v.ownBlock = some k → ¬ Fi2 f r k
  eq : done ++ chunks s rest = chunks s b
  fin : rest ≠ [] → FB wr f r s []
  lf : f < wr.heap.size ∧ r < wr.heap.size
  st : Still w wr
  len : done.length + n ≤ b.length
set_option maxRecDepth 100000 in
set_option maxHeartbeats 3200000 in
theorem sizes_yes (s : Shp) (hs : s.Ok) (A : Option Addr) (n c : Nat) (b : List UInt8) (w : World) (B : Nat) (h : RowS w B A n c b) (hB : B ≤ w.heap.size) (hn : n ≤ 65536) :
    Calls Try.prog 13 #[.agg #[.int .i64 (s.lt : Nat), .int .i64 (s.mt : Nat), .int .i64 (s.k : Nat), .int .i64 (s.n : Nat), .int .u32 (s.seed : Nat)], .slice A n c] w fun e w' =>
      ∃ v, e = .returned (.tuple #[v, .int .i64 0]) ∧ w'.ownsRow w.heap.size 3 1 v (chunks s b).length (intsV (lens (chunks s b))) ∧ Still w w' := by
  have st := (Still.refl w).alloc (Nat.le_refl _) (.cells #[.int .i64 (s.lt : Nat), .int .i64 (s.mt : Nat), .int .i64 (s.k : Nat), .int .i64 (s.n : Nat), .int .u32 (s.seed : Nat)] 24)
  have HBG := Lib.hid (fun W => begin_yes s hs W)
  have HR := Lib.hid ((RowP.of_rowS h hB).mono (Q := fun k => k < w.heap.size) (fun b hb _ => by omega))
  have HBL := Lib.hid (show b.length = n from h.reads.1)
  have ST := Lib.hid st
  have OK := Lib.hid hs
  clear st h hs
  go_enter Try.func13, Try.ntmps13
  go_wp2_with fail
  refine (HBG.out _).mono ?_
  rintro e w1 ⟨f, r, rfl, fb, s1, hf, hr⟩
  have S1 := Lib.hid (Still.trans ST.out s1)
  have hf0 : w.heap.size ≤ f := Nat.le_trans ST.out.size hf
  have hr0 : w.heap.size ≤ r := Nat.le_trans ST.out.size hr
  have HFR := Lib.hid (And.intro hf0 hr0)
  have I0 : Hid (SzMid w w1 f r s b A n c b (.slice none 0 0) []) := ⟨HR.out.still S1.out, World.ownsRow_nil _ _ _ _, fun k hk => by simp [Value.ownBlock] at hk, by simp, fun _ => fb, ⟨fb.1.lt, fb.2.1.lt⟩, S1.out, by simp [HBL.out]⟩
  clear s1 hf hr hf0 hr0 fb S1 HBG ST
  go_wp2_with fail
  go_loopw [1, 8] (fun bv lv wr => ∃ A' n' c' rest v done, bv = .slice A' n' c' ∧ lv = v ∧ Hid (SzMid w wr f r s b A' n' c' rest v done)) (fun bv _ _ => match bv with | .slice _ k _ => k | _ => 0)
  case atStart => exact ⟨A, n, c, b, _, [], rfl, rfl, I0⟩
  case round =>
    clear I0
    obtain ⟨A', n', c', rest, v, done, rfl, rfl, hin⟩ := hrel
    by_cases hz : n' = 0
    · subst hz
      have e0 : rest = [] := List.eq_nil_of_length_eq_zero hin.out.row.len
      have e1 := hin.out.eq
      rw [e0, chunks_nil, List.append_nil] at e1
      have ho := hin.out.own
      rw [e1] at ho
      have H4 := Lib.hid (And.intro ho hin.out.st)
      clear e0 e1 ho hin
      go_wp2_with fail
      go_ret2
      exact ⟨_, rfl, H4.out.1, H4.out.2⟩
    · have hlen := hin.out.row.len
      have hne : rest ≠ [] := by
        intro e
        rw [e] at hlen
        simp at hlen
        omega
      have hp1 := nx_pos s rest [] hne
      have hp2 := nx_le s rest []
      have hcc := chunks_cons s rest hne
      have hro := fun hd => run_over s rest hne hd
      have HX := Lib.hid (fun W (g : FB W f r s []) (hr : Reads W W.heap.size A' n' rest) (hlow : ∀ ad, A' = some ad → 0 < n' → ¬ Fi2 f r ad.block) => next_any OK.out (l := []) (by have := OK.out.ltmt; have := OK.out.nlt; have := OK.out.n1; simp; omega) A' n' c' rest W W.heap.size g hr (by have := hin.out.len; have := HBL.out; omega) hlow)
      obtain ⟨N, hN⟩ : ∃ N, N = nx s [] rest := ⟨_, rfl⟩
      rw [← hN] at HX hp1 hp2 hcc hro
      obtain ⟨p, q⟩ := N
      simp only [List.nil_append] at HX hp1 hp2 hcc hro
      have hpn : p ≤ n' := by omega
      have hlow : ∀ ad, A' = some ad → 0 < n' → ¬ Fi2 f r ad.block := by
        intro ad e hn
        obtain ⟨bb, o, e2, hb, _⟩ := hin.out.row.at_ hn
        rw [e2] at e
        obtain rfl := Option.some.inj e
        have := HFR.out
        rintro (h | h) <;> simp only at h hb <;> omega
      have HP := Lib.hid (And.intro hp1 hpn)
      have HCC := Lib.hid hcc
      have HRO := Lib.hid hro
      have HLEN := Lib.hid hlen
      have HNX := Lib.hid (HX.out wr (hin.out.fin hne) hin.out.row.reads hlow)
      have z1 : (0 : Int) < (n' : Int) := by omega
      have HZ := Lib.hid hz
      have z3 : (p : Int) ≤ (n' : Int) := by omega
      have z4 : (0 : Int) ≤ (p : Int) := by omega
      clear hN hp1 hp2 hcc hro hlow hne hlen hpn HX hz
      go_wp2_with fail
      refine HNX.out.mono ?_
      rintro e w2 ⟨rfl, fb2, c2⟩
      have o2 := c2.own hin.out.own (fun k hk => hin.out.far k hk)
      have r2 := hin.out.row.chg c2 (fun k hk _ => by have := HFR.out; rintro (h | h) <;> omega)
      have t2 : Still w w2 := c2.still hin.out.st (fun k hk => by have := HFR.out; rcases hk with h | h <;> omega)
      have H2 := Lib.hid (And.intro fb2 (And.intro t2 (And.intro o2 r2)))
      have LF := Lib.hid (show f < w2.heap.size ∧ r < w2.heap.size from ⟨fb2.1.lt, fb2.2.1.lt⟩)
      have HLN := Lib.hid hin.out.len
      have HD : done.length < 1048576 := by have := hin.out.len; have := HBL.out; have := HP.out; omega
      clear fb2 t2 o2 r2 c2 HNX
      go_wp2_with ((first | (guard_target =~ wpList _ _ _ (Oper.mk (some 31) _ _ _ _ _ :: _) _ _; go_must (refine wpList_oneI _ rfl _ _ rfl w.heap.size _ _ _ rfl H2.out.2.2.1 _ rfl rfl HD H2.out.2.1.size ?_)) | fail))
      intro v' w3 o3 g3 hv3
      have hfar := hin.out.far
      have o4 : w3.ownsRow w.heap.size 3 1 v' (done ++ [rest.take p]).length (intsV (lens (done ++ [rest.take p]))) := by
        rw [intsV_snoc] at o3
        rw [lens_snoc, List.length_take, HLEN.out, Nat.min_eq_left HP.out.2, List.length_append, List.length_singleton]
        exact o3
      have t3 : Still w w3 := H2.out.2.1.grown g3 H2.out.2.1.size (fun k hk => by
        rcases H2.out.2.2.1.2 with ⟨e, _⟩ | ⟨g, cp, cur, e, hg, _⟩
        · rw [e] at hk; simp [Value.ownBlock] at hk
        · rw [e] at hk; simp [Value.ownBlock] at hk; omega)
      have r3 : RowP w3 (fun k => k < w.heap.size) A' n' c' rest := H2.out.2.2.2.keep (fun k hk hk2 => g3.block k hk2 (fun e => by
        rcases H2.out.2.2.1.2 with ⟨e1, _⟩ | ⟨g, cp, cur, e1, hg, _⟩
        · rw [e1] at e; simp [Value.ownBlock] at e
        · rw [e1] at e; simp [Value.ownBlock] at e; omega)) g3.size
      have far3 : ∀ k, v'.ownBlock = some k → ¬ Fi2 f r k := by
        intro k hk
        rcases hv3 with e | e
        · rw [e] at hk; exact hfar k hk
        · rw [e] at hk
          have := LF.out
          obtain rfl := Option.some.inj hk
          rintro (h | h) <;> omega
      have fin3 : rest.drop p ≠ [] → FB w3 f r s [] := by
        intro hd
        have h1 := H2.out.1
        rw [HRO.out hd, if_pos rfl] at h1
        exact h1.grown g3 (fun e => hfar f e (.inl rfl)) (fun e => hfar r e (.inr rfl))
      have eq3 : (done ++ [rest.take p]) ++ chunks s (rest.drop p) = chunks s b := by
        rw [List.append_assoc, List.singleton_append, ← HCC.out]
        exact hin.out.eq
      have lf3 : f < w3.heap.size ∧ r < w3.heap.size := by have := LF.out; have := g3.size; omega
      have len3 : (done ++ [rest.take p]).length + (n' - p) ≤ b.length := by
        have := HLN.out
        have := HP.out
        simp only [List.length_append, List.length_singleton]
        omega
      by_cases hck : c' = p
      · have hnp : n' = p := by have := r3.fit; have := HP.out; omega
        have H3 : Hid (SzMid w w3 f r s b A' 0 0 (rest.drop p) v' (done ++ [rest.take p])) := ⟨r3.endk (by omega), o4, far3, eq3, fin3, lf3, t3, by omega⟩
        clear o3 g3 hv3 hfar o4 t3 r3 far3 fin3 eq3 lf3 len3 HD H2 hin
        subst hnp
        subst hck
        go_wp2_with fail
        go_roundw
        case rel => exact ⟨A', 0, 0, _, v', _, rfl, rfl, H3⟩
        case measure => simp; have := HP.out; omega
      · have H3 : Hid (SzMid w w3 f r s b (A'.map (·.add p)) (n' - p) (c' - p) (rest.drop p) v' (done ++ [rest.take p])) := ⟨r3.dropk HP.out.2, o4, far3, eq3, fin3, lf3, t3, len3⟩
        obtain ⟨bb, o, rfl, _⟩ := r3.at_ (by omega)
        clear o3 g3 hv3 hfar o4 t3 r3 far3 fin3 eq3 lf3 len3 HD H2 hin
        go_wp2_with fail
        go_roundw
        case rel => exact ⟨_, n' - p, c' - p, _, v', _, rfl, rfl, by simpa [Addr.add_lit] using H3⟩
        case measure => simp; have := HP.out; omega
end Go.Proofs.Ytjihnagoebhinaa
