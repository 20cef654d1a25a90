/- A local that is not live may be anything, plainly. -/
import Derived.Test.YtffkkhaiedhaiaaJLv0
import Derived.Test.YtffkkhaiedhaiaaJNx4
namespace Go.Proofs.Ytffkkhaiedhaiaa
namespace Pg
open Go.ChangeShapes Go.WideShapes Go.ChangeAt Go.RowKit St Wd

theorem lvB_pre (code : List Tx.Ins) : PreL code (lvB code) := fun k v hk hv h => by
  simp only [lvB, decide_eq_true_eq]
  intro G hG
  refine hG k v hk hv (live_mono (fun j _ hj => ?_) h)
  simp only [lvB, decide_eq_true_eq] at hj
  exact hj G hG
theorem live_load {code : List Tx.Ins} {k v : Nat} (hk : k < code.length) (hv : v < 8) (h : (insF code k).1 = 2 ∧ (insF code k).2.1 = (v : Int)) : lvB code k v = true := by
  refine lvB_pre code k v hk hv ?_
  unfold liveF inF
  rw [if_pos h]
theorem live_next {code : List Tx.Ins} (h40 : code.length ≤ 40) {k j v : Nat} (hk : k < code.length) (hv : v < 8) (hn : nxB code k j = true) (hl : lvB code j v = true) (hne : ¬ ((insF code k).1 = 3 ∧ (insF code k).2.1 = (v : Int))) : lvB code k v = true := by
  refine lvB_pre code k v hk hv ?_
  have ho : outF code k (lvB code) v = true := by
    unfold outF
    rw [List.any_eq_true]
    exact ⟨j, List.mem_range.2 (by have := nxB_lt hn; omega), by rw [hn, hl]; rfl⟩
  unfold liveF inF
  by_cases h2 : (insF code k).1 = 2 ∧ (insF code k).2.1 = (v : Int)
  · rw [if_pos h2]
  · rw [if_neg h2, if_neg hne]; exact ho
theorem local_ok {code : List Tx.Ins} (hok : Lay.codeOk code = true) {k : Nat} (hk : k < code.length) (h : (insF code k).1 = 2 ∨ (insF code k).1 = 3) : 0 ≤ (insF code k).2.1 ∧ (insF code k).2.1 < 8 := by
  have h1 := Lay.ok_at hok (ins_is hk)
  unfold Tx.okI at h1
  rw [if_neg (by rcases h with h | h <;> omega)] at h1
  simp only [Bool.and_eq_true, decide_eq_true_eq] at h1
  refine ⟨h1.1.1.1, ?_⟩
  have h2 := h1.1.1.2
  unfold Tx.limA at h2
  rcases h with h | h <;> rw [h] at h2 <;> simpa using h2
/-- How one step turns two machines that differ in the locals of frames alone. -/
inductive Twin (h : List Ob) (sd : List Int) (fn cd : Int) (fx fy : List Fr) (cls name pos : Int) (st : List Vl) (lf lg : List Vl) (i : Tx.Ins) : Mc × Int → Mc × Int → Prop
  | ends (e : Int) (he : e ≠ 0) : Twin h sd fn cd fx fy cls name pos st lf lg i (⟨h, fx, sd, fn, cd⟩, e) (⟨h, fy, sd, fn, cd⟩, e)
  | gave (c : Int) (hx : fx.dropLast = []) (hy : fy.dropLast = []) : Twin h sd fn cd fx fy cls name pos st lf lg i (⟨h, [], sd, fn, c⟩, 1) (⟨h, [], sd, fn, c⟩, 1)
  | on (h' : List Ob) (sd' : List Int) (l1 l2 : List Vl) (s' : List Vl) (q : Int) (hl : (i.1 ≠ 3 ∧ l1 = lf ∧ l2 = lg) ∨ (i.1 = 3 ∧ ∃ v, l1 = lf.set i.2.1.toNat v ∧ l2 = lg.set i.2.1.toNat v)) (hp : (q = pos + 1 ∧ i.1 ≠ 11 ∧ i.1 ≠ 20) ∨ (q = i.2.1 ∧ (i.1 = 11 ∨ i.1 = 12))) :
      Twin h sd fn cd fx fy cls name pos st lf lg i (⟨h', fx.dropLast ++ [⟨cls, name, q, s', l1⟩], sd', fn, cd⟩, 0) (⟨h', fy.dropLast ++ [⟨cls, name, q, s', l2⟩], sd', fn, cd⟩, 0)
  | call (s' : List Vl) (g : Fr) (h17 : i.1 = 17) (hg : g.loc.length = 8) :
      Twin h sd fn cd fx fy cls name pos st lf lg i (⟨h, (fx.dropLast ++ [⟨cls, name, pos, s', lf⟩]) ++ [g], sd, fn, cd⟩, 0) (⟨h, (fy.dropLast ++ [⟨cls, name, pos, s', lg⟩]) ++ [g], sd, fn, cd⟩, 0)
  | give (b b' : Fr) (v : Vl) (h20 : i.1 = 20) (hx : fx.dropLast.getLast? = some b) (hy : fy.dropLast.getLast? = some b') :
      Twin h sd fn cd fx fy cls name pos st lf lg i (⟨h, fx.dropLast.dropLast ++ [{ b with stk := b.stk ++ [v], pos := b.pos + 1 }], sd, fn, cd⟩, 0) (⟨h, fy.dropLast.dropLast ++ [{ b' with stk := b'.stk ++ [v], pos := b'.pos + 1 }], sd, fn, cd⟩, 0)
section
variable (p : Prg) (h : List Ob) (sd : List Int) (fn cd : Int) (fx fy : List Fr) (cls name pos : Int) (st : List Vl) (lf lg : List Vl)
theorem twin_give (i : Tx.Ins) (h20 : i.1 = 20) (hb : ∀ b, fx.dropLast.getLast? = some b → ∃ b', fy.dropLast.getLast? = some b' ∧ b'.stk = b.stk) (hn : fx.dropLast.getLast? = none → fy.dropLast.getLast? = none) (v : Vl) :
    Twin h sd fn cd fx fy cls name pos st lf lg i (giveS ⟨h, fx, sd, fn, cd⟩ v) (giveS ⟨h, fy, sd, fn, cd⟩ v) := by
  unfold giveS
  dsimp only
  cases hx : fx.dropLast.getLast? with
  | none =>
    rw [hn hx]
    exact .gave _ (List.getLast?_eq_none_iff.1 hx) (List.getLast?_eq_none_iff.1 (hn hx))
  | some b =>
    obtain ⟨b', hy, hs⟩ := hb b hx
    rw [hy]
    dsimp only
    rw [hs]
    split
    · exact .ends _ (by decide)
    · have := Twin.give (h := h) (sd := sd) (fn := fn) (cd := cd) (cls := cls) (name := name) (pos := pos) (st := st) (lf := lf) (lg := lg) (i := i) b b' v h20 hx hy
      rw [hs] at this
      exact this
theorem twin_call (hlen : fx.length = fy.length) (hs8 : st.length ≤ 8) (i : Tx.Ins) (h17 : i.1 = 17) : Twin h sd fn cd fx fy cls name pos st lf lg i (callS p ⟨h, fx, sd, fn, cd⟩ ⟨cls, name, pos, st, lf⟩ i.2.1 i.2.2) (callS p ⟨h, fy, sd, fn, cd⟩ ⟨cls, name, pos, st, lg⟩ i.2.1 i.2.2) := by
  unfold callS
  dsimp only
  cases methS p (selF p i.2.1 i.2.2) i.2.2 with
  | none => exact .ends _ (by decide)
  | some own =>
    dsimp only
    rw [hlen]
    by_cases c0 : (p.length : Int) ≤ i.2.1
    · rw [if_pos c0, if_pos c0]; exact .ends _ (by decide)
    rw [if_neg c0, if_neg c0]
    by_cases c1 : st.length < own.args.length + 1 ∨ 8 < st.length - own.args.length
    · rw [if_pos c1, if_pos c1]; exact .ends _ (by decide)
    rw [if_neg c1, if_neg c1]
    split
    · exact .ends _ (by decide)
    · split
      · exact .ends _ (by decide)
      · split
        · exact .ends _ (by decide)
        · split
          · exact .ends _ (by decide)
          · exact .call _ _ h17 (frmV_len (by rw [List.length_drop]; omega))
theorem twin_step (hlen : fx.length = fy.length) (hs8 : st.length ≤ 8) (own : Meth) (i : Tx.Ins) (h1 : 1 ≤ i.1) (h20 : i.1 ≤ 20) (hload : i.1 = 2 → (lf[i.2.1.toNat]?).getD (0, 0) = (lg[i.2.1.toNat]?).getD (0, 0)) (hb : ∀ b, fx.dropLast.getLast? = some b → ∃ b', fy.dropLast.getLast? = some b' ∧ b'.stk = b.stk) (hn : fx.dropLast.getLast? = none → fy.dropLast.getLast? = none) :
    Twin h sd fn cd fx fy cls name pos st lf lg i (stepI p ⟨h, fx, sd, fn, cd⟩ ⟨cls, name, pos, st, lf⟩ own i) (stepI p ⟨h, fy, sd, fn, cd⟩ ⟨cls, name, pos, st, lg⟩ own i) := by
  obtain ⟨op, A, B⟩ := i
  dsimp only at h1 h20 hload
  unfold stepI
  dsimp only
  by_cases hst : st.length < takesS op ∨ 8 < st.length - takesS op + putsS op
  · rw [if_pos hst, if_pos hst]; exact .ends _ (by decide)
  rw [if_neg hst, if_neg hst]
  by_cases e1 : op = 1
  · rw [if_pos e1, if_pos e1]
    exact .on _ _ _ _ _ _ (.inl ⟨(show op ≠ 3 by omega), rfl, rfl⟩) (.inl ⟨rfl, (show op ≠ 11 by omega), (show op ≠ 20 by omega)⟩)
  rw [if_neg e1, if_neg e1]
  by_cases e2 : op = 2
  · rw [if_pos e2, if_pos e2]
    rw [hload e2]
    exact .on _ _ _ _ _ _ (.inl ⟨(show op ≠ 3 by omega), rfl, rfl⟩) (.inl ⟨rfl, (show op ≠ 11 by omega), (show op ≠ 20 by omega)⟩)
  rw [if_neg e2, if_neg e2]
  by_cases e3 : op = 3
  · rw [if_pos e3, if_pos e3]
    exact .on _ _ _ _ _ _ (.inr ⟨e3, _, rfl, rfl⟩) (.inl ⟨rfl, (show op ≠ 11 by omega), (show op ≠ 20 by omega)⟩)
  rw [if_neg e3, if_neg e3]
  by_cases e4 : op = 4 ∨ op = 5 ∨ op = 6 ∨ op = 7
  · rw [if_pos e4, if_pos e4]
    split
    · exact .ends _ (by decide)
    · split
      · exact .ends _ (by decide)
      · exact .on _ _ _ _ _ _ (.inl ⟨(show op ≠ 3 by omega), rfl, rfl⟩) (.inl ⟨rfl, (show op ≠ 11 by omega), (show op ≠ 20 by omega)⟩)
  rw [if_neg e4, if_neg e4]
  by_cases e8 : op = 8
  · rw [if_pos e8, if_pos e8]
    exact .on _ _ _ _ _ _ (.inl ⟨(show op ≠ 3 by omega), rfl, rfl⟩) (.inl ⟨rfl, (show op ≠ 11 by omega), (show op ≠ 20 by omega)⟩)
  rw [if_neg e8, if_neg e8]
  by_cases e9 : op = 9
  · rw [if_pos e9, if_pos e9]
    exact .on _ _ _ _ _ _ (.inl ⟨(show op ≠ 3 by omega), rfl, rfl⟩) (.inl ⟨rfl, (show op ≠ 11 by omega), (show op ≠ 20 by omega)⟩)
  rw [if_neg e9, if_neg e9]
  by_cases e10 : op = 10
  · rw [if_pos e10, if_pos e10]
    exact .on _ _ _ _ _ _ (.inl ⟨(show op ≠ 3 by omega), rfl, rfl⟩) (.inl ⟨rfl, (show op ≠ 11 by omega), (show op ≠ 20 by omega)⟩)
  rw [if_neg e10, if_neg e10]
  by_cases e11 : op = 11
  · rw [if_pos e11, if_pos e11]
    exact .on _ _ _ _ _ _ (.inl ⟨(show op ≠ 3 by omega), rfl, rfl⟩) (.inr ⟨rfl, .inl e11⟩)
  rw [if_neg e11, if_neg e11]
  by_cases e12 : op = 12
  · rw [if_pos e12, if_pos e12]
    split
    · exact .ends _ (by decide)
    · split
      · exact .on _ _ _ _ _ _ (.inl ⟨(show op ≠ 3 by omega), rfl, rfl⟩) (.inr ⟨rfl, .inr e12⟩)
      · exact .on _ _ _ _ _ _ (.inl ⟨(show op ≠ 3 by omega), rfl, rfl⟩) (.inl ⟨rfl, (show op ≠ 11 by omega), (show op ≠ 20 by omega)⟩)
  rw [if_neg e12, if_neg e12]
  by_cases e13 : op = 13
  · rw [if_pos e13, if_pos e13]
    exact .on _ _ _ _ _ _ (.inl ⟨(show op ≠ 3 by omega), rfl, rfl⟩) (.inl ⟨rfl, (show op ≠ 11 by omega), (show op ≠ 20 by omega)⟩)
  rw [if_neg e13, if_neg e13]
  by_cases e14 : op = 14
  · rw [if_pos e14, if_pos e14]
    split
    · exact .ends _ (by decide)
    · split
      · exact .ends _ (by decide)
      · exact .on _ _ _ _ _ _ (.inl ⟨(show op ≠ 3 by omega), rfl, rfl⟩) (.inl ⟨rfl, (show op ≠ 11 by omega), (show op ≠ 20 by omega)⟩)
  rw [if_neg e14, if_neg e14]
  by_cases e15 : op = 15
  · rw [if_pos e15, if_pos e15]
    split
    · exact .ends _ (by decide)
    · split
      · exact .ends _ (by decide)
      · split
        · exact .ends _ (by decide)
        · split
          · exact .ends _ (by decide)
          · exact .on _ _ _ _ _ _ (.inl ⟨(show op ≠ 3 by omega), rfl, rfl⟩) (.inl ⟨rfl, (show op ≠ 11 by omega), (show op ≠ 20 by omega)⟩)
  rw [if_neg e15, if_neg e15]
  by_cases e16 : op = 16
  · rw [if_pos e16, if_pos e16]
    split
    · exact .ends _ (by decide)
    · split
      · exact .ends _ (by decide)
      · split
        · exact .ends _ (by decide)
        · split
          · exact .ends _ (by decide)
          · exact .on _ _ _ _ _ _ (.inl ⟨(show op ≠ 3 by omega), rfl, rfl⟩) (.inl ⟨rfl, (show op ≠ 11 by omega), (show op ≠ 20 by omega)⟩)
  rw [if_neg e16, if_neg e16]
  by_cases e17 : op = 17
  · rw [if_pos e17, if_pos e17]
    exact twin_call p h sd fn cd fx fy cls name pos st lf lg hlen hs8 (op, A, B) e17
  rw [if_neg e17, if_neg e17]
  by_cases e18 : op = 18
  · rw [if_pos e18, if_pos e18]
    split
    · exact .ends _ (by decide)
    · exact .on _ _ _ _ _ _ (.inl ⟨(show op ≠ 3 by omega), rfl, rfl⟩) (.inl ⟨rfl, (show op ≠ 11 by omega), (show op ≠ 20 by omega)⟩)
  rw [if_neg e18, if_neg e18]
  by_cases e19 : op = 19
  · rw [if_pos e19, if_pos e19]
    split
    · exact .ends _ (by decide)
    · exact .on _ _ _ _ _ _ (.inl ⟨(show op ≠ 3 by omega), rfl, rfl⟩) (.inl ⟨rfl, (show op ≠ 11 by omega), (show op ≠ 20 by omega)⟩)
  rw [if_neg e19, if_neg e19]
  split
  · exact .ends _ (by decide)
  · exact twin_give h sd fn cd fx fy cls name pos st lf lg (op, A, B) (show op = 20 by omega) hb hn _
end
/-- Two frames that are alike but for what is not live. -/
structure SimF (a : List Tx.Ins) (f g : Fr) : Prop where
  eq : g = { f with loc := g.loc }
  l1 : f.loc.length = 8
  l2 : g.loc.length = 8
  lv : ∀ v, v < 8 → 0 ≤ f.pos → f.pos < (a.length : Int) → lvB a f.pos.toNat v = true → f.loc[v]? = g.loc[v]?
structure Sim (a : List Tx.Ins) (x y : Mc) : Prop where
  heap : y.heap = x.heap
  said : y.said = x.said
  fin : y.fin = x.fin
  code : y.code = x.code
  len : x.frames.length = y.frames.length
  fr : ∀ (i : Nat) f g, x.frames[i]? = some f → y.frames[i]? = some g → SimF a f g
theorem frames_snoc {a : List Tx.Ins} {u v : List Fr} {f g : Fr} (hl : u.length = v.length) (h : ∀ (i : Nat) x y, u[i]? = some x → v[i]? = some y → SimF a x y) (hfg : SimF a f g) : (u ++ [f]).length = (v ++ [g]).length ∧ ∀ (i : Nat) x y, (u ++ [f])[i]? = some x → (v ++ [g])[i]? = some y → SimF a x y := by
  refine ⟨by simp [hl], fun i x y hx hy => ?_⟩
  rcases Nat.lt_or_ge i u.length with hi | hi
  · rw [List.getElem?_append_left hi] at hx
    rw [List.getElem?_append_left (by omega)] at hy
    exact h i x y hx hy
  · rw [List.getElem?_append_right hi] at hx
    rw [List.getElem?_append_right (by omega)] at hy
    have e : i - u.length = i - v.length := by omega
    rw [← e] at hy
    cases hq : i - u.length with
    | zero =>
      rw [hq] at hx hy
      simp at hx hy
      subst hx hy
      exact hfg
    | succ q => rw [hq] at hx; simp at hx
theorem drop_at {α : Type} {l : List α} {i : Nat} {x : α} (h : l.dropLast[i]? = some x) : l[i]? = some x := by
  rw [List.getElem?_dropLast] at h
  split at h
  · exact h
  · simp at h
theorem sim_step {a : List Tx.Ins} (hok : Lay.codeOk a = true) {x y : Mc} (hw : WayI a x) (hm : machB x = true) (hs : Sim a x y) : (stepS (mainP a) x).2 = (stepS (mainP a) y).2 ∧ Sim a (stepS (mainP a) x).1 (stepS (mainP a) y).1 := by
  have h40 := (Lay.ok_len hok).2
  obtain ⟨h, fx, sd, fn, cd⟩ := x
  obtain ⟨h', fy, sd', fn', cd'⟩ := y
  have e1 := hs.heap
  have e2 := hs.said
  have e3 := hs.fin
  have e4 := hs.code
  have hlen := hs.len
  have hfr := hs.fr
  dsimp only at e1 e2 e3 e4 hlen hfr
  subst e1 e2 e3 e4
  cases hx : fx.getLast? with
  | none =>
    have hx0 := List.getLast?_eq_none_iff.1 hx
    subst hx0
    have hy0 : fy = [] := List.length_eq_zero_iff.1 (by simpa using hlen.symm)
    subst hy0
    exact ⟨rfl, hs⟩
  | some f =>
    have hxs := last_split hx
    cases hy : fy.getLast? with
    | none =>
      have hy0 := List.getLast?_eq_none_iff.1 hy
      subst hy0
      have := congrArg List.length hxs
      simp at hlen this
      subst hlen
      simp at hx
    | some g =>
      have hys := last_split hy
      have hdl : fx.dropLast.length = fy.dropLast.length := by simp [hlen]
      have hfg : SimF a f g := by
        refine hfr fx.dropLast.length f g ?_ ?_
        · rw [hxs]; simp
        · rw [hys, hdl]; simp
      have hdr : ∀ (i : Nat) u v, fx.dropLast[i]? = some u → fy.dropLast[i]? = some v → SimF a u v := fun i u v hu hv => hfr i u v (drop_at hu) (drop_at hv)
      obtain ⟨cls, name, pos, st, lf⟩ := f
      have hge := hfg.eq
      obtain ⟨cls', name', pos', st', lg⟩ := g
      simp only [Fr.mk.injEq] at hge
      obtain ⟨rfl, rfl, rfl, rfl, _⟩ := hge
      have hfm : (⟨cls', name', pos', st', lf⟩ : Fr) ∈ fx := by rw [hxs]; simp
      obtain ⟨w1, w2, w3, w4⟩ := hw.all _ hfm
      have hs8 : st'.length ≤ 8 := by
        unfold machB at hm
        simp only [Bool.and_eq_true] at hm
        have := List.all_eq_true.1 hm.1.2 _ hfm
        unfold frB at this
        simp only [Bool.and_eq_true, decide_eq_true_eq] at this
        exact this.1.1.1
      unfold stepS
      dsimp only
      rw [hx, hy]
      dsimp only
      have ho : ownS (mainP a) ⟨cls', name', pos', st', lf⟩ = ownS (mainP a) ⟨cls', name', pos', st', lg⟩ := rfl
      rw [← ho]
      cases how : ownS (mainP a) ⟨cls', name', pos', st', lf⟩ with
      | none => exact ⟨rfl, hs⟩
      | some own =>
        obtain ⟨_, _, rfl⟩ := own_main how
        dsimp only
        by_cases hpo : pos' < 0 ∨ (a.length : Int) ≤ pos'
        · rw [if_pos hpo, if_pos hpo]; exact ⟨rfl, hs⟩
        rw [if_neg hpo, if_neg hpo]
        obtain ⟨k, hk⟩ := Int.eq_ofNat_of_zero_le (show 0 ≤ pos' by omega)
        have hkl : k < a.length := by omega
        have hkn : pos'.toNat = k := by omega
        have hi : (a[pos'.toNat]?).getD (0, 0, 0) = insF a k := by rw [hkn]; unfold insF; rw [List.getD_eq_getElem?_getD]
        rw [hi]
        have hop := Tx.ok_op (Lay.ok_at hok (ins_is hkl))
        have hbb : ∀ b, fx.dropLast.getLast? = some b → ∃ b', fy.dropLast.getLast? = some b' ∧ SimF a b b' := fun b hb => by
          have hbs := last_split hb
          cases hyb : fy.dropLast.getLast? with
          | none =>
            have := List.getLast?_eq_none_iff.1 hyb
            rw [this] at hdl
            have h2 := congrArg List.length hbs
            simp at hdl h2
            exfalso; omega
          | some b' =>
            have hbs' := last_split hyb
            refine ⟨b', rfl, hdr fx.dropLast.dropLast.length b b' ?_ ?_⟩
            · rw [hbs]; simp
            · have e : fx.dropLast.dropLast.length = fy.dropLast.dropLast.length := by simp [hlen]
              rw [hbs', e]; simp
        have hbn : fx.dropLast.getLast? = none → fy.dropLast.getLast? = none := fun hb => by
          have := List.getLast?_eq_none_iff.1 hb
          rw [this] at hdl
          exact List.getLast?_eq_none_iff.2 (List.length_eq_zero_iff.1 (by simpa using hdl.symm))
        have hload : (insF a k).1 = 2 → (lf[(insF a k).2.1.toNat]?).getD (0, 0) = (lg[(insF a k).2.1.toNat]?).getD (0, 0) := fun h2 => by
          have hA := local_ok hok hkl (.inl h2)
          have := hfg.lv (insF a k).2.1.toNat (by omega) (by dsimp only; omega) (by dsimp only; omega) (by dsimp only; rw [hkn]; exact live_load hkl (by omega) ⟨h2, by omega⟩)
          dsimp only at this
          rw [this]
        have htw := twin_step (mainP a) h' sd' fn' cd' fx fy cls' name' pos' st' lf lg hlen hs8 ⟨0, [], -1, a⟩ (insF a k) hop.1 hop.2 hload (fun b hb => by obtain ⟨b', h1, h2⟩ := hbb b hb; exact ⟨b', h1, by rw [h2.eq]⟩) hbn
        generalize stepI (mainP a) ⟨h', fx, sd', fn', cd'⟩ ⟨cls', name', pos', st', lf⟩ ⟨0, [], -1, a⟩ (insF a k) = r at *
        generalize stepI (mainP a) ⟨h', fy, sd', fn', cd'⟩ ⟨cls', name', pos', st', lg⟩ ⟨0, [], -1, a⟩ (insF a k) = s at *
        have hl1 := hfg.l1
        have hl2 := hfg.l2
        have hlv := hfg.lv
        dsimp only at hl1 hl2 hlv
        cases htw with
        | ends e he => exact ⟨rfl, hs⟩
        | gave c h1 h2 => exact ⟨rfl, ⟨rfl, rfl, rfl, rfl, rfl, fun i u v hu _ => by simp at hu⟩⟩
        | on hh ss l1 l2 s' q hl hp =>
          have hsim : SimF a ⟨cls', name', q, s', l1⟩ ⟨cls', name', q, s', l2⟩ := by
            refine ⟨rfl, ?_, ?_, fun v hv hq0 hql hlive => ?_⟩
            · rcases hl with ⟨_, rfl, _⟩ | ⟨_, t, rfl, _⟩
              · exact hl1
              · simpa using hl1
            · rcases hl with ⟨_, _, rfl⟩ | ⟨_, t, _, rfl⟩
              · exact hl2
              · simpa using hl2
            · dsimp only at hq0 hql hlive ⊢
              have hnx : nxB a k q.toNat = true := by
                rcases hp with ⟨hp, h11, h20⟩ | ⟨hp, hj⟩
                · rw [show q.toNat = k + 1 by omega]; exact nx_next (by omega) h11 h20
                · rw [hp]; exact nx_jump hok hkl hj
              have hold : ¬ ((insF a k).1 = 3 ∧ (insF a k).2.1 = (v : Int)) → lf[v]? = lg[v]? := fun hne => hlv v hv (by omega) (by omega) (by rw [hkn]; exact live_next h40 hkl hv hnx hlive hne)
              rcases hl with ⟨h3, rfl, rfl⟩ | ⟨h3, t, rfl, rfl⟩
              · exact hold fun e => h3 e.1
              · have hA := local_ok hok hkl (.inr h3)
                rw [List.getElem?_set, List.getElem?_set]
                by_cases e : (insF a k).2.1.toNat = v
                · rw [if_pos e, if_pos e, hl1, hl2]
                · rw [if_neg e, if_neg e]
                  exact hold fun e' => e (by omega)
          obtain ⟨q1, q2⟩ := frames_snoc hdl hdr hsim
          exact ⟨rfl, ⟨rfl, rfl, rfl, rfl, q1, q2⟩⟩
        | call s' g h17 hg =>
          have hs1 : SimF a ⟨cls', name', pos', s', lf⟩ ⟨cls', name', pos', s', lg⟩ := ⟨rfl, hl1, hl2, hlv⟩
          obtain ⟨q1, q2⟩ := frames_snoc hdl hdr hs1
          obtain ⟨q3, q4⟩ := frames_snoc q1 q2 (show SimF a g g from ⟨rfl, hg, hg, fun _ _ _ _ _ => rfl⟩)
          exact ⟨rfl, ⟨rfl, rfl, rfl, rfl, q3, q4⟩⟩
        | give b b' v h20 hbx hby =>
          obtain ⟨b2, hb2, hsb⟩ := hbb b hbx
          rw [hby] at hb2
          injection hb2 with hb2
          subst hb2
          have hbm : b ∈ fx.dropLast := by rw [last_split hbx]; simp
          obtain ⟨v1, v2⟩ := hw.low b hbm
          obtain ⟨u1, u2, u3, u4⟩ := hw.all b (mem_dropLast hbm)
          have hsq : SimF a { b with stk := b.stk ++ [v], pos := b.pos + 1 } { b' with stk := b'.stk ++ [v], pos := b'.pos + 1 } := by
            have hbe := hsb.eq
            refine ⟨?_, hsb.l1, hsb.l2, fun w hw' hq0 hql hlive => ?_⟩
            · rw [hbe]
            · dsimp only at hq0 hql hlive ⊢
              have hnx : nxB a b.pos.toNat (b.pos + 1).toNat = true := by
                rw [show (b.pos + 1).toNat = b.pos.toNat + 1 by omega]
                exact nx_next (by omega) (by rw [v2]; decide) (by rw [v2]; decide)
              exact hsb.lv w hw' u3 v1 (live_next h40 (by omega) hw' hnx hlive fun e => by rw [v2] at e; exact absurd e.1 (by decide))
          have hddl : fx.dropLast.dropLast.length = fy.dropLast.dropLast.length := by simp [hlen]
          obtain ⟨q1, q2⟩ := frames_snoc hddl (fun i u v hu hv => hdr i u v (drop_at hu) (drop_at hv)) hsq
          exact ⟨rfl, ⟨rfl, rfl, rfl, rfl, q1, q2⟩⟩
end Pg
end Go.Proofs.Ytffkkhaiedhaiaa

/- Contracts: both sides' Straight. -/
namespace Go.Proofs.Ytffkkhaiedhaiaa
namespace Pg
open Go.ChangeShapes Go.WideShapes Go.ChangeAt Go.RowKit St

end Pg
end Go.Proofs.Ytffkkhaiedhaiaa

/- Contracts: what is reached: both sides' Reached. -/
namespace Go.Proofs.Ytffkkhaiedhaiaa
namespace Pg
open Go.ChangeShapes Go.WideShapes Go.ChangeAt Go.RowKit St

theorem rise_sub : ∀ (r l : List Int), Rise l → Rise r → (∀ x ∈ l, x ∈ r) → l.Sublist r
  | _, [], _, _, _ => List.nil_sublist _
  | [], x :: l, _, _, h => absurd (h x List.mem_cons_self) (by simp)
  | y :: r, x :: l, hl, hr, h => by
    obtain ⟨a1, b1⟩ := List.pairwise_cons.1 hl
    obtain ⟨a2, b2⟩ := List.pairwise_cons.1 hr
    rcases List.mem_cons.1 (h x List.mem_cons_self) with e | e
    · subst e
      refine List.Sublist.cons_cons x (rise_sub r l b1 b2 fun z hz => ?_)
      rcases List.mem_cons.1 (h z (List.mem_cons_of_mem _ hz)) with e | e
      · have := a1 z hz; omega
      · exact e
    · have hyx := a2 x e
      refine (rise_sub r (x :: l) hl b2 fun z hz => ?_).cons y
      rcases List.mem_cons.1 (h z hz) with e' | e'
      · rcases List.mem_cons.1 hz with e2 | e2
        · omega
        · have := a1 z e2; omega
      · exact e'
theorem rise_len : ∀ (l : List Int) (a b : Int), Rise l → (∀ x ∈ l, a ≤ x ∧ x < b) → a ≤ b → (l.length : Int) ≤ b - a
  | [], a, b, _, _, hab => by simp; omega
  | x :: l, a, b, h, hx, _ => by
    obtain ⟨h1, h2⟩ := List.pairwise_cons.1 h
    have hxx := hx x List.mem_cons_self
    have := rise_len l (x + 1) b h2 (fun z hz => ⟨by have := h1 z hz; omega, (hx z (List.mem_cons_of_mem _ hz)).2⟩) (by omega)
    simp only [List.length_cons]
    omega
theorem put_take : ∀ {l : List Int} {n x : Int} {i : Nat}, Rise l → x ∈ (putL l n).take i → x ∈ l.take i ∨ (x = n ∧ n ∉ l)
  | [], n, x, i, _, h => by
    have := List.mem_of_mem_take h
    simp [putL] at this
    exact .inr ⟨this, by simp⟩
  | y :: l, n, x, 0, _, h => by simp at h
  | y :: l, n, x, i + 1, hr, h => by
    obtain ⟨h1, h2⟩ := List.pairwise_cons.1 hr
    unfold putL at h
    split at h
    · rename_i hy
      rw [List.take_succ_cons, List.mem_cons] at h
      rw [List.take_succ_cons, List.mem_cons, List.mem_cons]
      rcases h with h | h
      · exact .inl (.inl h)
      · rcases put_take h2 h with h | ⟨h, h'⟩
        · exact .inl (.inr h)
        · refine .inr ⟨h, fun e => ?_⟩
          rcases e with e | e
          · omega
          · exact h' e
    · split at h
      · exact .inl h
      · rename_i hy1 hy2
        rw [List.take_succ_cons, List.mem_cons] at h
        rcases h with h | h
        · refine .inr ⟨h, fun e => ?_⟩
          rcases List.mem_cons.1 e with e | e
          · omega
          · have := h1 n e; omega
        · exact .inl ((List.take_subset_take_left (y :: l) (Nat.le_succ i)) h)
theorem puts_take : ∀ (m : List Int) {l : List Int} {x : Int} {i : Nat}, Rise l → x ∈ (m.foldl putL l).take i → x ∈ l.take i ∨ x ∉ l
  | [], l, x, i, _, h => .inl h
  | n :: m, l, x, i, hr, h => by
    rw [List.foldl_cons] at h
    rcases puts_take m (putL_rise hr n) h with h | h
    · rcases put_take hr h with h | ⟨h, h'⟩
      · exact .inl h
      · rw [h]; exact .inr h'
    · exact .inr fun e => h (mem_putL.2 (.inl e))
/-- Where the specification stands: a list of some that are reached. -/
structure StR (code : List Tx.Ins) (out : List Int) : Prop where
  rise : Rise out
  zero : (0 : Int) ∈ out
  sub : ∀ x ∈ out, ∃ j : Nat, Rch code j ∧ x = (j : Int)
def ClosedL (code : List Tx.Ins) (out : List Int) : Prop := ∀ a : Nat, (a : Int) ∈ out → ∀ j, nxB code a j = true → (j : Int) ∈ out
structure MidR (code : List Tx.Ins) (o out : List Int) (i : Nat) : Prop where
  st : StR code out
  up : ∀ x ∈ o, x ∈ out
  done : ∀ a : Nat, (a : Int) ∈ o → (a : Int) ∈ out.take i → ∀ j, nxB code a j = true → (j : Int) ∈ out
theorem StR.len {code : List Tx.Ins} (hok : Lay.codeOk code = true) {out : List Int} (h : StR code out) : out.length ≤ code.length := by
  have := rise_len out 0 code.length h.rise (fun x hx => by
    obtain ⟨j, hj, rfl⟩ := h.sub x hx
    have := hj.lt (Lay.ok_len hok).1
    omega) (by omega)
  omega
theorem StR.start (code : List Tx.Ins) : StR code [0] := ⟨by simp, by simp, fun x hx => ⟨0, .zero, by simpa using hx⟩⟩
theorem MidR.start {code : List Tx.Ins} {out : List Int} (h : StR code out) : MidR code out out 0 := ⟨h, fun _ h => h, fun a _ h => by simp at h⟩
theorem MidR.step {code : List Tx.Ins} (hok : Lay.codeOk code = true) {o out : List Int} {i : Nat} (h : MidR code o out i) (hi : i < out.length) {c : Nat} (hc : out[i] = (c : Int)) :
    MidR code o ((nextsF code c).foldl putL out) (i + 1) := by
  have hcm : (c : Int) ∈ out := by rw [← hc]; exact List.getElem_mem hi
  obtain ⟨c', hrc, he⟩ := h.st.sub _ hcm
  obtain rfl : c = c' := by omega
  have hcl := hrc.lt (Lay.ok_len hok).1
  obtain ⟨hr, hm⟩ := foldl_put (nextsF code c) out h.st.rise
  refine ⟨⟨hr, (hm 0).2 (.inr h.st.zero), fun x hx => ?_⟩, fun x hx => (hm x).2 (.inr (h.up x hx)), fun a ha ht j hj => ?_⟩
  · rcases (hm x).1 hx with hx | hx
    · obtain ⟨j, h1, rfl⟩ := (nextsF_mem hok hcl x).1 hx
      exact ⟨j, .step hrc h1, rfl⟩
    · exact h.st.sub x hx
  · rcases puts_take _ h.st.rise ht with ht | ht
    · rw [List.take_succ_eq_append_getElem hi, List.mem_append, List.mem_singleton] at ht
      rcases ht with ht | ht
      · exact (hm _).2 (.inr (h.done a ha ht j hj))
      · rw [hc] at ht
        obtain rfl : a = c := by omega
        exact (hm _).2 (.inl ((nextsF_mem hok hcl _).2 ⟨j, hj, rfl⟩))
    · exact absurd (h.up _ ha) ht
theorem closed_all {code : List Tx.Ins} {out : List Int} (h : StR code out) (hc : ClosedL code out) {j : Nat} (hj : Rch code j) : (j : Int) ∈ out :=
  Rch.least (S := fun j => (j : Int) ∈ out) h.zero hc hj
/-- A round more. -/
theorem MidR.ends {code : List Tx.Ins} {o out : List Int} {i k : Nat} (h : MidR code o out i) (hi : ¬ i < out.length) (hs : StR code o) (hk : ClosedL code o ∨ k < o.length) : ClosedL code out ∨ k + 1 < out.length := by
  have hsub := rise_sub out o hs.rise h.st.rise h.up
  have hle := hsub.length_le
  have hdone : ∀ a : Nat, (a : Int) ∈ o → ∀ j, nxB code a j = true → (j : Int) ∈ out := fun a ha j hj => h.done a ha (by rw [List.take_of_length_le (by omega)]; exact h.up _ ha) j hj
  rcases Nat.lt_or_ge o.length out.length with hl | hl
  · rcases hk with hk | hk
    · left
      intro a ha j hj
      obtain ⟨a', hra, e⟩ := h.st.sub _ ha
      obtain rfl : a = a' := by omega
      exact h.up _ (closed_all hs hk (.step hra hj))
    · right; omega
  · have e := hsub.eq_of_length (by omega)
    left
    intro a ha
    exact hdone a (by rw [e]; exact ha)
theorem StR.ends {code : List Tx.Ins} (hok : Lay.codeOk code = true) {out : List Int} (h : StR code out) (hc : ClosedL code out ∨ code.length < out.length) : out = risL (rchB code) 40 := by
  have hl := Lay.ok_len hok
  have hcl : ClosedL code out := by
    rcases hc with hc | hc
    · exact hc
    · have := h.len hok; omega
  refine rise_ext h.rise (risL_rise _ _) fun x => ?_
  rw [risL_mem]
  constructor
  · intro hx
    obtain ⟨j, hj, rfl⟩ := h.sub x hx
    exact ⟨j, by have := hj.lt hl.1; omega, rchB_iff.2 hj, rfl⟩
  · rintro ⟨j, _, hj, rfl⟩
    exact closed_all h hcl (rchB_iff.1 hj)
end Pg
end Go.Proofs.Ytffkkhaiedhaiaa
