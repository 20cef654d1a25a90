/- Rows of what is known, in memory. -/
import Derived.Test.YtffkkhaiedhaiaaJKp0
import Derived.Test.YtffkkhaiedhaiaaJGr0
import Derived.Test.YtffkkhaiedhaiaaJSu0
import Derived.Lib.QuietBelow
import Derived.BigQuiet
import Derived.Deep.Cut
namespace Go.Proofs.Ytffkkhaiedhaiaa
namespace Pg
open Go.ChangeShapes Go.WideShapes Go.ChangeAt Go.RowKit St Wd

def rowL (K : Kw) (i : Nat) : List Int := (List.range 8).map fun j => (K i j).getD 0
theorem rowL_len (K : Kw) (i : Nat) : (rowL K i).length = 8 := by simp [rowL]
theorem rowL_at (K : Kw) (i : Nat) {j : Nat} (hj : j < 8) : (rowL K i)[j]? = some ((K i j).getD 0) := by simp [rowL, hj]
def slcK (K : Kw) (f cp : Nat → Nat) (i : Nat) : Value := if K i 0 = none then .slice none 0 0 else .slice (some ⟨f i, 0, none⟩) 8 (cp i)
def cellsG (K : Kw) (f cp : Nat → Nat) (n : Nat) : List Value := (List.range n).map fun i => slcK K f cp i
theorem cellsG_at (K : Kw) (f cp : Nat → Nat) {n i : Nat} (hi : i < n) : (cellsG K f cp n)[i]? = some (slcK K f cp i) := by simp [cellsG, hi]
/-- The rows lie in blocks of their own. -/
def RowsK (B : Nat) (w : World) (G n : Nat) (K : Kw) (f cp : Nat → Nat) : Prop :=
  Cells w G (cellsG K f cp n) ∧ G < w.heap.size ∧ (∀ i, i < n → K i 0 ≠ none → B ≤ f i ∧ f i < w.heap.size ∧ f i ≠ G ∧ Cells w (f i) (nums (rowL K i))) ∧
    ∀ i i', i < n → i' < n → K i 0 ≠ none → K i' 0 ≠ none → f i = f i' → i = i'
theorem RowsK.on {B : Nat} {u w : World} {G n : Nat} {K : Kw} {f cp : Nat → Nat} (h : RowsK B u G n K f cp) (hb : Below u.heap.size u w) : RowsK B w G n K f cp := by
  obtain ⟨h1, h3, h4, h5⟩ := h
  refine ⟨h1.on hb, Nat.lt_of_lt_of_le h3 hb.size, fun i hi hk => ?_, h5⟩
  obtain ⟨g1, g2, g3, g4⟩ := h4 i hi hk
  exact ⟨g1, Nat.lt_of_lt_of_le g2 hb.size, g3, g4.on hb⟩
/-- One word of one row is written anew. -/
theorem RowsK.setEl {B : Nat} {w : World} {G n : Nat} {K : Kw} {f cp : Nat → Nat} (h : RowsK B w G n K f cp) {t j : Nat} (ht : t < n) (hr : K t 0 ≠ none) (hj : j < 8) (hj0 : K t j ≠ none) (x : Int) :
    RowsK B (w.setCell ⟨f t, j, none⟩ (.int .i64 x)) G n (setK K t j x) f cp := by
  obtain ⟨h1, h3, h4, h5⟩ := h
  obtain ⟨g1, g2, g3, g4⟩ := h4 t ht hr
  have hn : ∀ i, (setK K t j x i 0 = none) ↔ (K i 0 = none) := fun i => by
    unfold setK
    split
    · rename_i e; obtain ⟨rfl, rfl⟩ := e; simp [hr]
    · rfl
  have hc : cellsG (setK K t j x) f cp n = cellsG K f cp n := by
    unfold cellsG slcK
    exact List.map_congr_left fun i _ => by simp only [hn]
  refine ⟨?_, by simpa using h3, fun i hi hk => ?_, fun i i' hi hi' hk hk' => h5 i i' hi hi' (fun e => hk ((hn i).2 e)) (fun e => hk' ((hn i').2 e))⟩
  · rw [hc]
    exact h1.far _ _ (by simpa using g3)
  · have hk' : K i 0 ≠ none := fun e => hk ((hn i).2 e)
    obtain ⟨q1, q2, q3, q4⟩ := h4 i hi hk'
    refine ⟨q1, by simpa using q2, q3, ?_⟩
    by_cases e : i = t
    · subst e
      have := g4.set j (.int .i64 x)
      have he : (nums (rowL K i)).set j (.int .i64 x) = nums (rowL (setK K i j x) i) := by
        apply List.ext_getElem?
        intro p
        rw [List.getElem?_set]
        simp only [nums, List.length_map, rowL_len, List.getElem?_map]
        by_cases hp : p < 8
        · rw [rowL_at _ _ hp, rowL_at _ _ hp]
          by_cases e2 : j = p
          · subst e2; simp [setK, hp]
          · have : ¬ p = j := fun h => e2 h.symm
            simp [setK, this, e2]
        · have h1 : (rowL K i)[p]? = none := List.getElem?_eq_none (by rw [rowL_len]; omega)
          have h2 : (rowL (setK K i j x) i)[p]? = none := List.getElem?_eq_none (by rw [rowL_len]; omega)
          have h3 : ¬ j = p := by omega
          simp [h1, h2, h3]
      rw [← he]
      exact this
    · have he : rowL (setK K t j x) i = rowL K i := by
        unfold rowL setK
        exact List.map_congr_left fun p _ => by simp [e]
      rw [he]
      exact q4.far _ _ (by simpa using fun h => e (h5 i t hi ht hk' hr h.symm))
/-- A new row is put where there was none. -/
theorem RowsK.setRow {B : Nat} {w : World} {G n : Nat} {K : Kw} {f cp : Nat → Nat} (h : RowsK B w G n K f cp) {t : Nat} (ht : t < n) (hr : K t 0 = none) (g c : Nat) (hB : B ≤ g) (hg : g < w.heap.size) (hgG : g ≠ G) (hgf : ∀ i, i < n → K i 0 ≠ none → f i ≠ g)
    (K' : Kw) (hK1 : ∀ a b, a ≠ t → K' a b = K a b) (hK2 : K' t 0 ≠ none) (hc : Cells w g (nums (rowL K' t))) :
    RowsK B (w.setCell ⟨G, t, none⟩ (.slice (some ⟨g, 0, none⟩) 8 c)) G n K' (fun a => if a = t then g else f a) (fun a => if a = t then c else cp a) := by
  obtain ⟨h1, h3, h4, h5⟩ := h
  have hn : ∀ i, i ≠ t → (K' i 0 ≠ none → K i 0 ≠ none) := fun i hi => by rw [hK1 i 0 hi]; exact id
  refine ⟨?_, by simpa using h3, fun i hi hk => ?_, fun i i' hi hi' hk hk' e => ?_⟩
  · have := h1.set t (.slice (some ⟨g, 0, none⟩) 8 c)
    have he : (cellsG K f cp n).set t (.slice (some ⟨g, 0, none⟩) 8 c) = cellsG K' (fun a => if a = t then g else f a) (fun a => if a = t then c else cp a) n := by
      apply List.ext_getElem?
      intro p
      rw [List.getElem?_set]
      by_cases hp : p < n
      · by_cases e : t = p
        · subst e
          have : (cellsG K f cp n).length = n := by simp [cellsG]
          rw [if_pos rfl, this, if_pos hp, cellsG_at _ _ _ hp]
          simp [slcK, hK2]
        · rw [if_neg e, cellsG_at _ _ _ hp, cellsG_at _ _ _ hp]
          have e' : ¬ p = t := fun h => e h.symm
          simp [slcK, hK1 p 0 e', e']
      · have l1 : (cellsG K f cp n).length = n := by simp [cellsG]
        have a1 : (cellsG K f cp n)[p]? = none := List.getElem?_eq_none (by rw [l1]; omega)
        have a2 : (cellsG K' (fun a => if a = t then g else f a) (fun a => if a = t then c else cp a) n)[p]? = none := List.getElem?_eq_none (by simp [cellsG]; omega)
        have e : ¬ t = p := by omega
        rw [a1, a2, if_neg e]
    rw [← he]
    exact this
  · by_cases e : i = t
    · subst e
      simp only [if_true]
      exact ⟨hB, by simpa using hg, hgG, hc.far _ _ (by simpa using fun h => hgG h.symm)⟩
    · simp only [if_neg e]
      obtain ⟨q1, q2, q3, q4⟩ := h4 i hi (hn i e hk)
      refine ⟨q1, by simpa using q2, q3, ?_⟩
      have he : rowL K' i = rowL K i := by unfold rowL; exact List.map_congr_left fun p _ => by rw [hK1 i p e]
      rw [he]
      exact q4.far _ _ (by simpa using fun h => q3 h.symm)
  · dsimp only at e
    by_cases e1 : i = t
    · by_cases e2 : i' = t
      · rw [e1, e2]
      · rw [if_pos e1, if_neg e2] at e
        exact absurd e.symm (hgf i' hi' (hn i' e2 hk'))
    · by_cases e2 : i' = t
      · rw [if_neg e1, if_pos e2] at e
        exact absurd e (hgf i hi (hn i e1 hk))
      · rw [if_neg e1, if_neg e2] at e
        exact h5 i i' hi hi' (hn i e1 hk) (hn i' e2 hk') e
theorem cells_of_gint {w : World} {g : Nat} {l : List Int} (hi : IRow w g 0 l) (hr : Room w g l.length) : Cells w g (nums l) := fun i x hx => by
  unfold nums at hx
  rw [List.getElem?_map] at hx
  cases e : l[i]? with
  | none => rw [e] at hx; simp at hx
  | some v =>
    rw [e] at hx
    simp at hx
    subst hx
    have h1 := hi i v e
    rw [Nat.zero_add] at h1
    exact ⟨h1, (hr i (List.getElem?_eq_some_iff.1 e).1).2⟩
set_option maxRecDepth 100000 in
set_option maxHeartbeats 1000000 in
theorem l10All_at (w : World) : Calls Try.prog 97 #[] w fun e w' => ∃ v, e = .returned v ∧ Grow w.heap.size w' v (List.replicate 8 UnK) ∧ Below w.heap.size w w' := by
  have H0 : Hid (Grow w.heap.size (w.alloc (.cells #[] 2)) (.slice (some ⟨w.heap.size, 0, none⟩) 0 0) []) := grow_start w
  obtain ⟨i0, hif, hz0, hz1, hz2⟩ := info_parts infoN
  go_enter Try.func97, Try.ntmps97
  go_wp2
  go_loopw [2, 1] (fun i v wr => ∃ k : Nat, k ≤ 8 ∧ i = .int .i64 (k : Int) ∧ Hid (Grow w.heap.size wr v (List.replicate k UnK)) ∧ Below w.heap.size w wr) (fun i _ _ => 8 - (intOf i).toNat)
  case atStart => exact ⟨0, by omega, rfl, H0.out, (Below.refl _ _).alloc (Nat.le_refl _) _⟩
  case round =>
    obtain ⟨k, hk, rfl, hg, hb⟩ := hrel
    by_cases hlt : k < 8
    · have hki : (k : Int) < 8 := by omega
      obtain ⟨gq, cq, hv, _⟩ := hg.out.gint
      rw [List.length_replicate] at hv
      subst hv
      have HG1 : Hid ((wr.alloc (.cells #[.int .i64 1099511627776] 2)).ownsRow w.heap.size 2 1 (.slice (some ⟨gq, 0, none⟩) k cq) k (nums (List.replicate k UnK))) := by
        have := hg.out.1.alloc (.cells #[.int .i64 1099511627776] 2)
        rw [List.length_replicate] at this
        exact this
      have hbs := hb.size
      go_wp2_with (at_builtin; refine wpList_append_own _ rfl _ _ 27 rfl w.heap.size 2 i0 (.int .i64 0) 1 8 Try.underlying27 hif hz0 hz1 hz2 rfl (by decide) _ _ _ rfl HG1.out ⟨wr.heap.size, 0, none⟩ 1 1 [.int .i64 1099511627776] rfl rfl (cell_one_new _ _ _) (by simp [Value.oneCell']) (by unfold maxLen; omega) (by omega) (by simp; omega) ?_; intro v' w2 hown hgrow hnil)
      have HG2 : Hid (Grow w.heap.size w2 v' (List.replicate (k + 1) UnK)) := by
        refine ⟨?_, fun e => by simp [e] at hnil⟩
        have e1 : nums (List.replicate (k + 1) UnK) = nums (List.replicate k UnK) ++ [.int .i64 1099511627776] := by
          rw [List.replicate_succ']; simp [nums]
        rw [List.length_replicate, e1]
        exact hown
      have hb2 : Below w.heap.size w w2 := (hb.alloc hb.size _).grown hgrow (by simp; omega) (fun q hq => (HG1.out.lt q hq).1)
      clear hown hgrow hnil HG1
      go_wp2
      go_roundw
      case rel => exact ⟨k + 1, by omega, by go_num, HG2.out, hb2⟩
      case measure => simp [intOf]; omega
    · obtain rfl : k = 8 := by omega
      go_wp2
      go_ret
      exact ⟨_, rfl, hg.out, hb⟩
end Pg
end Go.Proofs.Ytffkkhaiedhaiaa

/- Sweeps over what is known, in memory: what stands between two steps. -/
namespace Go.Proofs.Ytffkkhaiedhaiaa
namespace Pg
open Go.ChangeShapes Go.WideShapes Go.ChangeAt Go.RowKit St Wd

theorem nxB_ltK {code : List Tx.Ins} {a j : Nat} (h : nxB code a j = true) : j < code.length := by
  unfold nxB at h; simp only [Bool.and_eq_true, decide_eq_true_eq] at h; exact h.2
theorem infoR : (Try.prog.info? 27).map (fun i => (i.zero, i.size, i.bytes)) = some (some (.slice none 0 0), 1, 24) := by kernel_rfl
/-- All rows of a state are there, and what else stands. -/
structure KnI (B : Nat) (code : List Tx.Ins) (gl G : Nat) (w : World) (K : Kw) (f cp : Nat → Nat) (wr : World) : Prop where
  rows : RowsK B wr G code.length K f cp
  inv : InvS code K
  lead : IRow wr gl 0 (risL (ldB code code.length) 40)
  gl : gl < B ∧ gl ≠ G
  below : Below w.heap.size w wr
theorem KnI.on {B : Nat} {code : List Tx.Ins} {gl G : Nat} {w : World} {K : Kw} {f cp : Nat → Nat} {u v : World} (h : KnI B code gl G w K f cp u) (hb : Below u.heap.size u v) : KnI B code gl G w K f cp v :=
  ⟨h.rows.on hb, h.inv, h.lead.on hb, h.gl, below_over h.below hb⟩
/-- On the way through a sweep that began at Ks, step k being next. -/
def Sw2 (B : Nat) (code : List Tx.Ins) (gl G : Nat) (w : World) (Ks : Kw) (k : Nat) (mb : Bool) (wr : World) : Prop :=
  ∃ (K : Kw) (f cp : Nat → Nat), KnI B code gl G w K f cp wr ∧ (∀ a b, leO (Ks a b) (K a b)) ∧ (mb = false → K = Ks ∧ ∀ i, i < k → clsK code K i) ∧ (mb = true → hgK code.length Ks < hgK code.length K)
theorem KnI.setC {B : Nat} {code : List Tx.Ins} {gl G : Nat} {w : World} {K : Kw} {f cp : Nat → Nat} {u : World} (h : KnI B code gl G w K f cp u) {b : Nat} (hb : w.heap.size ≤ b) (h1 : b ≠ G) (h2 : b ≠ gl) (h3 : ∀ i, i < code.length → K i 0 ≠ none → f i ≠ b) (o : Nat) (v : Value) :
    KnI B code gl G w K f cp (u.setCell ⟨b, o, none⟩ v) := by
  obtain ⟨⟨r1, r2, r3, r4⟩, i1, i2, i3, i4⟩ := h
  refine ⟨⟨r1.far _ _ (by simpa using h1), by simpa using r2, fun i hi hk => ?_, r4⟩, i1, fun i x hx => ?_, i3, i4.setCell hb _⟩
  · obtain ⟨a1, a2, a3, a4⟩ := r3 i hi hk
    exact ⟨a1, by simpa using a2, a3, a4.far _ _ (by simpa using fun h => h3 i hi hk h.symm)⟩
  · rw [World.cell?_setCell_other _ _ _ _ (fun h => h2 (congrArg Addr.block h))]
    exact i2 i x hx
def outL (code : List Tx.Ins) (K : Kw) (i : Nat) : List Int := (List.range 8).map (outK code K i)
theorem outL_len (code : List Tx.Ins) (K : Kw) (i : Nat) : (outL code K i).length = 8 := by simp [outL]
theorem outL_at (code : List Tx.Ins) (K : Kw) (i : Nat) {j : Nat} (hj : j < 8) : (outL code K i)[j]? = some (outK code K i j) := by simp [outL, hj]
theorem outL_same {code : List Tx.Ins} {K : Kw} {i : Nat} (h : (insF code i).1 ≠ 3) : outL code K i = rowL K i := by
  unfold outL rowL outK
  exact List.map_congr_left fun j _ => by simp [h]
theorem outL_set {code : List Tx.Ins} {K : Kw} {i A : Nat} (h : (insF code i).1 = 3) (hA : (insF code i).2.1 = (A : Int)) (hA8 : A < 8) : nums (outL code K i) = (nums (rowL K i)).set A (.int .i64 (stV code K i)) := by
  apply List.ext_getElem?
  intro p
  rw [List.getElem?_set]
  simp only [nums, List.length_map, rowL_len, List.getElem?_map]
  by_cases hp : p < 8
  · rw [rowL_at _ _ hp, outL_at _ _ _ hp]
    by_cases e : A = p
    · subst e; simp [outK, h, hA, hp]
    · have : ¬ (insF code i).2.1 = (p : Int) := by rw [hA]; omega
      simp [outK, this, e]
  · have h1 : (rowL K i)[p]? = none := List.getElem?_eq_none (by rw [rowL_len]; omega)
    have h2 : (outL code K i)[p]? = none := List.getElem?_eq_none (by rw [outL_len]; omega)
    have h3 : ¬ A = p := by omega
    simp [h1, h2, h3]
theorem infs_first {code : List Tx.Ins} (h0 : 0 < code.length) : InvS code (fun a b => if a = 0 ∧ b < 8 then some UnK else none) := by
  refine ⟨fun i => ?_, fun i s h => ?_, fun j hj => by simp [hj], fun K' hK a ha b hb => ?_, fun i hi hl hk => by simp at hk⟩
  · by_cases e : i = 0
    · left; intro j hj; simp [e, hj]
    · right; intro j; simp [e]
  · split at h
    · rename_i e; exact ⟨by omega, e.2⟩
    · simp at h
  · split
    · rename_i e; rw [e.1, hK.1 b e.2]; exact leO_refl _
    · exact leO_none _
/-- On the way through the steps that may come next, behind step k, q of them gone through. -/
def Sw3 (B : Nat) (code : List Tx.Ins) (gl G : Nat) (w : World) (Ks Kb : Kw) (k go gn : Nat) (ns : List Int) (q : Nat) (mb : Bool) (wr : World) : Prop :=
  ∃ (K : Kw) (f cp : Nat → Nat), KnI B code gl G w K f cp wr ∧ (∀ a b, leO (Kb a b) (K a b)) ∧
    (mb = false → K = Ks ∧ K = Kb ∧ (∀ i, i < k → clsK code K i) ∧ ∀ p x, p < q → ns[p]? = some x → ∀ j, j < 8 → leO (some (outK code Kb k j)) (K x.toNat j)) ∧
    (mb = true → hgK code.length Ks < hgK code.length K) ∧ (∀ i, i < code.length → K i 0 ≠ none → f i ≠ go ∧ f i ≠ gn) ∧
    Cells wr go (nums (outL code Kb k)) ∧ IRow wr gn 0 ns ∧ (gn < wr.heap.size ∧ go < wr.heap.size)
theorem leO_noneR {a : Option Int} (h : leO a none) : a = none := by
  rcases h with h | h | h
  · exact h
  · simp at h
  · exact h
theorem InvS.none {code : List Tx.Ins} {K : Kw} (h : InvS code K) {i : Nat} (hi : K i 0 = none) (j : Nat) : K i j = none := by
  rcases h.rows i with h1 | h1
  · exact absurd hi (h1 0 (by omega))
  · exact h1 j
theorem mrg_up (K : Kw) (t : Nat) (out : Nat → Int) (m : Nat) (a b : Nat) : leO (K a b) (mrgK K t out m a b) := by
  unfold mrgK
  split
  · exact joO_up _ _
  · exact leO_refl _
/-- There was no row yet: the new one is what goes out. -/
theorem Sw3.fresh {B : Nat} {code : List Tx.Ins} (hok : Lay.codeOk code = true) {gl G : Nat} {w : World} {Ks Kb : Kw} {k go gn : Nat} {ns : List Int} {q : Nat} {wr wq : World} {K : Kw} {f cp : Nat → Nat}
    (hI : KnI B code gl G w K f cp wr) (hup : ∀ a b, leO (Kb a b) (K a b)) (hfo : ∀ i, i < code.length → K i 0 ≠ none → f i ≠ go ∧ f i ≠ gn)
    (hco : Cells wr go (nums (outL code Kb k))) (hrn : IRow wr gn 0 ns) (hlt : gn < wr.heap.size ∧ go < wr.heap.size) (hne : gn ≠ G ∧ go ≠ G) (hwG : w.heap.size ≤ G)
    (hKb : InvS code Kb) (hk : k < code.length) (hrb : Kb k 0 ≠ none) (hs : ∀ a b, leO (Ks a b) (Kb a b)) {t : Nat} (ht : nxB code k t = true) (hKt : K t 0 = none)
    (hb : Below wr.heap.size wr wq) (g' c' : Nat) (hg1 : wr.heap.size ≤ g') (hg2 : g' < wq.heap.size) (hBg : B ≤ wr.heap.size) (hc : Cells wq g' (nums (outL code Kb k))) :
    Sw3 B code gl G w Ks Kb k go gn ns (q + 1) true (wq.setCell ⟨G, t, none⟩ (.slice (some ⟨g', 0, none⟩) 8 c')) := by
  have htl : t < code.length := nxB_ltK ht
  have hIq := hI.on hb
  have hall := hI.inv.none hKt
  have hrow : rowL (mrgK K t (outK code Kb k) 8) t = outL code Kb k := by
    unfold rowL outL
    refine List.map_congr_left fun j hj => ?_
    have hj8 := List.mem_range.1 hj
    unfold mrgK
    rw [if_pos ⟨rfl, hj8⟩, hall j]
    rfl
  have hK2 : mrgK K t (outK code Kb k) 8 t 0 ≠ none := by
    unfold mrgK
    rw [if_pos ⟨rfl, by omega⟩]
    obtain ⟨y, hy⟩ := joO_some (K t 0) (outK code Kb k 0)
    rw [hy]; simp
  have hfg : ∀ i, i < code.length → K i 0 ≠ none → f i ≠ g' := fun i hi hn => by have := (hI.rows.2.2.1 i hi hn).2.1; omega
  have hset := hIq.rows.setRow htl hKt g' c' (by omega) hg2 (by have := hI.rows.2.1; omega) hfg (mrgK K t (outK code Kb k) 8) (fun a b h => by unfold mrgK; simp [h]) hK2 (by rw [hrow]; exact hc)
  refine ⟨mrgK K t (outK code Kb k) 8, _, _, ⟨hset, hKb.merge hok hI.inv hup hk hrb ht, fun i x hx => ?_, hI.gl, hIq.below.setCell hwG _⟩, fun a b => leO_trans (hup a b) (mrg_up _ _ _ _ _ _), fun h => by simp at h, fun _ => ?_, fun i hi hn => ?_, (hco.on hb).far _ _ (by simpa using fun h => hne.2 h.symm), fun i x hx => ?_, ⟨?_, ?_⟩⟩
  · rw [World.cell?_setCell_other _ _ _ _ (fun h => hI.gl.2 (congrArg Addr.block h).symm)]
    exact hIq.lead i x hx
  · refine hgK_lt (fun a b => leO_trans (leO_trans (hs a b) (hup a b)) (mrg_up _ _ _ _ _ _)) htl (show 0 < 8 by omega) ?_
    have h1 : Ks t 0 = none := leO_noneR (by have := leO_trans (hs t 0) (hup t 0); rw [hKt] at this; exact this)
    rw [h1]
    exact fun e => hK2 e.symm
  · by_cases e : i = t
    · rw [if_pos e]
      exact ⟨by omega, by omega⟩
    · rw [if_neg e]
      refine hfo i hi (fun hn' => hn ?_)
      unfold mrgK
      rw [if_neg (fun h => e h.1)]
      exact hn'
  · rw [World.cell?_setCell_other _ _ _ _ (fun h => hne.1 (congrArg Addr.block h).symm)]
    exact (hrn.on hb) i x hx
  · have := hb.size; simp; omega
  · have := hb.size; simp; omega
/-- On the way through one row that is there. -/
def Sw4 (B : Nat) (code : List Tx.Ins) (gl G : Nat) (w : World) (Ks K : Kw) (f cp : Nat → Nat) (t : Nat) (out : Nat → Int) (ol : List Int) (go gn : Nat) (ns : List Int) (m : Nat) (mb0 mb : Bool) (wr : World) : Prop :=
  RowsK B wr G code.length (mrgK K t out m) f cp ∧ IRow wr gl 0 (risL (ldB code code.length) 40) ∧ Below w.heap.size w wr ∧ (mb = false → mb0 = false ∧ mrgK K t out m = K) ∧
    (mb = true → hgK code.length Ks < hgK code.length (mrgK K t out m)) ∧ Cells wr go (nums ol) ∧ IRow wr gn 0 ns ∧ (gn < wr.heap.size ∧ go < wr.heap.size)
theorem Sw4.on {B : Nat} {code : List Tx.Ins} {gl G : Nat} {w : World} {Ks K : Kw} {f cp : Nat → Nat} {t : Nat} {out : Nat → Int} {ol : List Int} {go gn : Nat} {ns : List Int} {m : Nat} {mb0 mb : Bool} {u v : World}
    (h : Sw4 B code gl G w Ks K f cp t out ol go gn ns m mb0 mb u) (hb : Below u.heap.size u v) : Sw4 B code gl G w Ks K f cp t out ol go gn ns m mb0 mb v := by
  obtain ⟨h1, h2, h3, h4, h5, h6, h7, h8⟩ := h
  exact ⟨h1.on hb, h2.on hb, below_over h3 hb, h4, h5, h6.on hb, h7.on hb, ⟨Nat.lt_of_lt_of_le h8.1 hb.size, Nat.lt_of_lt_of_le h8.2 hb.size⟩⟩
theorem mrg_zero (K : Kw) (t : Nat) (out : Nat → Int) : mrgK K t out 0 = K := by funext a b; unfold mrgK; simp
theorem Sw4.start {B : Nat} {code : List Tx.Ins} {gl G : Nat} {w : World} {Ks K : Kw} {f cp : Nat → Nat} {t : Nat} {out : Nat → Int} {ol : List Int} {go gn : Nat} {ns : List Int} {mb : Bool} {wr : World}
    (hI : KnI B code gl G w K f cp wr) (hmT : mb = true → hgK code.length Ks < hgK code.length K) (hco : Cells wr go (nums ol)) (hrn : IRow wr gn 0 ns) (hlt : gn < wr.heap.size ∧ go < wr.heap.size) : Sw4 B code gl G w Ks K f cp t out ol go gn ns 0 mb mb wr := by
  refine ⟨?_, hI.lead, hI.below, fun h => ⟨h, mrg_zero _ _ _⟩, fun h => ?_, hco, hrn, hlt⟩
  · rw [mrg_zero]; exact hI.rows
  · rw [mrg_zero]; exact hmT h
theorem mrg_at {K : Kw} {t : Nat} {out : Nat → Int} {m : Nat} : mrgK K t out m t m = K t m := by unfold mrgK; simp
theorem mrg_stay {K : Kw} {t : Nat} {out : Nat → Int} {m : Nat} {v : Int} (hv : K t m = some v) (h : v = UnK ∨ v = out m) : mrgK K t out (m + 1) = mrgK K t out m := by
  funext a b
  unfold mrgK
  by_cases e : a = t ∧ b = m
  · obtain ⟨rfl, rfl⟩ := e
    rw [if_pos ⟨rfl, by omega⟩, if_neg (by omega), hv]
    unfold joO
    dsimp only
    rcases h with h | h
    · split
      · rename_i e; rw [e]
      · rw [h]
    · rw [if_pos h, h]
  · by_cases e1 : a = t ∧ b < m
    · rw [if_pos ⟨e1.1, by omega⟩, if_pos e1]
    · rw [if_neg (fun h => by omega), if_neg e1]
theorem mrg_turn {K : Kw} {t : Nat} {out : Nat → Int} {m : Nat} {v : Int} (hv : K t m = some v) (h : v ≠ out m) : mrgK K t out (m + 1) = setK (mrgK K t out m) t m UnK := by
  funext a b
  unfold setK
  by_cases e : a = t ∧ b = m
  · rw [if_pos e]
    obtain ⟨rfl, rfl⟩ := e
    unfold mrgK
    rw [if_pos ⟨rfl, by omega⟩, hv]
    unfold joO
    dsimp only
    rw [if_neg h]
  · rw [if_neg e]
    unfold mrgK
    by_cases e1 : a = t ∧ b < m
    · rw [if_pos ⟨e1.1, by omega⟩, if_pos e1]
    · rw [if_neg (fun h => by omega), if_neg e1]
theorem Sw4.stay {B : Nat} {code : List Tx.Ins} {gl G : Nat} {w : World} {Ks K : Kw} {f cp : Nat → Nat} {t : Nat} {out : Nat → Int} {ol : List Int} {go gn : Nat} {ns : List Int} {m : Nat} {mb0 mb : Bool} {u : World}
    (h : Sw4 B code gl G w Ks K f cp t out ol go gn ns m mb0 mb u) {v : Int} (hv : K t m = some v) (hs : v = UnK ∨ v = out m) : Sw4 B code gl G w Ks K f cp t out ol go gn ns (m + 1) mb0 mb u := by
  unfold Sw4 at h ⊢
  rw [mrg_stay hv hs]
  exact h
theorem Sw4.turn {B : Nat} {code : List Tx.Ins} {gl G : Nat} {w : World} {Ks K : Kw} {f cp : Nat → Nat} {t : Nat} {out : Nat → Int} {ol : List Int} {go gn : Nat} {ns : List Int} {m : Nat} {mb0 mb : Bool} {u : World}
    (h : Sw4 B code gl G w Ks K f cp t out ol go gn ns m mb0 mb u) (hkt : K t 0 ≠ none) (ht : t < code.length) (hm : m < 8) {v : Int} (hv : K t m = some v) (h1 : v ≠ UnK) (h2 : v ≠ out m) (hsk : ∀ a b, leO (Ks a b) (K a b))
    (hft : f t ≠ go ∧ f t ≠ gn ∧ f t ≠ gl) (hwB : w.heap.size ≤ B) :
    Sw4 B code gl G w Ks K f cp t out ol go gn ns (m + 1) mb0 true (u.setCell ⟨f t, m, none⟩ (.int .i64 UnK)) := by
  obtain ⟨q1, q2, q3, q4, q5, q6, q7, q8⟩ := h
  have hn0 : mrgK K t out m t 0 ≠ none := fun e => hkt (leO_noneR (by have := mrg_up K t out m t 0; rw [e] at this; exact this))
  have hnm : mrgK K t out m t m ≠ none := by rw [mrg_at, hv]; simp
  have hBf := (q1.2.2.1 t ht hn0).1
  have hset := q1.setEl ht hn0 hm hnm UnK
  rw [← mrg_turn hv h2] at hset
  refine ⟨hset, fun i x hx => ?_, q3.setCell (by show w.heap.size ≤ f t; omega) _, fun h => by simp at h, fun _ => ?_, q6.far _ _ (by simpa using hft.1), fun i x hx => ?_, by simpa using q8⟩
  · rw [World.cell?_setCell_other _ _ _ _ (fun h => hft.2.2 (congrArg Addr.block h))]
    exact q2 i x hx
  · refine hgK_lt (fun a b => leO_trans (hsk a b) (mrg_up _ _ _ _ _ _)) ht hm ?_
    rw [mrg_turn hv h2]
    unfold setK
    rw [if_pos ⟨rfl, rfl⟩]
    intro e
    have := hsk t m
    rw [e, hv] at this
    rcases this with h | h | h
    · simp at h
    · injection h with h; exact h1 h
    · injection h with h; exact h1 h.symm
  · rw [World.cell?_setCell_other _ _ _ _ (fun h => hft.2.1 (congrArg Addr.block h))]
    exact q7 i x hx
theorem Sw4.ends {B : Nat} {code : List Tx.Ins} (hok : Lay.codeOk code = true) {gl G : Nat} {w : World} {Ks Kb K : Kw} {f cp : Nat → Nat} {t k : Nat} {go gn : Nat} {ns : List Int} {q : Nat} {mb0 mb : Bool} {u : World}
    (h : Sw4 B code gl G w Ks K f cp t (outK code Kb k) (outL code Kb k) go gn ns 8 mb0 mb u) (hinv : InvS code K) (hgl : gl < B ∧ gl ≠ G) (hup : ∀ a b, leO (Kb a b) (K a b)) (hfo : ∀ i, i < code.length → K i 0 ≠ none → f i ≠ go ∧ f i ≠ gn)
    (hmF : mb0 = false → K = Ks ∧ K = Kb ∧ (∀ i, i < k → clsK code K i) ∧ ∀ p x, p < q → ns[p]? = some x → ∀ j, j < 8 → leO (some (outK code Kb k j)) (K x.toNat j))
    (hKb : InvS code Kb) (hk : k < code.length) (hrb : Kb k 0 ≠ none) (ht : nxB code k t = true) (hKt : K t 0 ≠ none) (hns : ns[q]? = some (t : Int)) : Sw3 B code gl G w Ks Kb k go gn ns (q + 1) mb u := by
  obtain ⟨q1, q2, q3, q4, q5, q6, q7, q8⟩ := h
  refine ⟨mrgK K t (outK code Kb k) 8, f, cp, ⟨q1, hKb.merge hok hinv hup hk hrb ht, q2, hgl, q3⟩, fun a b => leO_trans (hup a b) (mrg_up _ _ _ _ _ _), fun hm => ?_, q5, fun i hi hn => ?_, q6, q7, q8⟩
  · obtain ⟨e0, e1⟩ := q4 hm
    obtain ⟨a1, a2, a3, a4⟩ := hmF e0
    rw [e1]
    refine ⟨a1, a2, a3, fun p x hp hx j hj => ?_⟩
    by_cases e : p = q
    · subst e
      rw [hns] at hx
      injection hx with hx
      subst hx
      rw [Int.toNat_natCast]
      have h2 : K t j = joO (K t j) (outK code Kb k j) := by
        have := congrFun (congrFun e1 t) j
        unfold mrgK at this
        rw [if_pos ⟨rfl, hj⟩] at this
        exact this.symm
      rw [h2]
      exact joO_in _ _
    · exact a4 p x (by omega) hx j hj
  · by_cases e : i = t
    · rw [e]; exact hfo t (e ▸ hi) hKt
    · refine hfo i hi (fun hn' => hn ?_)
      unfold mrgK
      rw [if_neg (fun h => e h.1)]
      exact hn'
theorem Sw3.ends {B : Nat} {code : List Tx.Ins} (hok : Lay.codeOk code = true) {gl G : Nat} {w : World} {Ks Kb : Kw} {k go gn : Nat} {mb : Bool} {u : World} (hk : k < code.length)
    (h : Sw3 B code gl G w Ks Kb k go gn (nextsF code k) (nextsF code k).length mb u) (hs : ∀ a b, leO (Ks a b) (Kb a b)) : Sw2 B code gl G w Ks (k + 1) mb u := by
  obtain ⟨K, f, cp, h1, h2, h3, h4, _⟩ := h
  refine ⟨K, f, cp, h1, fun a b => leO_trans (hs a b) (h2 a b), fun hm => ?_, h4⟩
  obtain ⟨e1, e2, e3, e4⟩ := h3 hm
  refine ⟨e1, fun i hi => ?_⟩
  by_cases e : i = k
  · subst e
    intro hr t ht j hj
    have hm : (t : Int) ∈ nextsF code i := (nextsF_mem hok hk _).2 ⟨t, ht, rfl⟩
    obtain ⟨p, hp, ep⟩ := List.getElem_of_mem hm
    have := e4 p (t : Int) hp (by rw [List.getElem?_eq_getElem hp, ep]) j hj
    rw [Int.toNat_natCast, ← e2] at this
    exact this
  · exact e3 i (by omega)
theorem Sw3.start {B : Nat} {code : List Tx.Ins} {gl G : Nat} {w : World} {Ks Kb : Kw} {k go gn : Nat} {ns : List Int} {mb : Bool} {u : World} {f cp : Nat → Nat} (hI : KnI B code gl G w Kb f cp u)
    (hmF : mb = false → Kb = Ks ∧ ∀ i, i < k → clsK code Kb i) (hmT : mb = true → hgK code.length Ks < hgK code.length Kb) (hfo : ∀ i, i < code.length → Kb i 0 ≠ none → f i ≠ go ∧ f i ≠ gn)
    (hco : Cells u go (nums (outL code Kb k))) (hrn : IRow u gn 0 ns) (hlt : gn < u.heap.size ∧ go < u.heap.size) : Sw3 B code gl G w Ks Kb k go gn ns 0 mb u :=
  ⟨Kb, f, cp, hI, fun _ _ => leO_refl _, fun h => ⟨(hmF h).1, rfl, (hmF h).2, fun _ _ hp => absurd hp (Nat.not_lt_zero _)⟩, hmT, hfo, hco, hrn, hlt⟩
/-- Rows that are not there are made of what is not known. -/
def fillK (K : Kw) (n : Nat) : Kw := fun a b => if a < n ∧ K a 0 = none ∧ b < 8 then some UnK else K a b
theorem fill_zero (K : Kw) : fillK K 0 = K := by funext a b; unfold fillK; simp
theorem fill_stay {K : Kw} {n : Nat} (h : K n 0 ≠ none) : fillK K (n + 1) = fillK K n := by
  funext a b
  unfold fillK
  by_cases e : a = n
  · subst e; simp [h]
  · have : (a < n + 1) = (a < n) := by apply propext; omega
    simp only [this]
theorem fill_at {K : Kw} {n : Nat} : fillK K n n 0 = K n 0 := by unfold fillK; simp
theorem fill_all {code : List Tx.Ins} {K : Kw} (h : InvS code K) {n i j : Nat} (hi : i < n) (hj : j < 8) : fillK K n i j = some ((K i j).getD UnK) := by
  unfold fillK
  by_cases e : K i 0 = none
  · rw [if_pos ⟨hi, e, hj⟩, h.none e j]; rfl
  · rw [if_neg (fun hh => e hh.2.1)]
    have := h.at e hj
    rw [this]; rfl
theorem RowsK.base {B B' : Nat} {w : World} {G n : Nat} {K : Kw} {f cp : Nat → Nat} (h : RowsK B w G n K f cp) (hB : B' ≤ B) : RowsK B' w G n K f cp :=
  ⟨h.1, h.2.1, fun i hi hk => by obtain ⟨a, b⟩ := h.2.2.1 i hi hk; exact ⟨Nat.le_trans hB a, b⟩, h.2.2.2⟩
theorem RowsK.fill {B : Nat} {w wq : World} {G n : Nat} {K : Kw} {f cp : Nat → Nat} {k : Nat} (h : RowsK B w G n (fillK K k) f cp) (hk : k < n) (hr : K k 0 = none) (hb : Below w.heap.size w wq) (hBw : B ≤ w.heap.size) (g c : Nat) (hg1 : w.heap.size ≤ g) (hg2 : g < wq.heap.size) (hc : Cells wq g (nums (List.replicate 8 UnK))) :
    RowsK B (wq.setCell ⟨G, k, none⟩ (.slice (some ⟨g, 0, none⟩) 8 c)) G n (fillK K (k + 1)) (fun a => if a = k then g else f a) (fun a => if a = k then c else cp a) := by
  refine (h.on hb).setRow hk (by rw [fill_at]; exact hr) g c (by omega) hg2 (by have := h.2.1; omega) (fun i hi hn => by have := (h.2.2.1 i hi hn).2.1; omega) _ (fun a b e => ?_) ?_ ?_
  · unfold fillK
    have : (a < k + 1) = (a < k) := by apply propext; omega
    simp only [this]
  · unfold fillK; simp [hr]
  · have : rowL (fillK K (k + 1)) k = List.replicate 8 UnK := by
      unfold rowL
      rw [List.eq_replicate_iff]
      refine ⟨by simp, fun x hx => ?_⟩
      obtain ⟨j, hj, rfl⟩ := List.mem_map.1 hx
      have := List.mem_range.1 hj
      unfold fillK
      rw [if_pos ⟨by omega, hr, this⟩]
      rfl
    rw [this]
    exact hc
end Pg
end Go.Proofs.Ytffkkhaiedhaiaa

/- The laws' own functions on rows of rows of eight. -/
namespace Go.Proofs.Ytffkkhaiedhaiaa
namespace Pg
open Go.ChangeShapes Go.WideShapes Go.ChangeAt Go.RowKit St Wd

/-- All rows are there. -/
def AllK (n : Nat) (K : Kw) : Prop := ∀ i j, i < n → j < 8 → K i j ≠ none
theorem rowL_congr {K K' : Kw} {i : Nat} (h : ∀ j, j < 8 → K i j = K' i j) : rowL K i = rowL K' i := by
  unfold rowL
  exact List.map_congr_left fun j hj => by rw [h j (List.mem_range.1 hj)]
theorem RowsK.congr {B : Nat} {w : World} {G n : Nat} {K K' : Kw} {f cp : Nat → Nat} (h : RowsK B w G n K f cp) (he : ∀ i j, i < n → j < 8 → K i j = K' i j) : RowsK B w G n K' f cp := by
  obtain ⟨h1, h3, h4, h5⟩ := h
  have e0 : ∀ i, i < n → K i 0 = K' i 0 := fun i hi => he i 0 hi (by omega)
  refine ⟨?_, h3, fun i hi hk => ?_, fun i i' hi hi' hk hk' => h5 i i' hi hi' (by rw [e0 i hi]; exact hk) (by rw [e0 i' hi']; exact hk')⟩
  · have : cellsG K f cp n = cellsG K' f cp n := by
      unfold cellsG slcK
      exact List.map_congr_left fun i hi => by rw [e0 i (List.mem_range.1 hi)]
    rw [← this]; exact h1
  · obtain ⟨a, b, c, d⟩ := h4 i hi (by rw [e0 i hi]; exact hk)
    exact ⟨a, b, c, by rw [← rowL_congr (fun j hj => he i j hi hj)]; exact d⟩
theorem cells_irow {w : World} {g : Nat} {l : List Int} (h : Cells w g (nums l)) : IRow w g 0 l := fun j x hj => by
  rw [Nat.zero_add]
  exact (h j (.int .i64 x) (by simp [nums, hj])).1
/-- A row written anew as a whole, in its own block. -/
theorem RowsK.whole {B : Nat} {u v : World} {G n : Nat} {K K' : Kw} {f cp : Nat → Nat} (h : RowsK B u G n K f cp) {t : Nat} (ht : t < n) (hr : K t 0 ≠ none) (ho : Only (f t) u v) (hK1 : ∀ a b, a ≠ t → K' a b = K a b) (hK2 : K' t 0 ≠ none) (hc : Cells v (f t) (nums (rowL K' t))) : RowsK B v G n K' f cp := by
  obtain ⟨h1, h3, h4, h5⟩ := h
  obtain ⟨g1, g2, g3, g4⟩ := h4 t ht hr
  have mv : ∀ {b : Nat} {vs : List Value}, b ≠ f t → Cells u b vs → Cells v b vs := fun hne hc i x hx => by
    obtain ⟨a1, a2⟩ := hc i x hx
    have e := ho.block _ hne
    exact ⟨(World.cell?_of_block (w := u) e).trans a1, (World.frozen?_of_block (w := u) e).trans a2⟩
  have e0 : ∀ i, (K' i 0 = none) ↔ (K i 0 = none) := fun i => by
    by_cases e : i = t
    · rw [e]; simp [hr, hK2]
    · rw [hK1 i 0 e]
  have hcg : cellsG K' f cp n = cellsG K f cp n := by
    unfold cellsG slcK
    exact List.map_congr_left fun i _ => by simp only [e0]
  refine ⟨by rw [hcg]; exact mv (fun e => g3 e.symm) h1, by rw [ho.size]; exact h3, fun i hi hk => ?_, fun i i' hi hi' hk hk' => h5 i i' hi hi' (fun e => hk ((e0 i).2 e)) (fun e => hk' ((e0 i').2 e))⟩
  have hk0 : K i 0 ≠ none := fun e => hk ((e0 i).2 e)
  obtain ⟨q1, q2, q3, q4⟩ := h4 i hi hk0
  refine ⟨q1, by rw [ho.size]; exact q2, q3, ?_⟩
  by_cases e : i = t
  · rw [e]; exact hc
  · rw [rowL_congr (K := K') (K' := K) (fun j _ => hK1 i j e)]
    exact mv (fun h => e (h5 i t hi ht hk0 hr h)) q4
theorem head_at {B : Nat} {w : World} {G n : Nat} {K : Kw} {f cp : Nat → Nat} (h : RowsK B w G n K f cp) {i : Nat} (hi : i < n) (hr : K i 0 ≠ none) : w.cell? ⟨G, i, none⟩ = some (.slice (some ⟨f i, 0, none⟩) 8 (cp i)) := by
  have := (h.1 i _ (cellsG_at _ _ _ hi)).1
  rwa [show slcK K f cp i = .slice (some ⟨f i, 0, none⟩) 8 (cp i) from by simp [slcK, hr]] at this
end Pg
end Go.Proofs.Ytffkkhaiedhaiaa
