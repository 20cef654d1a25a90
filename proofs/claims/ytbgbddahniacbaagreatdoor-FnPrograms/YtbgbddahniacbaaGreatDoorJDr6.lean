/- One turn of a drawn program: where its cells lie, and what it says behind the turn. -/
import Derived.Test.YtbgbddahniacbaaGreatDoorJDq2
import Derived.Test.YtbgbddahniacbaaGreatDoorJIRow0
import Derived.Deep.LoopGhost
import Derived.WalkMore
namespace Go.Proofs.YtbgbddahniacbaaGreatDoor
namespace Pg
open Go.ChangeShapes Go.WideShapes Go.ChangeAt Go.RowKit St

theorem own_at {g n c k : Nat} (h : (Value.slice (some ⟨g, 0, none⟩) n c).ownBlock = some k) : k = g := by
  simp [Value.ownBlock] at h; omega
theorem flatK_sup : ∀ (l : List (Cls × Value × Value)) (j : Nat) (x : Cls × Value × Value) (s : Int), l[j]? = some x → flatK (l.set j ({ x.1 with super := s }, x.2.1, x.2.2)) = (flatK l).set (j * 3) (.int .i64 s)
  | [], _, _, _, h => by simp at h
  | y :: l, 0, x, s, h => by simp at h; subst h; simp [flatK]
  | y :: l, j + 1, x, s, h => by
    rw [show (j + 1) * 3 = j * 3 + 1 + 1 + 1 from by omega]
    simp only [List.set_cons_succ, flatK, flatK_sup l j x s (by simpa using h)]
theorem flatK_fld : ∀ (l : List (Cls × Value × Value)) (j : Nat) (x : Cls × Value × Value) (fs : List Int) (v : Value), l[j]? = some x → flatK (l.set j ({ x.1 with fields := fs }, v, x.2.2)) = (flatK l).set (j * 3 + 1) v
  | [], _, _, _, _, h => by simp at h
  | y :: l, 0, x, fs, v, h => by simp at h; subst h; simp [flatK]
  | y :: l, j + 1, x, fs, v, h => by
    rw [show (j + 1) * 3 + 1 = j * 3 + 1 + 1 + 1 + 1 from by omega]
    simp only [List.set_cons_succ, flatK, flatK_fld l j x fs v (by simpa using h)]
theorem flatK_mth : ∀ (l : List (Cls × Value × Value)) (j : Nat) (x : Cls × Value × Value) (ms : List Meth), l[j]? = some x → flatK (l.set j ({ x.1 with meths := ms }, x.2.1, x.2.2)) = flatK l
  | [], _, _, _, h => by simp at h
  | y :: l, 0, x, ms, h => by simp at h; subst h; simp [flatK]
  | y :: l, j + 1, x, ms, h => by simp only [List.set_cons_succ, flatK, flatK_mth l j x ms (by simpa using h)]
/-- A drawn program in its box, the result's box, and the cursor. -/
structure SA (B : Nat) (w0 : World) (cu : Nat) (a : Option Addr) (len cap pb lo T g cp : Nat) (l : List (Cls × Value × Value)) (W : Nat → Nat × Nat) (u : World) : Prop where
  at' : Cu.At B w0 u cu a len cap
  rb : Cells u w0.heap.size [.slice none 0 0]
  box : Cells u pb [.slice (some ⟨g, 0, none⟩) l.length cp]
  own : u.ownsRow lo 45 3 (.slice (some ⟨g, 0, none⟩) l.length cp) l.length (flatK l)
  kd : KD lo T (.slice (some ⟨g, 0, none⟩) l.length cp) u l W
  hT : T ≤ pb
  hlo : w0.heap.size < lo
  hg : g ≠ pb
  cw : cu < w0.heap.size
theorem SA.glo {B : Nat} {w0 : World} {cu : Nat} {a : Option Addr} {len cap pb lo T g cp : Nat} {l : List (Cls × Value × Value)} {W : Nat → Nat × Nat} {u : World} (h : SA B w0 cu a len cap pb lo T g cp l W u) : lo ≤ g ∧ g < u.heap.size ∧ pb < u.heap.size := by
  have := h.own.lt g rfl
  exact ⟨this.1, this.2, St.cell_lt (h.box 0 _ rfl).1⟩
theorem SA.touch {B : Nat} {w0 : World} {cu : Nat} {a : Option Addr} {len cap pb lo T g cp : Nat} {l : List (Cls × Value × Value)} {W : Nat → Nat × Nat} {u u' : World} (h : SA B w0 cu a len cap pb lo T g cp l W u) (ha : Cu.At B u u' cu a len cap) (hpl : lo ≤ pb) : SA B w0 cu a len cap pb lo T g cp l W u' := by
  obtain ⟨h1, h2, h3⟩ := h.glo
  have h4 := h.hT
  have h5 := h.hlo
  have h6 := h.cw
  exact ⟨h.at'.step ha, Cu.cells_touch h.rb ha.1 (by omega), Cu.cells_touch h.box ha.1 (by omega), own_move h.own (fun k hk => by have hk := own_at hk; exact ha.1.block k (by omega) (by omega)), h.kd.same (Same.touch ha.1 (by omega) (by omega)), h.hT, h.hlo, h.hg, h.cw⟩
/-- The classes that are not turned. -/
theorem KD.turn {lo T g cp n : Nat} {w w' : World} {l : List (Cls × Value × Value)} {W : Nat → Nat × Nat} (h : KD lo T (.slice (some ⟨g, 0, none⟩) n cp) w l W) {j : Nat} {y : Cls × Value × Value} (hy : l[j]? = some y) (hs : w.heap.size ≤ w'.heap.size)
    (ht : ∀ k, lo ≤ k → k < T → k ≠ g → (k < (W j).1 ∨ (W j).2 ≤ k) → w'.heap[k]? = w.heap[k]?) : ∀ i x, i ≠ j → l[i]? = some x → CV front lo w' x.2.1 x.2.2 x.1 := fun i x hij hx => by
  obtain ⟨k1, k2, k3, k4, k5⟩ := h i x hx
  obtain ⟨m1, m2, m3, m4, m5⟩ := h j y hy
  have ho := k4 g rfl
  refine (k3.move hs (fun k a b => ht k (by omega) (by omega) (by omega) ?_)).now.cv.weak k1
  rcases Nat.lt_or_gt_of_ne hij with hlt | hgt
  · have := m5 i hlt; omega
  · have := k5 j hgt; omega
/-- The program behind a turn of class j. -/
theorem sk_turn {lo T g cp : Nat} {w w' : World} {l : List (Cls × Value × Value)} {W : Nat → Nat × Nat} (h : KD lo T (.slice (some ⟨g, 0, none⟩) l.length cp) w l W) {j : Nat} {y z : Cls × Value × Value} (hy : l[j]? = some y) (hs : w.heap.size ≤ w'.heap.size)
    (ht : ∀ k, lo ≤ k → k < T → k ≠ g → (k < (W j).1 ∨ (W j).2 ≤ k) → w'.heap[k]? = w.heap[k]?)
    (hown : w'.ownsRow lo 45 3 (.slice (some ⟨g, 0, none⟩) l.length cp) l.length (flatK (l.set j z))) (hz : CV front lo w' z.2.1 z.2.2 z.1) {B : Nat} (hB : B ≤ lo) : SK front B w' (.slice (some ⟨g, 0, none⟩) l.length cp) ((l.map (·.1)).set j z.1) := by
  have hl : ((l.map (·.1)).set j z.1).length = l.length := by simp
  have e : (l.set j z).map (·.1) = (l.map (·.1)).set j z.1 := by rw [List.map_set]
  have := sk_of (cap := cp) (g := g) (lo := lo) (w := w') e (by rw [hl]; exact hown) (fun i x hx => by
    by_cases hij : i = j
    · subst hij
      rw [List.getElem?_set_self (List.getElem?_eq_some_iff.1 hy).1] at hx
      injection hx with hx; subst hx; exact hz
    · rw [List.getElem?_set_ne (by omega)] at hx
      exact h.turn hy hs ht i x hij hx)
  rw [hl] at this
  exact SK.weak this hB
theorem cv_super {K : Way} {B : Nat} {w : World} {vf vm : Value} {c : Cls} {s : Int} (h : CV K B w vf vm c) : CV K B w vf vm { c with super := s } := h
/-- A class's own number for its Super is turned. -/
theorem SA.sup {B : Nat} {w0 : World} {cu : Nat} {a : Option Addr} {len cap pb lo T g cp : Nat} {l : List (Cls × Value × Value)} {W : Nat → Nat × Nat} {u : World} (h : SA B w0 cu a len cap pb lo T g cp l W u) {j : Nat} {x : Cls × Value × Value} (hx : l[j]? = some x) (s : Int) :
    SK front (w0.heap.size + 1) (u.setCell ⟨g, j * 3, none⟩ (.int .i64 s)) (.slice (some ⟨g, 0, none⟩) l.length cp) ((l.map (·.1)).set j { x.1 with super := s }) := by
  obtain ⟨h1, h2, h3⟩ := h.glo
  have h5 := h.hlo
  obtain ⟨k1, k2, k3, k4, k5⟩ := h.kd j x hx
  have ho := k4 g rfl
  have hst := (h.own.stored (j * 3) (.int .i64 s)).1
  have hset : ∀ k, k ≠ g → (u.setCell ⟨g, j * 3, none⟩ (.int .i64 s)).heap[k]? = u.heap[k]? := fun k hk => Below.heap_setCell u ⟨g, j * 3, none⟩ _ k hk
  refine sk_turn (z := ({ x.1 with super := s }, x.2.1, x.2.2)) h.kd hx (by simp) (fun k _ _ hk _ => hset k hk) (by rw [flatK_sup l j x s hx]; exact hst) ?_ (by omega)
  exact cv_super ((k3.move (by simp) (fun k a b => hset k (by omega))).now.cv.weak k1)
/-- A block that the window's fact speaks of lies in the window. -/
theorem Win.has {L M : Nat} {R : World → Prop} {w : World} {g : Nat} {e : TypeId} (h : Win L M R w) (hw : g < w.heap.size) (hR : ∀ w', R w' → ∃ cur, w'.heap[g]? = some (.cells cur e)) : g < M := by
  by_cases hM : g < M
  · exact hM
  · exfalso
    obtain ⟨cur, hc⟩ := hR { w with heap := w.heap.setIfInBounds g (.cells #[] (e + 1)) } (h.2 _ (by simp) (fun k a b => by
      show (w.heap.setIfInBounds g _)[k]? = _
      rw [Array.getElem?_setIfInBounds_ne (by omega)]))
    have : (w.heap.setIfInBounds g (.cells #[] (e + 1)))[g]? = some (.cells #[] (e + 1)) := Array.getElem?_setIfInBounds_self_of_lt hw
    rw [show ({ w with heap := w.heap.setIfInBounds g (.cells #[] (e + 1)) } : World).heap[g]? = _ from this] at hc
    injection hc with hc
    injection hc with _ hc
    exact absurd hc (by exact Nat.succ_ne_self e)
theorem own_block {w : World} {B q n d g : Nat} {e : TypeId} {xs : List Value} (h : w.ownsRow B e q (.slice (some ⟨g, 0, none⟩) n d) n xs) : ∃ cur, w.heap[g]? = some (.cells cur e) := by
  obtain ⟨_, ⟨hv, _⟩ | ⟨g', cap, cur, hv, _, hb, _⟩⟩ := h
  · simp at hv
  · injection hv with h1
    injection h1 with h1
    injection h1 with h1
    exact ⟨cur, h1 ▸ hb⟩
theorem own_mono {w : World} {B B' q n : Nat} {e : TypeId} {v : Value} {xs : List Value} (h : w.ownsRow B e q v n xs) (hb : B' ≤ B) : w.ownsRow B' e q v n xs := by
  obtain ⟨h0, h1 | ⟨g, cap, cur, hv, hB, h2⟩⟩ := h
  · exact ⟨h0, .inl h1⟩
  · exact ⟨h0, .inr ⟨g, cap, cur, hv, Nat.le_trans hb hB, h2⟩⟩
/-- The first method of a class is turned: a cell of it is stored, all else stands. -/
theorem SA.mth {B : Nat} {w0 : World} {cu : Nat} {a : Option Addr} {len cap pb lo T g cp : Nat} {l : List (Cls × Value × Value)} {W : Nat → Nat × Nat} {u : World} (h : SA B w0 cu a len cap pb lo T g cp l W u) {j : Nat} {x : Cls × Value × Value} (hx : l[j]? = some x) (hm : 1 ≤ x.1.meths.length) :
    ∃ gm dm m va vc ms, x.2.2 = .slice (some ⟨gm, 0, none⟩) x.1.meths.length dm ∧ x.1.meths = m :: ms ∧ Cells u gm [.int .i64 m.name, va, .int .i64 m.gives, vc] ∧ (∀ (u' : World) (i : Nat) (y : Value), u.heap.size ≤ u'.heap.size → (∀ k, lo ≤ k → k < u.heap.size → u'.heap[k]? = u.heap[k]?) → MV front lo (u'.setCell ⟨gm, i, none⟩ y) va vc m) ∧ lo ≤ gm ∧ gm ≠ g ∧ gm < T ∧
      ∀ (u' : World) (i : Nat) (y : Value) (m' : Meth) (va' vc' : Value), u.heap.size ≤ u'.heap.size → (∀ k, lo ≤ k → k < u.heap.size → u'.heap[k]? = u.heap[k]?) → ([.int .i64 m'.name, va', .int .i64 m'.gives, vc'] : List Value) = ([.int .i64 m.name, va, .int .i64 m.gives, vc] : List Value).set i y → i < 4 → MV front lo (u'.setCell ⟨gm, i, none⟩ y) va' vc' m' →
        SK front (w0.heap.size + 1) (u'.setCell ⟨gm, i, none⟩ y) (.slice (some ⟨g, 0, none⟩) l.length cp) ((l.map (·.1)).set j { x.1 with meths := m' :: ms }) := by
  obtain ⟨h1, h2, h3⟩ := h.glo
  have h5 := h.hlo
  obtain ⟨k1, k2, k3, k4, k5⟩ := h.kd j x hx
  have hog := k4 g rfl
  obtain ⟨hgr, ⟨lm, e, hown, hd⟩, h7, h8⟩ := k3.now
  have hll : lm.length = x.1.meths.length := by rw [← e]; simp
  obtain ⟨gm, dm, hvm⟩ : ∃ gm dm, x.2.2 = .slice (some ⟨gm, 0, none⟩) x.1.meths.length dm := by
    obtain ⟨_, ⟨hv, hn⟩ | ⟨gm, dm, cur, hv, _⟩⟩ := hown
    · omega
    · exact ⟨gm, dm, hv⟩
  have hbm : x.2.2.ownBlock = some gm := by rw [hvm]; rfl
  have hgm := hown.lt gm hbm
  have hgM : gm < (W j).2 := k3.has (e := 35) hgm.2 (fun w' hw' => by
    obtain ⟨_, ⟨_, _, ho, _⟩, _⟩ := hw'
    rw [hvm] at ho
    exact own_block ho)
  obtain ⟨⟨m, va, vc⟩, ls, rfl⟩ : ∃ y ls, lm = y :: ls := by
    cases lm with
    | nil => simp at hll; omega
    | cons y ls => exact ⟨y, ls, rfl⟩
  have hms : x.1.meths = m :: ls.map (·.1) := by rw [← e]; rfl
  have hown' := hown
  rw [hvm] at hown'
  refine ⟨gm, dm, m, va, vc, ls.map (·.1), hvm, hms, fun i y hy => ⟨?_, hown'.frozenAt i⟩, ?_, by omega, by omega, by omega, ?_⟩
  · have hi : i < 4 := by have := (List.getElem?_eq_some_iff.1 hy).1; simpa using this
    rw [hown'.cellAt i (by omega)]
    rw [show flatM ((m, va, vc) :: ls) = [.int .i64 m.name, va, .int .i64 m.gives, vc] ++ flatM ls from rfl, List.getElem?_append_left (by simpa using hi)]
    exact hy
  · intro u' i y hs hk
    obtain ⟨L0, M0, q1, q2, q3, q4⟩ := hd (m, va, vc) (by simp)
    have hoo := q3 gm hbm
    exact (q2.move (by simpa using hs) (fun k a b => (Below.heap_setCell u' ⟨gm, i, none⟩ _ k (fun e => by have : k = gm := e; omega)).trans (hk k (by omega) (Nat.lt_of_lt_of_le b q2.1)))).now.weak (by omega)
  · intro u' i y m' va' vc' hs hk hset hi hmv
    have hsz : (u'.setCell ⟨gm, i, none⟩ y).heap.size = u'.heap.size := by simp
    have hst : ∀ k, k ≠ gm → (u'.setCell ⟨gm, i, none⟩ y).heap[k]? = u'.heap[k]? := fun k hk => Below.heap_setCell u' ⟨gm, i, none⟩ _ k hk
    have hto : ∀ k, lo ≤ k → k < u.heap.size → k ≠ gm → (u'.setCell ⟨gm, i, none⟩ y).heap[k]? = u.heap[k]? := fun k q1 q2 q3 => (hst k q3).trans (hk k q1 q2)
    refine sk_turn (z := ({ x.1 with meths := m' :: ls.map (·.1) }, x.2.1, x.2.2)) h.kd hx (by rw [hsz]; exact hs) (fun k q1 q2 q3 q4 => hto k q1 (by have := h.hT; omega) (by omega)) (by rw [flatK_mth l j x _ hx]; exact own_move h.own (fun k hk' => by have hk' := own_at hk'; exact hto k (by omega) (by omega) (by omega))) ⟨?_, ?_⟩ (by omega)
    · have hgr' : Grow (W j).1 (u'.setCell ⟨gm, i, none⟩ y) x.2.1 x.1.fields := ⟨own_move hgr.1 (fun k hk' => by have := hgr.1.lt k hk'; exact hto k (by omega) this.2 (fun e => h7 k hk' (e ▸ hbm))), hgr.2⟩
      exact hgr'.gint.si.weak k1
    · have ho1 : u'.ownsRow ((W j).1 + 2) 35 4 (.slice (some ⟨gm, 0, none⟩) x.1.meths.length dm) x.1.meths.length (flatM ((m, va, vc) :: ls)) := own_move hown' (fun k hk' => by have hk' := own_at hk'; exact hk k (by omega) (by omega))
      have ho2 := (ho1.stored i y).1
      have hfl : (flatM ((m, va, vc) :: ls)).set i y = flatM ((m', va', vc') :: ls) := by
        rw [show flatM ((m, va, vc) :: ls) = [.int .i64 m.name, va, .int .i64 m.gives, vc] ++ flatM ls from rfl, List.set_append_left _ _ (by simpa using hi), ← hset]
        rfl
      rw [hfl] at ho2
      have hn : (m' :: ls.map (·.1)).length = x.1.meths.length := by rw [hms]; simp
      refine sm_of (S' := (W j).1 + 2) (l := (m', va', vc') :: ls) rfl (by omega) (by rw [hvm]; show World.ownsRow _ _ _ _ _ (m' :: ls.map (·.1)).length _; rw [hn]; exact ho2) (fun z hz => ?_)
      rcases List.mem_cons.1 hz with rfl | hz
      · exact hmv
      · obtain ⟨L0, M0, q1, q2, q3, q4⟩ := hd z (List.mem_cons_of_mem _ hz)
        have hoo := q3 gm hbm
        exact (q2.move (by rw [hsz]; exact hs) (fun k a b => hto k (by omega) (Nat.lt_of_lt_of_le b q2.1) (by omega))).now.weak (by omega)
/-- A class gets a field more. -/
theorem SA.fld {B : Nat} {w0 : World} {cu : Nat} {a : Option Addr} {len cap pb lo T g cp : Nat} {l : List (Cls × Value × Value)} {W : Nat → Nat × Nat} {u : World} (h : SA B w0 cu a len cap pb lo T g cp l W u) {j : Nat} {x : Cls × Value × Value} (hx : l[j]? = some x) :
    ∃ gf df, x.2.1 = .slice (some ⟨gf, 0, none⟩) x.1.fields.length df ∧ lo ≤ gf ∧ gf ≠ g ∧ gf < T ∧ u.ownsRow lo 2 1 (.slice (some ⟨gf, 0, none⟩) x.1.fields.length df) x.1.fields.length (nums x.1.fields) ∧
      ∀ (u1 u2 : World) (gn dn : Nat) (f : Int), u.heap.size ≤ u1.heap.size → (∀ k, lo ≤ k → k < u.heap.size → u1.heap[k]? = u.heap[k]?) → u2.ownsRow lo 2 1 (.slice (some ⟨gn, 0, none⟩) (x.1.fields.length + 1) dn) (x.1.fields.length + 1) (nums x.1.fields ++ [.int .i64 f]) → u1.grownBy u2 (some gf) → (gn = gf ∨ gn = u1.heap.size) →
        SK front (w0.heap.size + 1) (u2.setCell ⟨g, j * 3 + 1, none⟩ (.slice (some ⟨gn, 0, none⟩) (x.1.fields.length + 1) dn)) (.slice (some ⟨g, 0, none⟩) l.length cp) ((l.map (·.1)).set j { x.1 with fields := x.1.fields ++ [f] }) := by
  obtain ⟨h1, h2, h3⟩ := h.glo
  have h5 := h.hlo
  obtain ⟨k1, k2, k3, k4, k5⟩ := h.kd j x hx
  have hog := k4 g rfl
  obtain ⟨hgr, ⟨lm, e, hown, hd⟩, h7, h8⟩ := k3.now
  obtain ⟨gf, df, hvf⟩ : ∃ gf df, x.2.1 = .slice (some ⟨gf, 0, none⟩) x.1.fields.length df := by
    obtain ⟨gf, df, hv, _⟩ := hgr.gint
    exact ⟨gf, df, hv⟩
  have hbf : x.2.1.ownBlock = some gf := by rw [hvf]; rfl
  have hgf := hgr.1.lt gf hbf
  have hgM : gf < (W j).2 := k3.has (e := 2) hgf.2 (fun w' hw' => by
    obtain ⟨ho, _⟩ := hw'
    have ho := ho.1
    rw [hvf] at ho
    exact own_block ho)
  refine ⟨gf, df, hvf, by omega, by omega, by omega, ?_, ?_⟩
  · have := hgr.1
    rw [hvf] at this
    exact own_mono this k1
  · intro u1 u2 gn dn f hs hk ho hgrow hat
    have hsz : (u2.setCell ⟨g, j * 3 + 1, none⟩ (.slice (some ⟨gn, 0, none⟩) (x.1.fields.length + 1) dn)).heap.size = u2.heap.size := by simp
    have hst : ∀ k, k ≠ g → (u2.setCell ⟨g, j * 3 + 1, none⟩ (.slice (some ⟨gn, 0, none⟩) (x.1.fields.length + 1) dn)).heap[k]? = u2.heap[k]? := fun k hk => Below.heap_setCell u2 ⟨g, j * 3 + 1, none⟩ _ k hk
    have hz := hgrow.size
    have hto : ∀ k, lo ≤ k → k < u.heap.size → k ≠ gf → u2.heap[k]? = u.heap[k]? := fun k q1 q2 q3 => (hgrow.block k (by omega) (fun e => q3 (by injection e))).trans (hk k q1 q2)
    have hgn : gn ≠ g := by omega
    refine sk_turn (z := ({ x.1 with fields := x.1.fields ++ [f] }, .slice (some ⟨gn, 0, none⟩) (x.1.fields.length + 1) dn, x.2.2)) h.kd hx (by rw [hsz]; omega) (fun k q1 q2 q3 q4 => (hst k q3).trans (hto k q1 (by have := h.hT; omega) (by omega))) ?_ ⟨?_, ?_⟩ (by omega)
    · rw [flatK_fld l j x _ _ hx]
      have hog' : u2.ownsRow lo 45 3 (.slice (some ⟨g, 0, none⟩) l.length cp) l.length (flatK l) := own_move h.own (fun k hk' => by have hk' := own_at hk'; exact hto k (by omega) (by omega) (by omega))
      exact (hog'.stored (j * 3 + 1) _).1
    · have hg' : Grow lo (u2.setCell ⟨g, j * 3 + 1, none⟩ (.slice (some ⟨gn, 0, none⟩) (x.1.fields.length + 1) dn)) (.slice (some ⟨gn, 0, none⟩) (x.1.fields.length + 1) dn) (x.1.fields ++ [f]) := by
        refine ⟨?_, by simp⟩
        have e : nums (x.1.fields ++ [f]) = nums x.1.fields ++ [.int .i64 f] := by simp [nums]
        rw [e, List.length_append]
        exact own_move ho (fun k hk' => by have hk' := own_at hk'; exact hst k (by omega))
      exact hg'.gint.si
    · generalize u2.setCell ⟨g, j * 3 + 1, none⟩ (.slice (some ⟨gn, 0, none⟩) (x.1.fields.length + 1) dn) = U at hsz hst
      obtain ⟨o, ho'⟩ : ∃ o, u.heap[gf]? = some o := ⟨_, Array.getElem?_eq_getElem hgf.2⟩
      have hne : ∀ k, k ≠ gf → ({ U with heap := U.heap.setIfInBounds gf o } : World).heap[k]? = U.heap[k]? := fun k hk => by
        show (U.heap.setIfInBounds gf o)[k]? = _
        rw [Array.getElem?_setIfInBounds_ne (by omega)]
      have heq : ({ U with heap := U.heap.setIfInBounds gf o } : World).heap[gf]? = some o := Array.getElem?_setIfInBounds_self_of_lt (by omega)
      have hws : XD (W j).1 { U with heap := U.heap.setIfInBounds gf o } x.2.1 x.2.2 x.1 := k3.2 _ (by simp; omega) (fun k a b => by
        by_cases hkg : k = gf
        · subst hkg; exact heq.trans ho'.symm
        · exact (hne k hkg).trans ((hst k (by omega)).trans (hto k (by omega) (Nat.lt_of_lt_of_le b k3.1) hkg)))
      obtain ⟨_, ⟨lm, e, hown, hd⟩, h7, _⟩ := hws
      refine sm_of (S' := (W j).1 + 2) e (by omega) (own_move hown (fun k hk' => (hne k (fun e => h7 gf hbf (e ▸ hk'))).symm)) (fun z hz' => ?_)
      obtain ⟨L0, M0, q1, q2, q3, q4⟩ := hd z hz'
      have hoo := q4 gf hbf
      exact (q2.move (by simp) (fun k a b => (hne k (by omega)).symm)).now.weak (by omega)
end Pg
end Go.Proofs.YtbgbddahniacbaaGreatDoor

/- The contract of the draw of any code. -/
namespace Go.Proofs.YtbgbddahniacbaaGreatDoor
namespace Cu
open Go.ChangeShapes Go.WideShapes Go.ChangeAt Go.RowKit St

/-- Three cells of a step written anew. -/
theorem row_set {w : World} {g k : Nat} {l : List Tx.Ins} (x : Tx.Ins) (hk : k < l.length) (hroom : Room w g (l.length * 3)) (hr : Row w g 0 l) :
    Row (((w.setCell ⟨g, k * 3, none⟩ (.int .i64 x.1)).setCell ⟨g, k * 3 + 1, none⟩ (.int .i64 x.2.1)).setCell ⟨g, k * 3 + 2, none⟩ (.int .i64 x.2.2)) g 0 (l.set k x) := by
  have ne : ∀ a b : Nat, a ≠ b → (⟨g, a, none⟩ : Addr) ≠ ⟨g, b, none⟩ := fun a b h e => h (congrArg Addr.off e)
  obtain ⟨⟨x0, h0⟩, _⟩ := hroom (k * 3) (by omega)
  obtain ⟨⟨x1, h1⟩, _⟩ := hroom (k * 3 + 1) (by omega)
  obtain ⟨⟨x2, h2⟩, _⟩ := hroom (k * 3 + 2) (by omega)
  have far : ∀ i, i < k * 3 ∨ k * 3 + 2 < i → ∀ u, w.cell? ⟨g, i, none⟩ = some u → (((w.setCell ⟨g, k * 3, none⟩ (.int .i64 x.1)).setCell ⟨g, k * 3 + 1, none⟩ (.int .i64 x.2.1)).setCell ⟨g, k * 3 + 2, none⟩ (.int .i64 x.2.2)).cell? ⟨g, i, none⟩ = some u := by
    intro i hi u hu
    rw [World.cell?_setCell_other _ _ _ _ (ne _ _ (by omega)), World.cell?_setCell_other _ _ _ _ (ne _ _ (by omega)), World.cell?_setCell_other _ _ _ _ (ne _ _ (by omega))]
    exact hu
  have g1 : (w.setCell ⟨g, k * 3, none⟩ (.int .i64 x.1)).cell? ⟨g, k * 3 + 1, none⟩ = some x1 := (World.cell?_setCell_other _ _ _ _ (ne _ _ (by omega))).trans h1
  have g2 : ((w.setCell ⟨g, k * 3, none⟩ (.int .i64 x.1)).setCell ⟨g, k * 3 + 1, none⟩ (.int .i64 x.2.1)).cell? ⟨g, k * 3 + 2, none⟩ = some x2 := by
    rw [World.cell?_setCell_other _ _ _ _ (ne _ _ (by omega)), World.cell?_setCell_other _ _ _ _ (ne _ _ (by omega))]
    exact h2
  intro j y hj
  rw [List.getElem?_set] at hj
  split at hj
  · rename_i e
    subst e
    simp at hj
    subst hj
    rw [Nat.zero_add]
    refine ⟨?_, ?_, ?_⟩
    · rw [World.cell?_setCell_other _ _ _ _ (ne _ _ (by omega)), World.cell?_setCell_other _ _ _ _ (ne _ _ (by omega))]
      exact World.cell?_setCell_same _ _ _ h0
    · rw [World.cell?_setCell_other _ _ _ _ (ne _ _ (by omega))]
      exact World.cell?_setCell_same _ _ _ g1
    · exact World.cell?_setCell_same _ _ _ g2
  · rename_i e
    obtain ⟨a0, a1, a2⟩ := hr j y hj
    rw [Nat.zero_add] at a0 a1 a2 ⊢
    exact ⟨far _ (by omega) _ a0, far _ (by omega) _ a1, far _ (by omega) _ a2⟩
theorem got_set {B k : Nat} {w : World} {g cp : Nat} {l : List Tx.Ins} (x : Tx.Ins) (hk : k < l.length) (hroom : Room w g (l.length * 3)) (hr : Row w g 0 l) (hB : B ≤ g) (hg : g < w.heap.size) :
    Got B (((w.setCell ⟨g, k * 3, none⟩ (.int .i64 x.1)).setCell ⟨g, k * 3 + 1, none⟩ (.int .i64 x.2.1)).setCell ⟨g, k * 3 + 2, none⟩ (.int .i64 x.2.2)) (.slice (some ⟨g, 0, none⟩) l.length cp) (l.set k x) := by
  refine ⟨g, cp, by rw [List.length_set], hB, ?_, row_set x hk hroom hr, ?_⟩
  · have := (((Below.refl 0 w).setCell (p := ⟨g, k * 3, none⟩) (Nat.zero_le _) (.int .i64 x.1)).setCell (p := ⟨g, k * 3 + 1, none⟩) (Nat.zero_le _) (.int .i64 x.2.1)).setCell (p := ⟨g, k * 3 + 2, none⟩) (Nat.zero_le _) (.int .i64 x.2.2)
    exact Nat.lt_of_lt_of_le hg this.size
  · rw [List.length_set]
    exact ((hroom.set _ _).set _ _).set _ _

set_option maxRecDepth 100000 in
set_option maxHeartbeats 4000000 in
theorem drawAnyC_cur (B c : Nat) (w : World) (a : Option Addr) (len cap : Nat) (h : Cur B w c a len cap) :
    Calls Tryz.prog 46 #[.pointer (some ⟨c, 0, none⟩)] w fun e w' => DrewC B w w c a len cap 41 e w' := by
  obtain ⟨i0, hi, hz0, hz1, hz2⟩ := info_parts infoI
  have hcw : c < w.heap.size := h.2.1
  have hBc : B ≤ c := h.1
  have H : Hid (Cur B w c a len cap) := h
  clear h
  go_enter Tryz.func46, Tryz.ntmps46
  go_wp2_with fail
  refine (once_at B c _ _ a len cap _ (At.start H.out)).mono ?_
  rintro e w1 ⟨q, rfl, h1⟩
  have H1 : Hid (At B w w1 c a len cap) := h1
  clear h1 H
  cases q
  · go_wp2_with fail
    refine (drawCode_cur B c _ a len cap H1.out.2).mono ?_
    rintro e w2 ⟨x, l, rfl, hg, hl, hf, h2⟩
    have HF : Hid (Fits l) := hf
    clear hf
    have HG : Hid (Got w1.heap.size w2 x l) := hg
    have H2 : Hid (At B w w2 c a len cap) := H1.out.step h2
    clear hg h2
    go_wp2
    go_ret
    exact ⟨_, l, rfl, HG.out.base H1.out.size, by omega, HF.out, H2.out⟩
  · go_wp2_with fail
    refine (below_at B c w _ a len cap _ H1.out).mono ?_
    rintro e w2 ⟨r, rfl, hr0, _, hr2, _, h2⟩
    have hr := hr2 (by omega)
    have H2 : Hid (At B w w2 c a len cap) := h2
    have hs2 : w.heap.size ≤ w2.heap.size := H2.out.size
    clear h2 hr2 H1
    go_wp2
    go_loopw [4, 5] (fun v i wr => ∃ (k : Nat) (v0 : Value) (lk : List Tx.Ins), (k : Int) ≤ 1 + r ∧ i = .int .i64 k ∧ v0 = v ∧ Hid (lk.length = k) ∧ Hid (Fits lk) ∧ Hid (wr.ownsRow w.heap.size 73 3 v0 lk.length (flat lk)) ∧ Hid (v0 ≠ .slice none 0 0) ∧ Hid (At B w wr c a len cap)) (fun _ i _ => (1 + r).toNat - (intOf i).toNat)
    case atStart => exact ⟨0, _, [], by omega, rfl, rfl, rfl, trivial, own_base (World.ownsRow_made w2 #[] 0 (Nat.le_refl _) (by decide) (by simp)) hs2, by show _ ≠ _; simp, H2.out.alloc _⟩
    case round =>
      obtain ⟨k, v, lk, hk, rfl, rfl, hlk, hfit, hown, hvn, hat⟩ := hrel
      clear H2
      by_cases hlt : (k : Int) < 1 + r
      · go_wp2_with fail
        refine (drawInsn_at B c _ _ a len cap _ (At.start hat.out.2)).mono ?_
        rintro e w3 ⟨op, x, y, rfl, bo, bx, by', h3⟩
        have HFX : Hid (Fits (lk ++ [(op, x, y)])) := hfit.out.append ⟨⟨bx, by'⟩, trivial⟩
        have HO3 : Hid (w3.ownsRow w.heap.size 73 3 v lk.length (flat lk)) := own_touch hown.out h3.1 hcw
        have HA3 : Hid (At B w w3 c a len cap) := hat.out.step h3
        have hs3 : w.heap.size ≤ w3.heap.size := HA3.out.size
        clear h3 hown hat
        have hlk8 : lk.length ≤ 10 := by have := hlk.out; omega
        go_wp2_with (at_builtin; refine wpList_append_own _ rfl _ _ 33 rfl w.heap.size 73 i0 (.agg #[.int .i64 0, .int .i64 0, .int .i64 0]) 3 24 Tryz.underlying33 hi hz0 hz1 hz2 rfl (by decide) _ _ _ rfl (HO3.out.alloc _) ⟨w3.heap.size, 0, none⟩ 1 1 (flat [(op, x, y)]) rfl rfl (lit_flat w3 [(op, x, y)] _ _ rfl) (flat_one _) (by unfold maxLen; omega) (by omega) (by simp; omega) ?_)
        intro v' w4 hown' hgrow hnil
        have hb4 : Below w.heap.size w3 w4 := ((Below.refl _ _).alloc hs3 _).grown hgrow (by simp; omega) (fun g hg => (HO3.out.lt g hg).1)
        have HA4 : Hid (At B w w4 c a len cap) := HA3.out.low hcw hb4
        have HV : Hid (v' ≠ .slice none 0 0) := fun h => by first | exact hnil h | exact absurd (hnil.1 h).1 (by simp)
        have HW : Hid (w4.ownsRow w.heap.size 73 3 v' (lk.length + 1) (flat lk ++ flat [(op, x, y)])) := hown'
        clear hown' hgrow hnil HO3 HA3 hb4
        go_wp2
        go_roundw
        case rel =>
          refine ⟨k + 1, v', lk ++ [(op, x, y)], by omega, by go_num, rfl, ?_, HFX.out, ?_, HV.out, HA4.out⟩
          · show _ = _
            have := hlk.out
            simp only [List.length_append, List.length_cons, List.length_nil]
            omega
          · show w4.ownsRow _ _ _ _ _ _
            rw [flat_append, List.length_append]; exact HW.out
        case measure => simp [intOf]; omega
      · have hlkr : Hid ((lk.length : Int) = 1 + r) := by
          show _ = _
          have := hlk.out
          omega
        have hlk10 : lk.length ≤ 10 := by have := hlk.out; omega
        clear hlk
        go_wp2_with fail
        refine (once_at B c _ _ a len cap _ (At.start hat.out.2)).mono ?_
        rintro e w3 ⟨q2, rfl, h3⟩
        have HG3 : Hid (Got w.heap.size w3 v lk) := got_of (own_touch hown.out h3.1 hcw) hvn.out
        have HA3 : Hid (At B w w3 c a len cap) := hat.out.step h3
        clear h3 hown hat hvn
        cases q2
        · have HGT := HG3
          have HAT := HA3
          clear HG3 HA3
          go_wp2_with fail
          refine (once_at B c _ _ a len cap _ (At.start HAT.out.2)).mono ?_
          rintro e w6 ⟨q3, rfl, h6⟩
          have HG6 : Hid (Got w.heap.size w6 v lk) := got_touch HGT.out h6.1 hcw
          have HA6 : Hid (At B w w6 c a len cap) := HAT.out.step h6
          have hs6 : w.heap.size ≤ w6.heap.size := HA6.out.size
          clear h6 HGT HAT
          cases q3
          · go_wp2
            go_ret
            exact ⟨_, lk, rfl, HG6.out, by omega, hfit.out, HA6.out⟩
          · clear HG6
            go_wp2_with (at_make; refine wpList_make_full _ rfl _ _ 33 rfl w6.heap.size 73 i0 (.agg #[.int .i64 0, .int .i64 0, .int .i64 0]) 3 Tryz.underlying33 hi hz0 hz1 .i64 .i64 _ _ 0 rfl rfl rfl rfl (by omega) (by unfold maxLen; omega) (Nat.le_refl _) ?_; intro w7 hown7 hgrow7)
            have hb7 : Below w.heap.size w6 w7 := (Below.refl _ _).grown hgrow7 hs6 (fun _ h => by simp at h)
            have HA7 : Hid (At B w w7 c a len cap) := HA6.out.low hcw hb7
            have HO7 : Hid (w7.ownsRow w.heap.size 73 3 (.slice (some ⟨w6.heap.size, 0, none⟩) 0 0) ([] : List Tx.Ins).length (flat [])) := by
              show World.ownsRow _ _ _ _ _ _ _
              refine own_base ?_ hs6
              simpa [madeCells, flat] using hown7
            clear hown7 hgrow7 hb7 HA6
            generalize w6.heap.size = g7 at *
            go_wp2_with fail
            go_loopg [4] 41 (fun n v wr => ∃ (v0 : Value) (lk : List Tx.Ins), v0 = v ∧ Hid (lk.length + n = 41) ∧ Hid (Fits lk) ∧ Hid (wr.ownsRow w.heap.size 73 3 v0 lk.length (flat lk)) ∧ Hid (v0 ≠ .slice none 0 0) ∧ Hid (At B w wr c a len cap))
            case atStart => exact ⟨_, [], rfl, rfl, trivial, HO7.out, by show _ ≠ _; simp, HA7.out⟩
            case round =>
              clear HO7 HA7
              obtain ⟨v, lk, rfl, hlk, hfit, hown, hvn, hat⟩ := hrel
              obtain ⟨gv, cv, rfl, hBv⟩ := own_shape hown.out hvn.out
              have hlk41 : lk.length ≤ 41 := by have := hlk.out; omega
              clear hvn
              go_wp2_with fail
              refine (below_at B c _ _ a len cap _ (At.start hat.out.2)).mono ?_
              rintro e w8 ⟨r8, rfl, h80, _, h82, _, h8⟩
              have hr8 := h82 (by omega)
              have HO8 : Hid (w8.ownsRow w.heap.size 73 3 (.slice (some ⟨gv, 0, none⟩) lk.length cv) lk.length (flat lk)) := own_touch hown.out h8.1 hcw
              have HA8 : Hid (At B w w8 c a len cap) := hat.out.step h8
              have hs8 : w.heap.size ≤ w8.heap.size := HA8.out.size
              clear h8 h82 hown hat
              by_cases hlt : (lk.length : Int) < 40 + r8
              · go_wp2_with (at_builtin; refine wpList_append_own _ rfl _ _ 33 rfl w.heap.size 73 i0 (.agg #[.int .i64 0, .int .i64 0, .int .i64 0]) 3 24 Tryz.underlying33 hi hz0 hz1 hz2 rfl (by decide) _ _ _ rfl (HO8.out.alloc _) ⟨w8.heap.size, 0, none⟩ 1 1 (flat [(10, 0, 0)]) rfl rfl (lit_flat w8 [(10, 0, 0)] _ _ rfl) (flat_one _) (by unfold maxLen; omega) (by omega) (by simp; omega) ?_)
                intro v' w9 hown' hgrow hnil
                have hb9 : Below w.heap.size w8 w9 := ((Below.refl _ _).alloc hs8 _).grown hgrow (by simp; omega) (fun g hg => (HO8.out.lt g hg).1)
                have HA9 : Hid (At B w w9 c a len cap) := HA8.out.low hcw hb9
                have HV : Hid (v' ≠ .slice none 0 0) := fun h => by first | exact hnil h | exact absurd (hnil.1 h).1 (by simp)
                have HW : Hid (w9.ownsRow w.heap.size 73 3 v' (lk.length + 1) (flat lk ++ flat [(10, 0, 0)])) := hown'
                clear hown' hgrow hnil HO8 HA8 hb9
                go_wp2_with fail
                go_roundg (40 - lk.length)
                case measure => have := hlk.out; omega
                case rel =>
                  refine ⟨v', lk ++ [(10, 0, 0)], rfl, ?_, hfit.out.append (by simp only [Fits, FitsI, and_true]; omega), ?_, HV.out, HA9.out⟩
                  · show _ = _
                    have := hlk.out
                    simp only [List.length_append, List.length_cons, List.length_nil]
                    omega
                  · show w9.ownsRow _ _ _ _ _ _
                    rw [flat_append, List.length_append]; exact HW.out
              · go_wp2
                go_ret
                exact ⟨_, lk, rfl, got_of HO8.out (by simp), by omega, hfit.out, HA8.out⟩
        · go_wp2_with fail
          refine (below_at B c _ _ a len cap _ (At.start HA3.out.2)).mono ?_
          rintro e w4 ⟨r4, rfl, h40, _, h42, _, h4⟩
          have hr4 := h42 (by omega)
          have HG4 : Hid (Got w.heap.size w4 v lk) := got_touch HG3.out h4.1 hcw
          have HA4 : Hid (At B w w4 c a len cap) := HA3.out.step h4
          clear h4 h42 HG3 HA3
          go_wp2_with fail
          refine (drawAnyI_at B c _ _ a len cap (At.start HA4.out.2)).mono ?_
          rintro e w5 ⟨op, x, y, rfl, bo, bx, by', h5⟩
          have HFB : Hid (FitsI (op, x, y)) := ⟨bx, by'⟩
          obtain ⟨gv, cv, rfl, hBv, hgl, hrow, hroom⟩ := got_touch HG4.out h5.1 hcw
          have HA5 : Hid (At B w w5 c a len cap) := HA4.out.step h5
          clear h5 HG4 HA4
          obtain ⟨k4, rfl⟩ := Int.eq_ofNat_of_zero_le h40
          have hk4 : k4 < lk.length := by have := hlkr.out; omega
          have hk4i : (k4 : Int) < (lk.length : Int) := by omega
          obtain ⟨⟨x0, d0⟩, f0⟩ := hroom (k4 * 3) (by omega)
          obtain ⟨⟨x1, d1⟩, f1⟩ := hroom (k4 * 3 + 1) (by omega)
          obtain ⟨⟨x2, d2⟩, f2⟩ := hroom (k4 * 3 + 2) (by omega)
          have HGT : Hid (Got w.heap.size (((w5.setCell ⟨gv, k4 * 3, none⟩ (.int .i64 op)).setCell ⟨gv, k4 * 3 + 1, none⟩ (.int .i64 x)).setCell ⟨gv, k4 * 3 + 2, none⟩ (.int .i64 y)) (.slice (some ⟨gv, 0, none⟩) lk.length cv) (lk.set k4 (op, x, y))) := got_set (op, x, y) hk4 hroom hrow hBv hgl
          have HAT : Hid (At B w (((w5.setCell ⟨gv, k4 * 3, none⟩ (.int .i64 op)).setCell ⟨gv, k4 * 3 + 1, none⟩ (.int .i64 x)).setCell ⟨gv, k4 * 3 + 2, none⟩ (.int .i64 y)) c a len cap) :=
            ⟨((HA5.out.1.setNew (p := ⟨gv, k4 * 3, none⟩) hBv _).setNew (p := ⟨gv, k4 * 3 + 1, none⟩) hBv _).setNew (p := ⟨gv, k4 * 3 + 2, none⟩) hBv _, ((HA5.out.2.setFar (p := ⟨gv, k4 * 3, none⟩) (by simp; omega) (by simp; omega) _).setFar (p := ⟨gv, k4 * 3 + 1, none⟩) (by simp; omega) (by simp; omega) _).setFar (p := ⟨gv, k4 * 3 + 2, none⟩) (by simp; omega) (by simp; omega) _⟩
          clear HA5 hrow hroom
          have HFS : Hid (Fits (lk.set k4 (op, x, y))) := hfit.out.set k4 HFB.out
          have hset : (lk.set k4 (op, x, y)).length = lk.length := List.length_set
          have HSET : Hid (lk.length = (lk.set k4 (op, x, y)).length) := hset.symm
          clear hset
          go_wp2_with fail
          refine (once_at B c _ _ a len cap _ (At.start HAT.out.2)).mono ?_
          rintro e w6 ⟨q3, rfl, h6⟩
          have HG6 : Hid (Got w.heap.size w6 (.slice (some ⟨gv, 0, none⟩) lk.length cv) (lk.set k4 (op, x, y))) := got_touch HGT.out h6.1 hcw
          have HA6 : Hid (At B w w6 c a len cap) := HAT.out.step h6
          have hs6 : w.heap.size ≤ w6.heap.size := HA6.out.size
          clear h6 HGT HAT
          cases q3
          · go_wp2
            go_ret
            exact ⟨_, _, rfl, HG6.out, by rw [← HSET.out]; omega, HFS.out, HA6.out⟩
          · clear HG6
            go_wp2_with (at_make; refine wpList_make_full _ rfl _ _ 33 rfl w6.heap.size 73 i0 (.agg #[.int .i64 0, .int .i64 0, .int .i64 0]) 3 Tryz.underlying33 hi hz0 hz1 .i64 .i64 _ _ 0 rfl rfl rfl rfl (by omega) (by unfold maxLen; omega) (Nat.le_refl _) ?_; intro w7 hown7 hgrow7)
            have hb7 : Below w.heap.size w6 w7 := (Below.refl _ _).grown hgrow7 hs6 (fun _ h => by simp at h)
            have HA7 : Hid (At B w w7 c a len cap) := HA6.out.low hcw hb7
            have HO7 : Hid (w7.ownsRow w.heap.size 73 3 (.slice (some ⟨w6.heap.size, 0, none⟩) 0 0) ([] : List Tx.Ins).length (flat [])) := by
              show World.ownsRow _ _ _ _ _ _ _
              refine own_base ?_ hs6
              simpa [madeCells, flat] using hown7
            clear hown7 hgrow7 hb7 HA6
            generalize w6.heap.size = g7 at *
            go_wp2_with fail
            go_loopg [4] 41 (fun n v wr => ∃ (v0 : Value) (lk : List Tx.Ins), v0 = v ∧ Hid (lk.length + n = 41) ∧ Hid (Fits lk) ∧ Hid (wr.ownsRow w.heap.size 73 3 v0 lk.length (flat lk)) ∧ Hid (v0 ≠ .slice none 0 0) ∧ Hid (At B w wr c a len cap))
            case atStart => exact ⟨_, [], rfl, rfl, trivial, HO7.out, by show _ ≠ _; simp, HA7.out⟩
            case round =>
              clear HO7 HA7
              clear HSET HFS HFB hfit hlkr hk4 hk4i d0 d1 d2 f0 f1 f2
              clear hlk10 hgl
              obtain ⟨v, lk, rfl, hlk, hfit, hown, hvn, hat⟩ := hrel
              obtain ⟨gz, cz, rfl, hBz⟩ := own_shape hown.out hvn.out
              have hlk41 : lk.length ≤ 41 := by have := hlk.out; omega
              clear hvn
              go_wp2_with fail
              refine (below_at B c _ _ a len cap _ (At.start hat.out.2)).mono ?_
              rintro e w8 ⟨r8, rfl, h80, _, h82, _, h8⟩
              have hr8 := h82 (by omega)
              have HO8 : Hid (w8.ownsRow w.heap.size 73 3 (.slice (some ⟨gz, 0, none⟩) lk.length cz) lk.length (flat lk)) := own_touch hown.out h8.1 hcw
              have HA8 : Hid (At B w w8 c a len cap) := hat.out.step h8
              have hs8 : w.heap.size ≤ w8.heap.size := HA8.out.size
              clear h8 h82 hown hat
              by_cases hlt : (lk.length : Int) < 40 + r8
              · go_wp2_with (at_builtin; refine wpList_append_own _ rfl _ _ 33 rfl w.heap.size 73 i0 (.agg #[.int .i64 0, .int .i64 0, .int .i64 0]) 3 24 Tryz.underlying33 hi hz0 hz1 hz2 rfl (by decide) _ _ _ rfl (HO8.out.alloc _) ⟨w8.heap.size, 0, none⟩ 1 1 (flat [(10, 0, 0)]) rfl rfl (lit_flat w8 [(10, 0, 0)] _ _ rfl) (flat_one _) (by unfold maxLen; omega) (by omega) (by simp; omega) ?_)
                intro v' w9 hown' hgrow hnil
                have hb9 : Below w.heap.size w8 w9 := ((Below.refl _ _).alloc hs8 _).grown hgrow (by simp; omega) (fun g hg => (HO8.out.lt g hg).1)
                have HA9 : Hid (At B w w9 c a len cap) := HA8.out.low hcw hb9
                have HV : Hid (v' ≠ .slice none 0 0) := fun h => by first | exact hnil h | exact absurd (hnil.1 h).1 (by simp)
                have HW : Hid (w9.ownsRow w.heap.size 73 3 v' (lk.length + 1) (flat lk ++ flat [(10, 0, 0)])) := hown'
                clear hown' hgrow hnil HO8 HA8 hb9
                go_wp2_with fail
                go_roundg (40 - lk.length)
                case measure => have := hlk.out; omega
                case rel =>
                  refine ⟨v', lk ++ [(10, 0, 0)], rfl, ?_, hfit.out.append (by simp only [Fits, FitsI, and_true]; omega), ?_, HV.out, HA9.out⟩
                  · show _ = _
                    have := hlk.out
                    simp only [List.length_append, List.length_cons, List.length_nil]
                    omega
                  · show w9.ownsRow _ _ _ _ _ _
                    rw [flat_append, List.length_append]; exact HW.out
              · go_wp2
                go_ret
                exact ⟨_, lk, rfl, got_of HO8.out (by simp), by omega, hfit.out, HA8.out⟩
end Cu
end Go.Proofs.YtbgbddahniacbaaGreatDoor
