/- Contracts of both sides' account of the fields of a class. -/
import Derived.Test.YtobaeenngffndaaPg5
import Derived.Deep.RegionLaw
namespace Go.Proofs.Ytobaeenngffndaa
namespace Pg
open Go.ChangeShapes Go.WideShapes Go.ChangeAt Go.RowKit St

/-- The fields of a class, from the highest above it on. -/
def fieldsR (p : Prg) : Nat → Int → List Int
  | 0, _ => []
  | f + 1, up => if up < 0 then [] else match p[up.toNat]? with | none => [] | some c => fieldsR p f c.super ++ c.fields
def fieldsF (p : Prg) (t : Int) : List Int := if okP p && (decide (0 ≤ t) && decide (t < (p.length : Int))) then fieldsR p 6 t else []
theorem fieldsR_neg (p : Prg) (f : Nat) {up : Int} (h : up < 0) : fieldsR p f up = [] := by
  cases f with
  | zero => rfl
  | succ f => simp [fieldsR, h]
theorem fieldsR_fuel {p : Prg} {n : Nat} (hs : SupOk p n) : ∀ (f g : Nat) (up : Int), up < (n : Int) → up < (f : Int) → up < (g : Int) → fieldsR p f up = fieldsR p g up := by
  intro f
  induction f with
  | zero => intro g up _ h1 _; rw [fieldsR_neg _ _ (by omega), fieldsR_neg _ _ (by omega)]
  | succ f ih =>
    intro g up hn h1 h2
    by_cases h0 : up < 0
    · rw [fieldsR_neg _ _ h0, fieldsR_neg _ _ h0]
    · cases g with
      | zero => omega
      | succ g =>
        simp only [fieldsR, h0, if_false]
        cases hc : p[up.toNat]? with
        | none => rfl
        | some c =>
          have := hs up.toNat c (by omega) hc
          simp only []
          rw [ih g c.super (by omega) (by omega) (by omega)]
theorem fieldsR_step {p : Prg} {n : Nat} (hs : SupOk p n) {u : Nat} (hu : u < n) (h6 : u < 6) {c : Cls} (hc : p[u]? = some c) : fieldsR p 6 (u : Int) = fieldsR p 6 c.super ++ c.fields := by
  have h0 : ¬ (u : Int) < 0 := by omega
  have := hs u c hu hc
  have e : fieldsR p 5 c.super = fieldsR p 6 c.super := fieldsR_fuel hs 5 6 c.super (by omega) (by omega) (by omega)
  show (if (u : Int) < 0 then [] else match p[(u : Int).toNat]? with | none => [] | some c => fieldsR p 5 c.super ++ c.fields) = _
  rw [if_neg h0, Int.toNat_natCast, hc]
  simp only []
  rw [e]
theorem fieldsR_len {p : Prg} {n : Nat} (hs : SupOk p n) (h6 : n ≤ 6) (hn : n ≤ p.length) (h4 : ∀ j c, j < n → p[j]? = some c → c.fields.length ≤ 4) : ∀ (k : Nat) (up : Int), up < (k : Int) → up < (n : Int) → (fieldsR p 6 up).length ≤ 4 * k := by
  intro k
  induction k with
  | zero => intro up h _; rw [fieldsR_neg _ _ (by omega)]; simp
  | succ k ih =>
    intro up hk hu
    by_cases h0 : up < 0
    · rw [fieldsR_neg _ _ h0]; simp
    · obtain ⟨u, rfl⟩ := Int.eq_ofNat_of_zero_le (show 0 ≤ up by omega)
      have hc := List.getElem?_eq_getElem (show u < p.length by omega)
      have h1 := hs u _ (by omega) hc
      have h2 := h4 u _ (by omega) hc
      rw [fieldsR_step hs (by omega) (by omega) hc, List.length_append]
      have := ih p[u].super (by omega) (by omega)
      omega
theorem okP_sup {p : Prg} (h : okP p = true) : SupOk p p.length := SupOk.of fun _ hi => okP_at h hi
theorem okP_four {p : Prg} (h : okP p = true) : ∀ j c, j < p.length → p[j]? = some c → c.fields.length ≤ 4 := fun _ _ hj hc => (okC_few (by rw [← okAt_of hc]; exact okP_at h hj)).1

/-- A row of numbers that the call has made and that may grow. -/
def nums (l : List Int) : List Value := l.map (Value.int .i64)
def Grow (B : Nat) (w : World) (v : Value) (l : List Int) : Prop := w.ownsRow B 2 1 v l.length (nums l) ∧ v ≠ .slice none 0 0
theorem ownOn {u v : World} {B n q : Nat} {e : TypeId} {x : Value} {xs : List Value} (h : u.ownsRow B e q x n xs) (hb : Below u.heap.size u v) : v.ownsRow B e q x n xs :=
  h.kept (row := none) ⟨hb.os, hb.tape, hb.output, hb.size, fun k hk _ => hb.block k hk⟩ (by
    cases hx : x.ownBlock with
    | none => exact Or.inl rfl
    | some g => exact Or.inr (by simp))
theorem ownBase {w : World} {B B' : Nat} {e : TypeId} {q n : Nat} {x : Value} {xs : List Value} (h : w.ownsRow B e q x n xs) (hB : B' ≤ B) : w.ownsRow B' e q x n xs := by
  obtain ⟨q1, q2 | ⟨g1, c1, cur1, q3, q4, q5⟩⟩ := h
  · exact ⟨q1, Or.inl q2⟩
  · exact ⟨q1, Or.inr ⟨g1, c1, cur1, q3, Nat.le_trans hB q4, q5⟩⟩
/-- A row of numbers at the front of a block, which may be written. -/
def GInt (B : Nat) (w : World) (v : Value) (l : List Int) : Prop := ∃ g cap, v = .slice (some ⟨g, 0, none⟩) l.length cap ∧ B ≤ g ∧ g < w.heap.size ∧ IRow w g 0 l ∧ Room w g l.length
theorem Grow.gint {B : Nat} {w : World} {v : Value} {l : List Int} (h : Grow B w v l) : GInt B w v l := by
  obtain ⟨h, hv⟩ := h
  have hc := @World.ownsRow.cells w B 2 1 v l.length (nums l) h
  have hlt := @World.ownsRow.lt w B 2 1 v l.length (nums l) h
  obtain ⟨_, ⟨h, _⟩ | ⟨g, cap, cur, rfl, hB, hblk, hcap, hmax, hsz, _⟩⟩ := h
  · exact absurd h hv
  · have hcell : ∀ j x, l[j]? = some x → w.cell? ⟨g, j, none⟩ = some (.int .i64 x) := fun j x hj => by
      have := hc (g := g) rfl j (.int .i64 x) (by simp [nums, hj])
      simpa [Go.WideShapes.add_plain] using this
    refine ⟨g, cap, rfl, hB, (hlt g rfl).2, fun j x hj => by rw [Nat.zero_add]; exact hcell j x hj, fun j hj => ⟨⟨_, hcell j _ (List.getElem?_eq_getElem hj)⟩, by simp [World.frozen?, hblk]⟩⟩
theorem GInt.on {B : Nat} {u w : World} {v : Value} {l : List Int} (h : GInt B u v l) (hb : Keep B u w) : GInt B w v l := by
  obtain ⟨g, cap, hv, h1, h2, h3, h4⟩ := h
  refine ⟨g, cap, hv, h1, Nat.lt_of_lt_of_le h2 hb.size, fun j x hj => (hb.cell (p := ⟨g, 0 + j, none⟩) h1 h2).trans (h3 j x hj), fun i hi => ?_⟩
  obtain ⟨⟨x, hx⟩, hf⟩ := h4 i hi
  exact ⟨⟨x, (hb.cell (p := ⟨g, i, none⟩) h1 h2).trans hx⟩, (hb.frozen (p := ⟨g, i, none⟩) h1 h2).trans hf⟩
theorem GInt.si {B : Nat} {w : World} {v : Value} {l : List Int} (h : GInt B w v l) : SI true B w v l := by
  obtain ⟨g, cap, rfl, h1, h2, h3, h4⟩ := h
  exact SI.row h1 h2 h3 h4
theorem SI.nums {f : Bool} {B : Nat} {w : World} {b : Addr} {n cap : Nat} {l : List Int} (h : SI f B w (.slice (some b) n cap) l) : ∀ j u, (nums l)[j]? = some u → w.cell? (b.add j) = some u := by
  intro j u hu
  unfold Pg.nums at hu
  rw [List.getElem?_map] at hu
  cases hv : l[j]? with
  | none => rw [hv] at hu; simp at hu
  | some x =>
    rw [hv] at hu
    simp at hu
    subst hu
    have hj : j < l.length := (List.getElem?_eq_some_iff.1 hv).1
    obtain ⟨b', o', he, hrow⟩ := SI.rows h (by omega)
    simp at he
    subst he
    rw [Go.WideShapes.add_plain]
    exact hrow j x hv
theorem grow_nil (w : World) (o : Obj) : Grow w.heap.size ((w.alloc o).alloc (.cells #[] 2)) (.slice (some ⟨w.heap.size + 1, 0, none⟩) 0 0) [] := by
  refine ⟨ownBase (B := (w.alloc o).heap.size) ?_ (by simp), by simp⟩
  have h : ((w.alloc o).alloc (.cells #[] 2)).ownsRow (w.alloc o).heap.size 2 1 (.slice (some ⟨(w.alloc o).heap.size, 0, none⟩) 0 0) 0 [] := World.ownsRow_made (w.alloc o) #[] 0 (Nat.le_refl _) (by decide) (by simp)
  simpa [Pg.nums] using h
theorem nums_one (l : List Int) : ∀ u ∈ nums l, u.oneCell' = true := by
  intro u hu
  obtain ⟨x, _, rfl⟩ := List.mem_map.1 hu
  rfl
theorem stepApp {P : Program} (w : World) {ops : Array Oper} {o : Oper} {a : Act} {K : Act → World → Prop} {Q : Exit → Act → World → Prop} {E : Prop} (hgd : o.guard = none) (s x : Operand) (t : TypeId)
    (ho : o.op = .call { callee := .builtin .append, args := #[s, x], argTypes := #[t, t] })
    (base : Nat) (e : TypeId) (i : TypeInfo) (z : Value) (size bytes : Nat) (ht : P.underlying t = some (.slice e)) (hi : P.info? e = some i) (hz : i.zero = some z)
    (hsize : i.size = size) (hby : i.bytes = bytes) (hzs : z.cells.size = size) (hsz : 0 < size)
    (v : Value) (n : Nat) (xs : List Value) (hs : a.eval s = v) (hown : w.ownsRow base e size v n xs)
    (ad : Addr) (m c : Nat) (news : List Value) (hx : a.eval x = .slice (some ad) m c) (hl : news.length = m * size) (hnews : ∀ j u, news[j]? = some u → w.cell? (ad.add j) = some u) (h1 : ∀ u ∈ news, u.oneCell' = true)
    (h63 : n + m ≤ maxLen) (hbytes : (n + m) * bytes ≤ 140737488355328) (hbase : base ≤ w.heap.size)
    (h : ∀ v' w', w'.ownsRow base e size v' (n + m) (xs ++ news) → w.grownBy w' v.ownBlock → (v' = .slice none 0 0 ↔ v = .slice none 0 0 ∧ m = 0) → K (a.put o.dst v') w') :
    if Region.wanted o (yielded ops a.tmps) = true then Oper.wp P o a w K Q else E := by
  have hw : Region.wanted o (yielded ops a.tmps) = true := by simp [Region.wanted, hgd]
  rw [if_pos hw]
  exact wp_append_own w s x t ho base e i z size bytes ht hi hz hsize hby hzs hsz v n xs hs hown ad m c news hx hl hnews h1 h63 hbytes hbase h
theorem stepAppNone {P : Program} (w : World) {ops : Array Oper} {o : Oper} {a : Act} {K : Act → World → Prop} {Q : Exit → Act → World → Prop} {E : Prop} (hgd : o.guard = none) (s x : Operand) (t : TypeId)
    (ho : o.op = .call { callee := .builtin .append, args := #[s, x], argTypes := #[t, t] })
    (base : Nat) (e : TypeId) (i : TypeInfo) (size : Nat) (ht : P.underlying t = some (.slice e)) (hi : P.info? e = some i)
    (v : Value) (n : Nat) (xs : List Value) (hs : a.eval s = v) (hown : w.ownsRow base e size v n xs) (hx : a.eval x = .slice none 0 0)
    (h : K (a.put o.dst v) w) :
    if Region.wanted o (yielded ops a.tmps) = true then Oper.wp P o a w K Q else E := by
  have hw : Region.wanted o (yielded ops a.tmps) = true := by simp [Region.wanted, hgd]
  rw [if_pos hw]
  have hrun := run_append_owned_none (P := P) (w := w) base t o.type e i size ht hi v n xs hown
  unfold Oper.wp
  simp [execOp, ho, resolve, invoke, builtin, hs, hx, hrun, Result.andThen]
  exact h

set_option maxRecDepth 100000 in
set_option maxHeartbeats 4000000 in
theorem fieldsDownTo (B : Nat) (p : Prg) (b o cap : Nat) (hok : okP p = true) (wI : World) (hp : SK front B wI (.slice (some ⟨b, o, none⟩) p.length cap) p) : ∀ (n : Nat) (up : Int) (w : World), -1 ≤ up → up < (n : Int) → up < (p.length : Int) → Below wI.heap.size wI w →
    Calls Try.prog 74 #[.agg #[.slice (some ⟨b, o, none⟩) p.length cap], .int .i64 up] w fun e w' => ∃ v, e = .returned v ∧ Grow w.heap.size w' v (fieldsR p 6 up) ∧ Below w.heap.size w w' := by
  intro n
  induction n with
  | zero =>
    intro up w h1 h2 _ _
    obtain rfl : up = -1 := by omega
    go_enter Try.func74, Try.ntmps74
    go_wp2
    go_ret
    exact ⟨_, rfl, by rw [fieldsR_neg _ _ (by omega)]; exact grow_nil w _, ((Below.refl _ _).alloc (Nat.le_refl _) _).alloc (by simp) _⟩
  | succ n ih =>
    intro up w h1 h2 h3 hbI
    obtain ⟨i0, hif, hz0, hz1, hz2⟩ := info_parts infoN
    by_cases hneg : up = -1
    · subst hneg
      go_enter Try.func74, Try.ntmps74
      go_wp2
      go_ret
      exact ⟨_, rfl, by rw [fieldsR_neg _ _ (by omega)]; exact grow_nil w _, ((Below.refl _ _).alloc (Nat.le_refl _) _).alloc (by simp) _⟩

    · obtain ⟨u, rfl⟩ := Int.eq_ofNat_of_zero_le (show 0 ≤ up by omega)
      have hup : u < p.length := by omega
      have hl6 := (okP_len hok).2
      obtain ⟨b', o', he, _, vf, vm, d0, d1, d2, hcv⟩ := hp.get hup
      simp at he
      obtain ⟨rfl, rfl⟩ := he
      obtain ⟨z1, t1, rfl⟩ := hcv.1.form
      obtain ⟨z2, t2, rfl⟩ := hcv.2.form
      have HST : Hid (fieldsR p 6 (u : Int) = fieldsR p 6 p[u].super ++ p[u].fields) := fieldsR_step (okP_sup hok) hup (by omega) (List.getElem?_eq_getElem hup)
      have hsu := okP_sup hok u _ hup (List.getElem?_eq_getElem hup)
      have hf4 := okP_four hok u _ hup (List.getElem?_eq_getElem hup)
      have HFL : Hid (SI true B wI (.slice z1 p[u].fields.length t1) p[u].fields) := hcv.1
      have hlen : (fieldsR p 6 p[u].super).length ≤ 24 := fieldsR_len (okP_sup hok) hl6 (Nat.le_refl _) (okP_four hok) 6 _ (by omega) (by omega)
      have IH : Hid (∀ w, Below wI.heap.size wI w → Calls Try.prog 74 #[.agg #[.slice (some ⟨b, o, none⟩) p.length cap], .int .i64 p[u].super] w fun e w' => ∃ v, e = .returned v ∧ Grow w.heap.size w' v (fieldsR p 6 p[u].super) ∧ Below w.heap.size w w') := fun w hw => ih _ w hsu.1 (by omega) (by omega) hw
      have l0 : b < wI.heap.size := cell_lt d0
      generalize p[u] = c at *
      generalize fieldsR p 6 c.super = above at *
      clear ih hcv hp hsu
      have hui : (u : Int) < (p.length : Int) := by omega
      have hui0 : (0 : Int) ≤ (u : Int) := by omega
      obtain ⟨W, hW⟩ : ∃ W, W = ((w.alloc (.cells #[.slice (some ⟨b, o, none⟩) p.length cap] 44)).alloc (.cells #[.int .i64 c.super, .slice z1 c.fields.length t1, .slice z2 c.meths.length t2] 105)) := ⟨_, rfl⟩
      have hwW : Below w.heap.size w W := by rw [hW]; exact ((Below.refl _ _).alloc (Nat.le_refl _) _).alloc (by simp) _
      have hbP : Below w.heap.size w (w.alloc (.cells #[.slice (some ⟨b, o, none⟩) p.length cap] 44)) := (Below.refl _ _).alloc (Nat.le_refl _) _
      have lw : b < w.heap.size := Nat.lt_of_lt_of_le l0 hbI.size
      have c0 := (hbP.cell lw).trans ((hbI.cell l0).trans d0)
      have c1 := (hbP.cell lw).trans ((hbI.cell l0).trans d1)
      have c2 := (hbP.cell lw).trans ((hbI.cell l0).trans d2)
      clear hbP
      have P0 : Hid (Cells W w.heap.size [.slice (some ⟨b, o, none⟩) p.length cap]) := by rw [hW]; exact (Cells.new w _ rfl _ _).alloc _
      have C0 : Hid (Cells W (w.heap.size + 1) [.int .i64 c.super, .slice z1 c.fields.length t1, .slice z2 c.meths.length t2]) := by rw [hW]; exact Cells.new (w.alloc _) _ (by simp) _ _
      obtain ⟨p0, _⟩ := P0.out.g0
      obtain ⟨k0, _⟩ := C0.out.g0
      obtain ⟨k1, _⟩ := C0.out.g1
      have hIW : Below wI.heap.size wI W := below_over hbI hwW
      clear d0 d1 d2
      cases z1 with
      | none =>
        obtain ⟨hfe, _, ht1⟩ := Arr.nil HFL.out
        have HFE : Hid (c.fields = []) := hfe
        have hfl : c.fields.length = 0 := by rw [hfe]; rfl
        rw [hfl, ht1] at k1 hW c1
        clear hfe hfl ht1 HFL hf4
        go_enter Try.func74, Try.ntmps74
        go_wp2_with fail
        rw [← hW]
        clear hW c0 c1 c2 
        go_region_law (first
          | (refine stepAppNone _ rfl (.tmp 17) (.tmp 19) 24 rfl W.drew.heap.size 2 i0 1 Try.underlying24 hif v above.length (nums above) (by simp [Act.eval]) hg.1 (by simp [Act.eval]) ?_; dsimp only)
          | (go_simp; go_at_call 74; refine (IH.out _ hIW.drew).mono ?_; rintro e w1 ⟨v, rfl, hg, hb1⟩; have k1' := (hb1.cell (cell_lt k1)).trans k1; have p0' := (hb1.cell (cell_lt p0)).trans p0; dsimp only))
        all_goals
          have hw1 : Below w.heap.size w w1 := below_over hwW (below_over (Below.refl _ _).drew hb1)
          have HG : Hid (Grow w.heap.size w1 v (fieldsR p 6 (u : Int))) := by
            show Grow _ _ _ _
            rw [HST.out, HFE.out, List.append_nil]
            exact ⟨ownBase hg.1 (by have := hwW.size; simpa using this), hg.2⟩
          clear hg hb1 k1 k1' p0 p0' k0
          go_wp2
          go_ret
          exact ⟨_, rfl, HG.out, hw1⟩
      | some ad =>
        have HNW : Hid (∀ x, Below W.heap.size W x → ∀ j u, (nums c.fields)[j]? = some u → x.cell? (ad.add j) = some u) := fun x hx => SI.nums (SI.on HFL.out (Keep.of (below_over hIW hx)))
        go_enter Try.func74, Try.ntmps74
        go_wp2_with fail
        rw [← hW]
        clear hW c0 c1 c2 
        go_region_law (first
          | (refine stepApp _ rfl (.tmp 17) (.tmp 19) 24 rfl W.drew.heap.size 2 i0 (.int .i64 0) 1 8 Try.underlying24 hif hz0 hz1 hz2 rfl (by decide) v above.length (nums above) (by simp [Act.eval]) hg.1 ad c.fields.length t1 (nums c.fields) (by simp [Act.eval]) (by simp [nums]) (HNW.out _ (below_over (Below.refl _ _).drew hb1)) (nums_one _) (by unfold maxLen; omega) (by omega) hb1.size ?_; intro v1 w2 hown1 hgrow1 hnil1; dsimp only)
          | (go_simp; go_at_call 74; refine (IH.out _ hIW.drew).mono ?_; rintro e w1 ⟨v, rfl, hg, hb1⟩; have k1' := (hb1.cell (cell_lt k1)).trans k1; have p0' := (hb1.cell (cell_lt p0)).trans p0; dsimp only))
        all_goals
          have hWs : w.heap.size ≤ W.drew.heap.size := by have := hwW.size; simpa using this
          have hw1 : Below w.heap.size w w1 := below_over hwW (below_over (Below.refl _ _).drew hb1)
          have hw2 : Below w.heap.size w w2 := hw1.grown hgrow1 hw1.size (fun q hq => Nat.le_trans hWs (hg.1.lt q hq).1)
          have HG : Hid (Grow w.heap.size w2 v1 (fieldsR p 6 (u : Int))) := by
            show Grow _ _ _ _
            rw [HST.out]
            refine ⟨ownBase (by unfold nums at hown1 ⊢; rw [List.length_append, List.map_append]; exact hown1) hWs, fun e => ?_⟩
            have := (hnil1.1 e).1
            exact hg.2 this
          clear hg hb1 k1 k1' p0 p0' k0 hown1 hgrow1 hnil1
          go_wp2
          go_ret
          exact ⟨_, rfl, HG.out, hw2⟩
set_option maxRecDepth 100000 in
set_option maxHeartbeats 4000000 in
theorem l4Fields (B : Nat) (p : Prg) (b o cap : Nat) (hok : okP p = true) (wI : World) (hp : SK front B wI (.slice (some ⟨b, o, none⟩) p.length cap) p) : ∀ (n : Nat) (up : Int) (w : World), -1 ≤ up → up < (n : Int) → up < (p.length : Int) → Below wI.heap.size wI w →
    Calls Try.prog 85 #[.agg #[.slice (some ⟨b, o, none⟩) p.length cap], .int .i64 up] w fun e w' => ∃ v, e = .returned v ∧ Grow w.heap.size w' v (fieldsR p 6 up) ∧ Below w.heap.size w w' := by
  intro n
  induction n with
  | zero =>
    intro up w h1 h2 _ _
    obtain rfl : up = -1 := by omega
    go_enter Try.func85, Try.ntmps85
    go_wp2
    go_ret
    exact ⟨_, rfl, by rw [fieldsR_neg _ _ (by omega)]; exact grow_nil w _, ((Below.refl _ _).alloc (Nat.le_refl _) _).alloc (by simp) _⟩
  | succ n ih =>
    intro up w h1 h2 h3 hbI
    obtain ⟨i0, hif, hz0, hz1, hz2⟩ := info_parts infoN
    by_cases hneg : up = -1
    · subst hneg
      go_enter Try.func85, Try.ntmps85
      go_wp2
      go_ret
      exact ⟨_, rfl, by rw [fieldsR_neg _ _ (by omega)]; exact grow_nil w _, ((Below.refl _ _).alloc (Nat.le_refl _) _).alloc (by simp) _⟩

    · obtain ⟨u, rfl⟩ := Int.eq_ofNat_of_zero_le (show 0 ≤ up by omega)
      have hup : u < p.length := by omega
      have hl6 := (okP_len hok).2
      obtain ⟨b', o', he, _, vf, vm, d0, d1, d2, hcv⟩ := hp.get hup
      simp at he
      obtain ⟨rfl, rfl⟩ := he
      obtain ⟨z1, t1, rfl⟩ := hcv.1.form
      obtain ⟨z2, t2, rfl⟩ := hcv.2.form
      have HST : Hid (fieldsR p 6 (u : Int) = fieldsR p 6 p[u].super ++ p[u].fields) := fieldsR_step (okP_sup hok) hup (by omega) (List.getElem?_eq_getElem hup)
      have hsu := okP_sup hok u _ hup (List.getElem?_eq_getElem hup)
      have hf4 := okP_four hok u _ hup (List.getElem?_eq_getElem hup)
      have HFL : Hid (SI true B wI (.slice z1 p[u].fields.length t1) p[u].fields) := hcv.1
      have hlen : (fieldsR p 6 p[u].super).length ≤ 24 := fieldsR_len (okP_sup hok) hl6 (Nat.le_refl _) (okP_four hok) 6 _ (by omega) (by omega)
      have IH : Hid (∀ w, Below wI.heap.size wI w → Calls Try.prog 85 #[.agg #[.slice (some ⟨b, o, none⟩) p.length cap], .int .i64 p[u].super] w fun e w' => ∃ v, e = .returned v ∧ Grow w.heap.size w' v (fieldsR p 6 p[u].super) ∧ Below w.heap.size w w') := fun w hw => ih _ w hsu.1 (by omega) (by omega) hw
      have l0 : b < wI.heap.size := cell_lt d0
      generalize p[u] = c at *
      generalize fieldsR p 6 c.super = above at *
      clear ih hcv hp hsu
      have hui : (u : Int) < (p.length : Int) := by omega
      have hui0 : (0 : Int) ≤ (u : Int) := by omega
      obtain ⟨W, hW⟩ : ∃ W, W = (w.alloc (.cells #[.slice (some ⟨b, o, none⟩) p.length cap] 44)) := ⟨_, rfl⟩
      have hwW : Below w.heap.size w W := by rw [hW]; exact (Below.refl _ _).alloc (Nat.le_refl _) _
      have lw : b < w.heap.size := Nat.lt_of_lt_of_le l0 hbI.size
      have k0 := (hwW.cell lw).trans ((hbI.cell l0).trans d0)
      have k1 := (hwW.cell lw).trans ((hbI.cell l0).trans d1)
      have P0 : Hid (Cells W w.heap.size [.slice (some ⟨b, o, none⟩) p.length cap]) := by rw [hW]; exact Cells.new w _ rfl _ _
      obtain ⟨p0, _⟩ := P0.out.g0
      have hIW : Below wI.heap.size wI W := below_over hbI hwW
      clear d0 d1 d2
      cases z1 with
      | none =>
        obtain ⟨hfe, _, ht1⟩ := Arr.nil HFL.out
        have HFE : Hid (c.fields = []) := hfe
        have hfl : c.fields.length = 0 := by rw [hfe]; rfl
        rw [hfl, ht1] at k1 
        clear hfe hfl ht1 HFL hf4
        go_enter Try.func85, Try.ntmps85
        go_wp2_with fail
        rw [← hW]
        clear hW 
        go_region_law (first
          | (refine stepAppNone _ rfl (.tmp 15) (.tmp 21) 24 rfl W.drew.heap.size 2 i0 1 Try.underlying24 hif v above.length (nums above) (by simp [Act.eval]) hg.1 (by simp [Act.eval]) ?_; dsimp only)
          | (go_simp; go_at_call 85; refine (IH.out _ hIW.drew).mono ?_; rintro e w1 ⟨v, rfl, hg, hb1⟩; have k1' := (hb1.cell (cell_lt k1)).trans k1; have p0' := (hb1.cell (cell_lt p0)).trans p0; dsimp only))
        all_goals
          have hw1 : Below w.heap.size w w1 := below_over hwW (below_over (Below.refl _ _).drew hb1)
          have HG : Hid (Grow w.heap.size w1 v (fieldsR p 6 (u : Int))) := by
            show Grow _ _ _ _
            rw [HST.out, HFE.out, List.append_nil]
            exact ⟨ownBase hg.1 (by have := hwW.size; simpa using this), hg.2⟩
          clear hg hb1 k1 k1' p0 p0' k0
          go_wp2
          go_ret
          exact ⟨_, rfl, HG.out, hw1⟩
      | some ad =>
        have HNW : Hid (∀ x, Below W.heap.size W x → ∀ j u, (nums c.fields)[j]? = some u → x.cell? (ad.add j) = some u) := fun x hx => SI.nums (SI.on HFL.out (Keep.of (below_over hIW hx)))
        go_enter Try.func85, Try.ntmps85
        go_wp2_with fail
        rw [← hW]
        clear hW 
        go_region_law (first
          | (refine stepApp _ rfl (.tmp 15) (.tmp 21) 24 rfl W.drew.heap.size 2 i0 (.int .i64 0) 1 8 Try.underlying24 hif hz0 hz1 hz2 rfl (by decide) v above.length (nums above) (by simp [Act.eval]) hg.1 ad c.fields.length t1 (nums c.fields) (by simp [Act.eval]) (by simp [nums]) (HNW.out _ (below_over (Below.refl _ _).drew hb1)) (nums_one _) (by unfold maxLen; omega) (by omega) hb1.size ?_; intro v1 w2 hown1 hgrow1 hnil1; dsimp only)
          | (go_simp; go_at_call 85; refine (IH.out _ hIW.drew).mono ?_; rintro e w1 ⟨v, rfl, hg, hb1⟩; have k1' := (hb1.cell (cell_lt k1)).trans k1; have p0' := (hb1.cell (cell_lt p0)).trans p0; dsimp only))
        all_goals
          have hWs : w.heap.size ≤ W.drew.heap.size := by have := hwW.size; simpa using this
          have hw1 : Below w.heap.size w w1 := below_over hwW (below_over (Below.refl _ _).drew hb1)
          have hw2 : Below w.heap.size w w2 := hw1.grown hgrow1 hw1.size (fun q hq => Nat.le_trans hWs (hg.1.lt q hq).1)
          have HG : Hid (Grow w.heap.size w2 v1 (fieldsR p 6 (u : Int))) := by
            show Grow _ _ _ _
            rw [HST.out]
            refine ⟨ownBase (by unfold nums at hown1 ⊢; rw [List.length_append, List.map_append]; exact hown1) hWs, fun e => ?_⟩
            have := (hnil1.1 e).1
            exact hg.2 this
          clear hg hb1 k1 k1' p0 p0' k0 hown1 hgrow1 hnil1
          go_wp2
          go_ret
          exact ⟨_, rfl, HG.out, hw2⟩
end Pg
end Go.Proofs.Ytobaeenngffndaa
