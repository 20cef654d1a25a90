/- Contracts of the laws' own comparing of programs, where both are the same. -/
import Derived.Test.YtfdlljdljefkfaaGreatDoorJPg4
import Derived.Deep.RegionLaw
import Derived.Test.YtfdlljdljefkfaaGreatDoorJLay
namespace Go.Proofs.YtfdlljdljefkfaaGreatDoor
namespace Pg
open Go.ChangeShapes Go.WideShapes Go.ChangeAt Go.RowKit St

set_option maxHeartbeats 800000 in
theorem eqInts' {f f' : Bool} (B B' : Nat) (a a' : Option Addr) (cap cap' : Nat) (l : List Int) (hl : l.length ≤ 1048576) (w : World) (h1 : SI f B w (.slice a l.length cap) l) (h2 : SI f' B' w (.slice a' l.length cap') l) :
    Calls Tryz.prog 26 #[.slice a l.length cap, .slice a' l.length cap'] w fun e w' => e = .returned (.bool true) ∧ Below w.heap.size w w' := by
  have H1 : Hid (SI f B w (.slice a l.length cap) l) := h1
  have H2 : Hid (SI f' B' w (.slice a' l.length cap') l) := h2
  clear h1 h2
  go_enter Tryz.func26, Tryz.ntmps26
  go_wp2
  go_loopw [5] (fun i wr => ∃ k : Nat, k ≤ l.length ∧ i = .int .i64 k ∧ Below w.heap.size w wr) (fun i _ => l.length - (intOf i).toNat)
  case atStart => exact ⟨0, Nat.zero_le _, rfl, Below.refl _ _⟩
  case round =>
    obtain ⟨k, hk, rfl, hb⟩ := hrel
    by_cases hlt : k < l.length
    · obtain ⟨b, o, rfl, _, a0⟩ := (SI.on H1.out (Keep.of hb)).get hlt
      obtain ⟨b', o', rfl, _, b0⟩ := (SI.on H2.out (Keep.of hb)).get hlt
      unfold IntAt at a0 b0
      rw [Nat.mul_one] at a0 b0
      generalize l[k] = x at *
      have hki : (k : Int) < (l.length : Int) := by omega
      have hki0 : (0 : Int) ≤ (k : Int) := by omega
      have r0 := cell_regrown a0
      have s0 := cell_regrown b0
      go_wp2_with fail
      refine wp_region_quiet_below (by kernel_rfl) (by kernel_rfl) ?_
      repeat (quiet_step (fail))
      refine wpQuiet_nil ?_
      intro _ hw'
      obtain ⟨⟨dq, osq⟩, hw''⟩ := hw'
      subst hw''
      have hw1 : Below w.heap.size w (Sort.grow (redrawn wr dq) osq) := below_over hb (below_regrown wr dq osq)
      clear a0 b0 r0 s0 hb
      generalize Sort.grow (redrawn wr dq) osq = w1 at *
      go_wp2
      go_roundw
      case rel => exact ⟨k + 1, by omega, by go_num, hw1⟩
      case measure => simp [intOf]; omega
    · go_wp2
      go_ret
      exact ⟨rfl, hb⟩
theorem eqRow' (B B' : Nat) (v v' : Value) (l : List Tx.Ins) (hl : l.length ≤ 1048576) (w : World) (h1 : CS B w v l) (h2 : CS B' w v' l) :
    Calls Tryz.prog 97 #[v, v'] w fun e w' => e = .returned (.bool true) ∧ Below w.heap.size w w' := by
  obtain ⟨g, cap, rfl, _, _, r1, _⟩ := h1
  obtain ⟨g', cap', rfl, _, _, r2, _⟩ := h2
  exact eqRows g g' cap cap' l hl w r1 r2

set_option maxHeartbeats 800000 in
theorem eqMethod (B B' : Nat) (m : Meth) (aa aa' ac ac' : Option Addr) (ca ca' cc cc' : Nat) (hs : SmallM m) (w : World) (h1 : MV front B w (.slice aa m.args.length ca) (.slice ac m.code.length cc) m) (h2 : MV front B' w (.slice aa' m.args.length ca') (.slice ac' m.code.length cc') m) :
    Calls Tryz.prog 87 #[.agg #[.int .i64 m.name, .slice aa m.args.length ca, .int .i64 m.gives, .slice ac m.code.length cc], .agg #[.int .i64 m.name, .slice aa' m.args.length ca', .int .i64 m.gives, .slice ac' m.code.length cc']] w fun e w' => e = .returned (.bool true) ∧ Below w.heap.size w w' := by
  have H1 : Hid (MV front B w (.slice aa m.args.length ca) (.slice ac m.code.length cc) m) := h1
  have H2 : Hid (MV front B' w (.slice aa' m.args.length ca') (.slice ac' m.code.length cc') m) := h2
  have hs1 := hs.1
  have hs2 := hs.2
  clear h1 h2 hs
  go_enter Tryz.func87, Tryz.ntmps87
  go_wp2_with fail
  refine (eqInts' (f := true) (f' := true) B B' aa aa' ca ca' m.args hs1 _ ?_ ?_).mono ?_
  · exact SI.on H1.out.1 (Keep.of (by go_grown))
  · exact SI.on H2.out.1 (Keep.of (by go_grown))
  rintro e w1 ⟨rfl, hb1⟩
  have hw1 : Below w.heap.size w w1 := below_over (by go_grown) hb1
  have A1 : Cells w1 w.heap.size [.int .i64 m.name, .slice aa m.args.length ca, .int .i64 m.gives, .slice ac m.code.length cc] := by
    refine Cells.on ?_ hb1
    exact (Cells.new w _ rfl _ _).alloc _
  have B1 : Cells w1 (w.heap.size + 1) [.int .i64 m.name, .slice aa' m.args.length ca', .int .i64 m.gives, .slice ac' m.code.length cc'] := by
    refine Cells.on ?_ hb1
    exact Cells.new (w.alloc _) _ (by simp) _ _
  have a2 := A1.g2.1
  have a3 := A1.g3.1
  have b2 := B1.g2.1
  have b3 := B1.g3.1
  clear A1 B1 hb1
  go_wp2_with fail
  refine (eqRow' B B' _ _ m.code hs2 _ (front.on H1.out.2 (Keep.of hw1)) (front.on H2.out.2 (Keep.of hw1))).mono ?_
  rintro e w2 ⟨rfl, hb2⟩
  have hw2 : Below w.heap.size w w2 := below_over hw1 hb2
  clear hb2 hw1 a2 a3 b2 b3
  go_wp2
  go_ret
  exact ⟨rfl, hw2⟩

set_option maxRecDepth 100000 in
set_option maxHeartbeats 1000000 in
theorem eqMethods (B B' : Nat) (a a' : Option Addr) (cap cap' : Nat) (ms : List Meth) (hn : ms.length ≤ 1048576) (hs : ∀ m ∈ ms, SmallM m) (w : World) (h1 : SM front B w (.slice a ms.length cap) ms) (h2 : SM front B' w (.slice a' ms.length cap') ms) :
    Calls Tryz.prog 65 #[.slice a ms.length cap, .slice a' ms.length cap'] w fun e w' => e = .returned (.bool true) ∧ Below w.heap.size w w' := by
  have H1 : Hid (SM front B w (.slice a ms.length cap) ms) := h1
  have H2 : Hid (SM front B' w (.slice a' ms.length cap') ms) := h2
  have HS : Hid (∀ m ∈ ms, SmallM m) := hs
  clear h1 h2 hs
  go_enter Tryz.func65, Tryz.ntmps65
  go_wp2
  go_loopw [5] (fun i wr => ∃ k : Nat, k ≤ ms.length ∧ i = .int .i64 k ∧ Below w.heap.size w wr) (fun i _ => ms.length - (intOf i).toNat)
  case atStart => exact ⟨0, Nat.zero_le _, rfl, Below.refl _ _⟩
  case round =>
    obtain ⟨k, hk, rfl, hb⟩ := hrel
    by_cases hlt : k < ms.length
    · obtain ⟨b, o, rfl, _, va, vc, a0, a1, a2, a3, hma⟩ := (SM.on H1.out (Keep.of hb)).get hlt
      obtain ⟨b', o', rfl, _, va', vc', b0, b1, b2, b3, hmb⟩ := (SM.on H2.out (Keep.of hb)).get hlt
      obtain ⟨x1, y1, rfl⟩ := hma.1.form
      obtain ⟨x2, y2, rfl⟩ := front.form hma.2
      obtain ⟨x3, y3, rfl⟩ := hmb.1.form
      obtain ⟨x4, y4, rfl⟩ := front.form hmb.2
      have hsm := HS.out _ (List.getElem_mem hlt)
      generalize ms[k] = m at *
      have hki : (k : Int) < (ms.length : Int) := by omega
      have hki0 : (0 : Int) ≤ (k : Int) := by omega
      have r0 := cell_regrown a0
      have r1 := cell_regrown a1
      have r2 := cell_regrown a2
      have r3 := cell_regrown a3
      have s0 := cell_regrown b0
      have s1 := cell_regrown b1
      have s2 := cell_regrown b2
      have s3 := cell_regrown b3
      have cE : ∀ d os, Calls Tryz.prog 87 #[.agg #[.int .i64 m.name, .slice x1 m.args.length y1, .int .i64 m.gives, .slice x2 m.code.length y2], .agg #[.int .i64 m.name, .slice x3 m.args.length y3, .int .i64 m.gives, .slice x4 m.code.length y4]] (Sort.grow (redrawn wr d) os) fun e w'' => e = .returned (.bool true) ∧ ∃ p : Regrown, w'' = Sort.grow (redrawn wr p.d) p.os := by
        intro d os
        exact Calls.regrown_of (eqMethod B B' m x1 x3 x2 x4 y1 y3 y2 y4 hsm _ (hma.on (Keep.of (below_regrown wr d os))) (hmb.on (Keep.of (below_regrown wr d os))))
      clear hma hmb hsm
      go_wp2_with fail
      refine wp_region_quiet_below (by kernel_rfl) (by kernel_rfl) ?_
      repeat (quiet_step ((go_at_call 87; exact cE _ _)))
      refine wpQuiet_nil ?_
      intro _ hw'
      obtain ⟨⟨dq, osq⟩, hw''⟩ := hw'
      subst hw''
      have hw1 : Below w.heap.size w (Sort.grow (redrawn wr dq) osq) := below_over hb (below_regrown wr dq osq)
      clear a0 a1 a2 a3 b0 b1 b2 b3 r0 r1 r2 r3 s0 s1 s2 s3 cE hb
      generalize Sort.grow (redrawn wr dq) osq = w1 at *
      go_wp2
      go_roundw
      case rel => exact ⟨k + 1, by omega, by go_num, hw1⟩
      case measure => simp [intOf]; omega
    · go_wp2
      go_ret
      exact ⟨rfl, hb⟩

set_option maxHeartbeats 800000 in
theorem eqClass (B B' : Nat) (c : Cls) (aa aa' ac ac' : Option Addr) (ca ca' cc cc' : Nat) (hs : SmallC c) (w : World) (h1 : CV front B w (.slice aa c.fields.length ca) (.slice ac c.meths.length cc) c) (h2 : CV front B' w (.slice aa' c.fields.length ca') (.slice ac' c.meths.length cc') c) :
    Calls Tryz.prog 50 #[.agg #[.int .i64 c.super, .slice aa c.fields.length ca, .slice ac c.meths.length cc], .agg #[.int .i64 c.super, .slice aa' c.fields.length ca', .slice ac' c.meths.length cc']] w fun e w' => e = .returned (.bool true) ∧ Below w.heap.size w w' := by
  have H1 : Hid (CV front B w (.slice aa c.fields.length ca) (.slice ac c.meths.length cc) c) := h1
  have H2 : Hid (CV front B' w (.slice aa' c.fields.length ca') (.slice ac' c.meths.length cc') c) := h2
  have hs1 := hs.1
  have hs2 := hs.2.1
  have HS3 : Hid (∀ m ∈ c.meths, SmallM m) := hs.2.2
  clear h1 h2 hs
  go_enter Tryz.func50, Tryz.ntmps50
  go_wp2_with fail
  refine (eqInts' (f := true) (f' := true) B B' aa aa' ca ca' c.fields hs1 _ ?_ ?_).mono ?_
  · exact SI.on H1.out.1 (Keep.of (by go_grown))
  · exact SI.on H2.out.1 (Keep.of (by go_grown))
  rintro e w1 ⟨rfl, hb1⟩
  have hw1 : Below w.heap.size w w1 := below_over (by go_grown) hb1
  have A1 : Cells w1 w.heap.size [.int .i64 c.super, .slice aa c.fields.length ca, .slice ac c.meths.length cc] := by
    refine Cells.on ?_ hb1
    exact (Cells.new w _ rfl _ _).alloc _
  have B1 : Cells w1 (w.heap.size + 1) [.int .i64 c.super, .slice aa' c.fields.length ca', .slice ac' c.meths.length cc'] := by
    refine Cells.on ?_ hb1
    exact Cells.new (w.alloc _) _ (by simp) _ _
  have a2 := A1.g2.1
  have b2 := B1.g2.1
  clear A1 B1 hb1
  go_wp2_with fail
  refine (eqMethods B B' ac ac' cc cc' c.meths hs2 HS3.out _ (SM.on H1.out.2 (Keep.of hw1)) (SM.on H2.out.2 (Keep.of hw1))).mono ?_
  rintro e w2 ⟨rfl, hb2⟩
  have hw2 : Below w.heap.size w w2 := below_over hw1 hb2
  clear hb2 hw1 a2 b2
  go_wp2
  go_ret
  exact ⟨rfl, hw2⟩

set_option maxRecDepth 100000 in
set_option maxHeartbeats 1000000 in
theorem eqClasses (B B' : Nat) (a a' : Option Addr) (cap cap' : Nat) (ms : Prg) (hs : SmallP ms) (w : World) (h1 : SK front B w (.slice a ms.length cap) ms) (h2 : SK front B' w (.slice a' ms.length cap') ms) :
    Calls Tryz.prog 27 #[.slice a ms.length cap, .slice a' ms.length cap'] w fun e w' => e = .returned (.bool true) ∧ Below w.heap.size w w' := by
  have H1 : Hid (SK front B w (.slice a ms.length cap) ms) := h1
  have H2 : Hid (SK front B' w (.slice a' ms.length cap') ms) := h2
  have hn := hs.1
  have HS : Hid (∀ m ∈ ms, SmallC m) := hs.2
  clear h1 h2 hs
  go_enter Tryz.func27, Tryz.ntmps27
  go_wp2
  go_loopw [5] (fun i wr => ∃ k : Nat, k ≤ ms.length ∧ i = .int .i64 k ∧ Below w.heap.size w wr) (fun i _ => ms.length - (intOf i).toNat)
  case atStart => exact ⟨0, Nat.zero_le _, rfl, Below.refl _ _⟩
  case round =>
    obtain ⟨k, hk, rfl, hb⟩ := hrel
    by_cases hlt : k < ms.length
    · obtain ⟨b, o, rfl, _, va, vc, a0, a1, a2, hma⟩ := (SK.on H1.out (Keep.of hb)).get hlt
      obtain ⟨b', o', rfl, _, va', vc', b0, b1, b2, hmb⟩ := (SK.on H2.out (Keep.of hb)).get hlt
      obtain ⟨x1, y1, rfl⟩ := hma.1.form
      obtain ⟨x2, y2, rfl⟩ := hma.2.form
      obtain ⟨x3, y3, rfl⟩ := hmb.1.form
      obtain ⟨x4, y4, rfl⟩ := hmb.2.form
      have hsm := HS.out _ (List.getElem_mem hlt)
      generalize ms[k] = m at *
      have hki : (k : Int) < (ms.length : Int) := by omega
      have hki0 : (0 : Int) ≤ (k : Int) := by omega
      have r0 := cell_regrown a0
      have r1 := cell_regrown a1
      have r2 := cell_regrown a2
      have s0 := cell_regrown b0
      have s1 := cell_regrown b1
      have s2 := cell_regrown b2
      have cE : ∀ d os, Calls Tryz.prog 50 #[.agg #[.int .i64 m.super, .slice x1 m.fields.length y1, .slice x2 m.meths.length y2], .agg #[.int .i64 m.super, .slice x3 m.fields.length y3, .slice x4 m.meths.length y4]] (Sort.grow (redrawn wr d) os) fun e w'' => e = .returned (.bool true) ∧ ∃ p : Regrown, w'' = Sort.grow (redrawn wr p.d) p.os := by
        intro d os
        exact Calls.regrown_of (eqClass B B' m x1 x3 x2 x4 y1 y3 y2 y4 hsm _ (hma.on (Keep.of (below_regrown wr d os))) (hmb.on (Keep.of (below_regrown wr d os))))
      clear hma hmb hsm
      go_wp2_with fail
      refine wp_region_quiet_below (by kernel_rfl) (by kernel_rfl) ?_
      repeat (quiet_step ((go_at_call 50; exact cE _ _)))
      refine wpQuiet_nil ?_
      intro _ hw'
      obtain ⟨⟨dq, osq⟩, hw''⟩ := hw'
      subst hw''
      have hw1 : Below w.heap.size w (Sort.grow (redrawn wr dq) osq) := below_over hb (below_regrown wr dq osq)
      clear a0 a1 a2 b0 b1 b2 r0 r1 r2 s0 s1 s2 cE hb
      generalize Sort.grow (redrawn wr dq) osq = w1 at *
      go_wp2
      go_roundw
      case rel => exact ⟨k + 1, by omega, by go_num, hw1⟩
      case measure => simp [intOf]; omega
    · go_wp2
      go_ret
      exact ⟨rfl, hb⟩

set_option maxHeartbeats 800000 in
theorem eqProgram (B B' : Nat) (v v' : Value) (p : Prg) (hs : SmallP p) (w : World) (h1 : SK front B w v p) (h2 : SK front B' w v' p) :
    Calls Tryz.prog 12 #[.agg #[v], .agg #[v']] w fun e w' => e = .returned (.bool true) ∧ Below w.heap.size w w' := by
  obtain ⟨a, cap, rfl⟩ := h1.form
  obtain ⟨a', cap', rfl⟩ := h2.form
  have H1 : Hid (SK front B w (.slice a p.length cap) p) := h1
  have H2 : Hid (SK front B' w (.slice a' p.length cap') p) := h2
  have HS : Hid (SmallP p) := hs
  clear h1 h2 hs
  go_enter Tryz.func12, Tryz.ntmps12
  go_wp2_with fail
  refine (eqClasses B B' a a' cap cap' p HS.out _ ?_ ?_).mono ?_
  · exact SK.on H1.out (Keep.of (by go_grown))
  · exact SK.on H2.out (Keep.of (by go_grown))
  rintro e w1 ⟨rfl, hb1⟩
  have hw1 : Below w.heap.size w w1 := below_over (by go_grown) hb1
  clear hb1
  go_wp2
  go_ret
  exact ⟨rfl, hw1⟩
end Pg
end Go.Proofs.YtfdlljdljefkfaaGreatDoor

/- Contracts of both sides' account of the fields of a class. -/
namespace Go.Proofs.YtfdlljdljefkfaaGreatDoor
namespace Pg
open Go.ChangeShapes Go.WideShapes Go.ChangeAt Go.RowKit St

/-- The fields of a class, from the highest above it on. -/
def fieldsR (p : Prg) : Nat → Int → List Int
  | 0, _ => []
  | f + 1, up => if up < 0 then [] else match p[up.toNat]? with | none => [] | some c => fieldsR p f c.super ++ c.fields
def fieldsF (p : Prg) (t : Int) : List Int := if okP p && (decide (0 ≤ t) && decide (t < (p.length : Int))) then fieldsR p 6 t else []
theorem fieldsR_neg (p : Prg) (f : Nat) {up : Int} (h : up < 0) : fieldsR p f up = [] := by
  cases f with
  | zero => rfl
  | succ f => simp [fieldsR, h]
theorem fieldsR_fuel {p : Prg} {n : Nat} (hs : SupOk p n) : ∀ (f g : Nat) (up : Int), up < (n : Int) → up < (f : Int) → up < (g : Int) → fieldsR p f up = fieldsR p g up := by
  intro f
  induction f with
  | zero => intro g up _ h1 _; rw [fieldsR_neg _ _ (by omega), fieldsR_neg _ _ (by omega)]
  | succ f ih =>
    intro g up hn h1 h2
    by_cases h0 : up < 0
    · rw [fieldsR_neg _ _ h0, fieldsR_neg _ _ h0]
    · cases g with
      | zero => omega
      | succ g =>
        simp only [fieldsR, h0, if_false]
        cases hc : p[up.toNat]? with
        | none => rfl
        | some c =>
          have := hs up.toNat c (by omega) hc
          simp only []
          rw [ih g c.super (by omega) (by omega) (by omega)]
theorem fieldsR_step {p : Prg} {n : Nat} (hs : SupOk p n) {u : Nat} (hu : u < n) (h6 : u < 6) {c : Cls} (hc : p[u]? = some c) : fieldsR p 6 (u : Int) = fieldsR p 6 c.super ++ c.fields := by
  have h0 : ¬ (u : Int) < 0 := by omega
  have := hs u c hu hc
  have e : fieldsR p 5 c.super = fieldsR p 6 c.super := fieldsR_fuel hs 5 6 c.super (by omega) (by omega) (by omega)
  show (if (u : Int) < 0 then [] else match p[(u : Int).toNat]? with | none => [] | some c => fieldsR p 5 c.super ++ c.fields) = _
  rw [if_neg h0, Int.toNat_natCast, hc]
  simp only []
  rw [e]
theorem fieldsR_len {p : Prg} {n : Nat} (hs : SupOk p n) (h6 : n ≤ 6) (hn : n ≤ p.length) (h4 : ∀ j c, j < n → p[j]? = some c → c.fields.length ≤ 4) : ∀ (k : Nat) (up : Int), up < (k : Int) → up < (n : Int) → (fieldsR p 6 up).length ≤ 4 * k := by
  intro k
  induction k with
  | zero => intro up h _; rw [fieldsR_neg _ _ (by omega)]; simp
  | succ k ih =>
    intro up hk hu
    by_cases h0 : up < 0
    · rw [fieldsR_neg _ _ h0]; simp
    · obtain ⟨u, rfl⟩ := Int.eq_ofNat_of_zero_le (show 0 ≤ up by omega)
      have hc := List.getElem?_eq_getElem (show u < p.length by omega)
      have h1 := hs u _ (by omega) hc
      have h2 := h4 u _ (by omega) hc
      rw [fieldsR_step hs (by omega) (by omega) hc, List.length_append]
      have := ih p[u].super (by omega) (by omega)
      omega
theorem okP_sup {p : Prg} (h : okP p = true) : SupOk p p.length := SupOk.of fun _ hi => okP_at h hi
theorem okP_four {p : Prg} (h : okP p = true) : ∀ j c, j < p.length → p[j]? = some c → c.fields.length ≤ 4 := fun _ _ hj hc => (okC_few (by rw [← okAt_of hc]; exact okP_at h hj)).1

/-- A row of numbers that the call has made and that may grow. -/
def nums (l : List Int) : List Value := l.map (Value.int .i64)
def Grow (B : Nat) (w : World) (v : Value) (l : List Int) : Prop := w.ownsRow B 2 1 v l.length (nums l) ∧ v ≠ .slice none 0 0
theorem ownOn {u v : World} {B n q : Nat} {e : TypeId} {x : Value} {xs : List Value} (h : u.ownsRow B e q x n xs) (hb : Below u.heap.size u v) : v.ownsRow B e q x n xs :=
  h.kept (row := none) ⟨hb.os, hb.tape, hb.output, hb.size, fun k hk _ => hb.block k hk⟩ (by
    cases hx : x.ownBlock with
    | none => exact Or.inl rfl
    | some g => exact Or.inr (by simp))
theorem ownBase {w : World} {B B' : Nat} {e : TypeId} {q n : Nat} {x : Value} {xs : List Value} (h : w.ownsRow B e q x n xs) (hB : B' ≤ B) : w.ownsRow B' e q x n xs := by
  obtain ⟨q1, q2 | ⟨g1, c1, cur1, q3, q4, q5⟩⟩ := h
  · exact ⟨q1, Or.inl q2⟩
  · exact ⟨q1, Or.inr ⟨g1, c1, cur1, q3, Nat.le_trans hB q4, q5⟩⟩
/-- A row of numbers at the front of a block, which may be written. -/
def GInt (B : Nat) (w : World) (v : Value) (l : List Int) : Prop := ∃ g cap, v = .slice (some ⟨g, 0, none⟩) l.length cap ∧ B ≤ g ∧ g < w.heap.size ∧ IRow w g 0 l ∧ Room w g l.length
theorem Grow.gint {B : Nat} {w : World} {v : Value} {l : List Int} (h : Grow B w v l) : GInt B w v l := by
  obtain ⟨h, hv⟩ := h
  have hc := @World.ownsRow.cells w B 2 1 v l.length (nums l) h
  have hlt := @World.ownsRow.lt w B 2 1 v l.length (nums l) h
  obtain ⟨_, ⟨h, _⟩ | ⟨g, cap, cur, rfl, hB, hblk, hcap, hmax, hsz, _⟩⟩ := h
  · exact absurd h hv
  · have hcell : ∀ j x, l[j]? = some x → w.cell? ⟨g, j, none⟩ = some (.int .i64 x) := fun j x hj => by
      have := hc (g := g) rfl j (.int .i64 x) (by simp [nums, hj])
      simpa [Go.WideShapes.add_plain] using this
    refine ⟨g, cap, rfl, hB, (hlt g rfl).2, fun j x hj => by rw [Nat.zero_add]; exact hcell j x hj, fun j hj => ⟨⟨_, hcell j _ (List.getElem?_eq_getElem hj)⟩, by simp [World.frozen?, hblk]⟩⟩
theorem GInt.on {B : Nat} {u w : World} {v : Value} {l : List Int} (h : GInt B u v l) (hb : Keep B u w) : GInt B w v l := by
  obtain ⟨g, cap, hv, h1, h2, h3, h4⟩ := h
  refine ⟨g, cap, hv, h1, Nat.lt_of_lt_of_le h2 hb.size, fun j x hj => (hb.cell (p := ⟨g, 0 + j, none⟩) h1 h2).trans (h3 j x hj), fun i hi => ?_⟩
  obtain ⟨⟨x, hx⟩, hf⟩ := h4 i hi
  exact ⟨⟨x, (hb.cell (p := ⟨g, i, none⟩) h1 h2).trans hx⟩, (hb.frozen (p := ⟨g, i, none⟩) h1 h2).trans hf⟩
theorem GInt.si {B : Nat} {w : World} {v : Value} {l : List Int} (h : GInt B w v l) : SI true B w v l := by
  obtain ⟨g, cap, rfl, h1, h2, h3, h4⟩ := h
  exact SI.row h1 h2 h3 h4
theorem SI.nums {f : Bool} {B : Nat} {w : World} {b : Addr} {n cap : Nat} {l : List Int} (h : SI f B w (.slice (some b) n cap) l) : ∀ j u, (nums l)[j]? = some u → w.cell? (b.add j) = some u := by
  intro j u hu
  unfold Pg.nums at hu
  rw [List.getElem?_map] at hu
  cases hv : l[j]? with
  | none => rw [hv] at hu; simp at hu
  | some x =>
    rw [hv] at hu
    simp at hu
    subst hu
    have hj : j < l.length := (List.getElem?_eq_some_iff.1 hv).1
    obtain ⟨b', o', he, hrow⟩ := SI.rows h (by omega)
    simp at he
    subst he
    rw [Go.WideShapes.add_plain]
    exact hrow j x hv
theorem grow_nil (w : World) (o : Obj) : Grow w.heap.size ((w.alloc o).alloc (.cells #[] 2)) (.slice (some ⟨w.heap.size + 1, 0, none⟩) 0 0) [] := by
  refine ⟨ownBase (B := (w.alloc o).heap.size) ?_ (by simp), by simp⟩
  have h : ((w.alloc o).alloc (.cells #[] 2)).ownsRow (w.alloc o).heap.size 2 1 (.slice (some ⟨(w.alloc o).heap.size, 0, none⟩) 0 0) 0 [] := World.ownsRow_made (w.alloc o) #[] 0 (Nat.le_refl _) (by decide) (by simp)
  simpa [Pg.nums] using h
theorem nums_one (l : List Int) : ∀ u ∈ nums l, u.oneCell' = true := by
  intro u hu
  obtain ⟨x, _, rfl⟩ := List.mem_map.1 hu
  rfl
theorem stepApp {P : Program} (w : World) {ops : Array Oper} {o : Oper} {a : Act} {K : Act → World → Prop} {Q : Exit → Act → World → Prop} {E : Prop} (hgd : o.guard = none) (s x : Operand) (t : TypeId)
    (ho : o.op = .call { callee := .builtin .append, args := #[s, x], argTypes := #[t, t] })
    (base : Nat) (e : TypeId) (i : TypeInfo) (z : Value) (size bytes : Nat) (ht : P.underlying t = some (.slice e)) (hi : P.info? e = some i) (hz : i.zero = some z)
    (hsize : i.size = size) (hby : i.bytes = bytes) (hzs : z.cells.size = size) (hsz : 0 < size)
    (v : Value) (n : Nat) (xs : List Value) (hs : a.eval s = v) (hown : w.ownsRow base e size v n xs)
    (ad : Addr) (m c : Nat) (news : List Value) (hx : a.eval x = .slice (some ad) m c) (hl : news.length = m * size) (hnews : ∀ j u, news[j]? = some u → w.cell? (ad.add j) = some u) (h1 : ∀ u ∈ news, u.oneCell' = true)
    (h63 : n + m ≤ maxLen) (hbytes : (n + m) * bytes ≤ 140737488355328) (hbase : base ≤ w.heap.size)
    (h : ∀ v' w', w'.ownsRow base e size v' (n + m) (xs ++ news) → w.grownBy w' v.ownBlock → (v' = .slice none 0 0 ↔ v = .slice none 0 0 ∧ m = 0) → K (a.put o.dst v') w') :
    if Region.wanted o (yielded ops a.tmps) = true then Oper.wp P o a w K Q else E := by
  have hw : Region.wanted o (yielded ops a.tmps) = true := by simp [Region.wanted, hgd]
  rw [if_pos hw]
  exact wp_append_own w s x t ho base e i z size bytes ht hi hz hsize hby hzs hsz v n xs hs hown ad m c news hx hl hnews h1 h63 hbytes hbase h
theorem stepAppNone {P : Program} (w : World) {ops : Array Oper} {o : Oper} {a : Act} {K : Act → World → Prop} {Q : Exit → Act → World → Prop} {E : Prop} (hgd : o.guard = none) (s x : Operand) (t : TypeId)
    (ho : o.op = .call { callee := .builtin .append, args := #[s, x], argTypes := #[t, t] })
    (base : Nat) (e : TypeId) (i : TypeInfo) (size : Nat) (ht : P.underlying t = some (.slice e)) (hi : P.info? e = some i)
    (v : Value) (n : Nat) (xs : List Value) (hs : a.eval s = v) (hown : w.ownsRow base e size v n xs) (hx : a.eval x = .slice none 0 0)
    (h : K (a.put o.dst v) w) :
    if Region.wanted o (yielded ops a.tmps) = true then Oper.wp P o a w K Q else E := by
  have hw : Region.wanted o (yielded ops a.tmps) = true := by simp [Region.wanted, hgd]
  rw [if_pos hw]
  have hrun := run_append_owned_none (P := P) (w := w) base t o.type e i size ht hi v n xs hown
  unfold Oper.wp
  simp [execOp, ho, resolve, invoke, builtin, hs, hx, hrun, Result.andThen]
  exact h

end Pg
end Go.Proofs.YtfdlljdljefkfaaGreatDoor

/- Rows of steps that a call has made. -/
namespace Go.Proofs.YtfdlljdljefkfaaGreatDoor
namespace St
open Go.ChangeShapes Go.WideShapes Go.ChangeAt Go.RowKit

/-- The cells of steps, one behind the other. -/
def flat (l : List Tx.Ins) : List Value := l.flatMap fun x => [.int .i64 x.1, .int .i64 x.2.1, .int .i64 x.2.2]
theorem flat_snoc (l : List Tx.Ins) (x : Tx.Ins) : flat (l ++ [x]) = flat l ++ [.int .i64 x.1, .int .i64 x.2.1, .int .i64 x.2.2] := by simp [flat]
theorem flat_at (l : List Tx.Ins) : ∀ (j : Nat) (x : Tx.Ins), l[j]? = some x → (flat l)[j * 3]? = some (.int .i64 x.1) ∧ (flat l)[j * 3 + 1]? = some (.int .i64 x.2.1) ∧ (flat l)[j * 3 + 2]? = some (.int .i64 x.2.2) := by
  induction l with
  | nil => intro j x h; simp at h
  | cons y l ih =>
    intro j x h
    have e : flat (y :: l) = .int .i64 y.1 :: .int .i64 y.2.1 :: .int .i64 y.2.2 :: flat l := by simp [flat]
    rw [e]
    cases j with
    | zero => simp at h; subst h; exact ⟨rfl, rfl, rfl⟩
    | succ j =>
      have h' : l[j]? = some x := by simpa using h
      have := ih j x h'
      have e3 : (j + 1) * 3 = j * 3 + 3 := by omega
      rw [e3]
      simpa using this

/-- A row of steps that the call has made: the slice, its steps, room to write. -/
def Got (B : Nat) (w : World) (v : Value) (l : List Tx.Ins) : Prop :=
  ∃ g cap, v = .slice (some ⟨g, 0, none⟩) l.length cap ∧ B ≤ g ∧ g < w.heap.size ∧ Row w g 0 l ∧ Room w g (l.length * 3)
theorem got_of {w : World} {B : Nat} {e : TypeId} {v : Value} {l : List Tx.Ins} (h : w.ownsRow B e 3 v l.length (flat l)) (hv : v ≠ .slice none 0 0) : Got B w v l := by
  have hc := @World.ownsRow.cells w B e 3 v l.length (flat l) h
  have hl := @World.ownsRow.lt w B e 3 v l.length (flat l) h
  have h' := h
  obtain ⟨_, ⟨h, _⟩ | ⟨g, cap, cur, rfl, hB, _, hcap, _⟩⟩ := h
  · exact absurd h hv
  · refine ⟨g, cap, rfl, hB, (hl g rfl).2, fun j x hj => ?_, room_own h' hcap⟩
    obtain ⟨f0, f1, f2⟩ := flat_at l j x hj
    have g0 := hc (g := g) rfl _ _ f0
    have g1 := hc (g := g) rfl _ _ f1
    have g2 := hc (g := g) rfl _ _ f2
    simp only [Go.WideShapes.add_plain] at g0 g1 g2
    exact ⟨g0, by simpa [Nat.add_assoc] using g1, by simpa [Nat.add_assoc] using g2⟩
theorem Got.on {B : Nat} {u w : World} {v : Value} {l : List Tx.Ins} (h : Got B u v l) (hb : Below u.heap.size u w) : Got B w v l := by
  obtain ⟨g, cap, hv, h1, h2, h3, h4⟩ := h
  exact ⟨g, cap, hv, h1, Nat.lt_of_lt_of_le h2 hb.size, h3.on hb, h4.on hb⟩
theorem got_nil (w : World) (B : Nat) (hB : B ≤ w.heap.size) (t : TypeId) : Got B (w.alloc (.cells #[] t)) (.slice (some ⟨w.heap.size, 0, none⟩) 0 0) [] :=
  ⟨w.heap.size, 0, rfl, hB, by simp, fun j x h => by simp at h, fun i h => by simp at h⟩
theorem got_nil2 (w : World) (o : Obj) (B : Nat) (hB : B ≤ w.heap.size) (t : TypeId) : Got B ((w.alloc o).alloc (.cells #[] t)) (.slice (some ⟨w.heap.size + 1, 0, none⟩) 0 0) [] :=
  ⟨w.heap.size + 1, 0, rfl, by omega, by simp, fun j x h => by simp at h, fun i h => by simp at h⟩
theorem own_base {w : World} {B B' : Nat} {e : TypeId} {q n : Nat} {x : Value} {xs : List Value} (h : w.ownsRow B e q x n xs) (hB : B' ≤ B) : w.ownsRow B' e q x n xs := by
  obtain ⟨q1, q2 | ⟨g1, c1, cur1, q3, q4, q5⟩⟩ := h
  · exact ⟨q1, Or.inl q2⟩
  · exact ⟨q1, Or.inr ⟨g1, c1, cur1, q3, Nat.le_trans hB q4, q5⟩⟩
theorem own_ne {w : World} {B B' : Nat} {e e' : TypeId} {q q' n m : Nat} {x y : Value} {xs ys : List Value} (h : w.ownsRow B e q x n xs) (h' : w.ownsRow B' e' q' y m ys) (hne : e ≠ e') {g : Nat} (hg : x.ownBlock = some g) : y.ownBlock ≠ some g := by
  intro hy
  obtain ⟨_, ⟨rfl, _⟩ | ⟨g1, c1, cur1, rfl, _, hb1, _⟩⟩ := h
  · simp [Value.ownBlock] at hg
  · obtain ⟨_, ⟨rfl, _⟩ | ⟨g2, c2, cur2, rfl, _, hb2, _⟩⟩ := h'
    · simp [Value.ownBlock] at hy
    · simp only [Value.ownBlock, Option.some.injEq] at hg hy
      subst hg hy
      rw [hb1] at hb2
      simp at hb2
      exact hne hb2.2
theorem keep_own {u v : World} {B n q : Nat} {e : TypeId} {x : Value} {xs : List Value} (h : u.ownsRow B e q x n xs) (hb : Below u.heap.size u v) : v.ownsRow B e q x n xs :=
  h.kept (row := none) ⟨hb.os, hb.tape, hb.output, hb.size, fun k hk _ => hb.block k hk⟩ (by
    cases hx : x.ownBlock with
    | none => exact Or.inl rfl
    | some g => exact Or.inr (by simp))

/-- The cells of steps, where they lie. -/
theorem flat_len (l : List Tx.Ins) : (flat l).length = l.length * 3 := by
  induction l with
  | nil => rfl
  | cons x l ih => have e : flat (x :: l) = .int .i64 x.1 :: .int .i64 x.2.1 :: .int .i64 x.2.2 :: flat l := by simp [flat]
                   rw [e]; simp [ih]; omega
theorem flat_append (l r : List Tx.Ins) : flat (l ++ r) = flat l ++ flat r := by simp [flat]
theorem flat_one (l : List Tx.Ins) : ∀ u ∈ flat l, u.oneCell' = true := by
  intro u hu
  obtain ⟨x, _, hx⟩ := List.mem_flatMap.1 hu
  simp at hx
  rcases hx with rfl | rfl | rfl <;> rfl
theorem flat_get {l : List Tx.Ins} {j : Nat} {u : Value} (h : (flat l)[j]? = some u) : ∃ x, l[j / 3]? = some x ∧ ((j % 3 = 0 ∧ u = .int .i64 x.1) ∨ (j % 3 = 1 ∧ u = .int .i64 x.2.1) ∨ (j % 3 = 2 ∧ u = .int .i64 x.2.2)) := by
  have hj : j < (flat l).length := (List.getElem?_eq_some_iff.1 h).1
  rw [flat_len] at hj
  have hq : j / 3 < l.length := by omega
  refine ⟨l[j / 3], List.getElem?_eq_getElem hq, ?_⟩
  obtain ⟨f0, f1, f2⟩ := flat_at l (j / 3) _ (List.getElem?_eq_getElem hq)
  have hm : j % 3 = 0 ∨ j % 3 = 1 ∨ j % 3 = 2 := by omega
  rcases hm with hm | hm | hm
  · refine .inl ⟨hm, ?_⟩
    have e : j / 3 * 3 = j := by omega
    rw [e, h] at f0; exact Option.some.inj f0
  · refine .inr (.inl ⟨hm, ?_⟩)
    have e : j / 3 * 3 + 1 = j := by omega
    rw [e, h] at f1; exact Option.some.inj f1
  · refine .inr (.inr ⟨hm, ?_⟩)
    have e : j / 3 * 3 + 2 = j := by omega
    rw [e, h] at f2; exact Option.some.inj f2
theorem Row.flat {w : World} {g o : Nat} {l : List Tx.Ins} (h : Row w g o l) : ∀ j u, (flat l)[j]? = some u → w.cell? ((⟨g, o, none⟩ : Addr).add j) = some u := by
  intro j u hu
  obtain ⟨x, hx, hh⟩ := flat_get hu
  obtain ⟨h0, h1, h2⟩ := h _ _ hx
  rw [Go.WideShapes.add_plain]
  rcases hh with ⟨hm, rfl⟩ | ⟨hm, rfl⟩ | ⟨hm, rfl⟩
  · have e : o + j / 3 * 3 = o + j := by omega
    rw [e] at h0; exact h0
  · have e : o + j / 3 * 3 + 1 = o + j := by omega
    rw [e] at h1; exact h1
  · have e : o + j / 3 * 3 + 2 = o + j := by omega
    rw [e] at h2; exact h2
/-- A literal of steps. -/
theorem got_lit (w : World) (B : Nat) (hB : B ≤ w.heap.size) (l : List Tx.Ins) (cap : Nat) (t : TypeId) (cs : Array Value) (hcs : cs = (flat l).toArray) : Got B (w.alloc (.cells cs t)) (.slice (some ⟨w.heap.size, 0, none⟩) l.length cap) l := by
  subst hcs
  have hc : ∀ j u, (flat l)[j]? = some u → (w.alloc (.cells (flat l).toArray t)).cell? ⟨w.heap.size, j, none⟩ = some u := by
    intro j u hu
    simp [go_sem, hu]
  refine ⟨w.heap.size, cap, rfl, hB, by simp, fun j x hj => ?_, fun i hi => ?_⟩
  · obtain ⟨f0, f1, f2⟩ := flat_at l j x hj
    rw [Nat.zero_add]
    exact ⟨hc _ _ f0, hc _ _ f1, hc _ _ f2⟩
  · have : i < (flat l).length := by rw [flat_len]; exact hi
    exact ⟨⟨_, hc i _ (List.getElem?_eq_getElem this)⟩, by simp [go_sem]⟩
theorem Got.base {B B' : Nat} {w : World} {v : Value} {l : List Tx.Ins} (h : Got B w v l) (hB : B' ≤ B) : Got B' w v l := by
  obtain ⟨g, cap, hv, h1, h2, h3, h4⟩ := h
  exact ⟨g, cap, hv, Nat.le_trans hB h1, h2, h3, h4⟩
end St
end Go.Proofs.YtfdlljdljefkfaaGreatDoor
