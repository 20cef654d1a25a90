/- Contracts of both sides' copying of methods. -/
import Derived.Test.YtogbkdhejdcpeaaDoorJPf0
import Derived.Test.YtogbkdhejdcpeaaDoorJGot0
import Derived.Laws.AppendOwnNone
import Derived.Lib.SliceRun
namespace Go.Proofs.YtogbkdhejdcpeaaDoor
namespace Pg
open Go.ChangeShapes Go.WideShapes Go.ChangeAt Go.RowKit St

theorem SI.nil (f : Bool) (B : Nat) (w : World) : SI f B w (.slice none 0 0) [] := ⟨none, 0, rfl, fun _ _ => rfl, fun h => by simp at h⟩
theorem Cells.low {u w : World} {k B : Nat} {vs : List Value} (h : Cells u k vs) (hb : Below B u w) (hk : k < B) : Cells w k vs := fun i x hx => by
  obtain ⟨h1, h2⟩ := h i x hx
  exact ⟨(hb.cell (p := ⟨k, i, none⟩) hk).trans h1, (hb.frozen (p := ⟨k, i, none⟩) hk).trans h2⟩
theorem grow_of {w : World} {B : Nat} {v : Value} {l : List Int} (h : w.ownsRow B 2 1 v l.length (nums l)) (hv : v ≠ .slice none 0 0) : Grow B w v l := ⟨h, hv⟩
theorem cs_of {w : World} {B : Nat} {v : Value} {l : List Tx.Ins} (h : w.ownsRow B 64 3 v l.length (flat l)) (hv : v ≠ .slice none 0 0) : CS B w v l := got_of h hv

/-- A row of numbers of its own, in a block from B1 on and below B2, or nil. -/
def GZ (B1 B2 : Nat) (w : World) (v : Value) (l : List Int) : Prop := (∃ g c, v = .slice (some ⟨g, 0, none⟩) l.length c ∧ B1 ≤ g ∧ g < B2 ∧ g < w.heap.size ∧ IRow w g 0 l ∧ Room w g l.length) ∨ (v = .slice none 0 0 ∧ l = [])
/-- A row of steps of its own, in a block from B1 on and below B2, or nil. -/
def CZ (B1 B2 : Nat) (w : World) (v : Value) (l : List Tx.Ins) : Prop := (∃ g c, v = .slice (some ⟨g, 0, none⟩) l.length c ∧ B1 ≤ g ∧ g < B2 ∧ g < w.heap.size ∧ Row w g 0 l ∧ Room w g (l.length * 3)) ∨ (v = .slice none 0 0 ∧ l = [])
theorem room_moved {u w : World} {g n : Nat} (hg : w.heap[g]? = u.heap[g]?) (h : Room u g n) : Room w g n := fun i hi => by
  obtain ⟨⟨x, hx⟩, hf⟩ := h i hi
  exact ⟨⟨x, (World.cell?_of_block (w := u) hg).trans hx⟩, (World.frozen?_of_block (w := u) hg).trans hf⟩
theorem GZ.moved {B1 B2 : Nat} {u w : World} {v : Value} {l : List Int} (h : GZ B1 B2 u v l) (hs : u.heap.size ≤ w.heap.size) (hb : ∀ k, B1 ≤ k → k < B2 → k < u.heap.size → w.heap[k]? = u.heap[k]?) : GZ B1 B2 w v l := by
  rcases h with ⟨g, c, hv, h1, h2, h3, h4, h5⟩ | h
  · have hg := hb g h1 h2 h3
    exact .inl ⟨g, c, hv, h1, h2, by omega, fun j x hj => (World.cell?_of_block (w := u) hg).trans (h4 j x hj), room_moved hg h5⟩
  · exact .inr h
theorem CZ.moved {B1 B2 : Nat} {u w : World} {v : Value} {l : List Tx.Ins} (h : CZ B1 B2 u v l) (hs : u.heap.size ≤ w.heap.size) (hb : ∀ k, B1 ≤ k → k < B2 → k < u.heap.size → w.heap[k]? = u.heap[k]?) : CZ B1 B2 w v l := by
  rcases h with ⟨g, c, hv, h1, h2, h3, h4, h5⟩ | h
  · have hg := hb g h1 h2 h3
    exact .inl ⟨g, c, hv, h1, h2, by omega, fun j x hj => by
      obtain ⟨c0, c1, c2⟩ := h4 j x hj
      exact ⟨(World.cell?_of_block (w := u) hg).trans c0, (World.cell?_of_block (w := u) hg).trans c1, (World.cell?_of_block (w := u) hg).trans c2⟩, room_moved hg h5⟩
  · exact .inr h
theorem GZ.keep {B B1 B2 : Nat} {u w : World} {v : Value} {l : List Int} (h : GZ B1 B2 u v l) (hk : Keep B u w) (hB : B ≤ B1) : GZ B1 B2 w v l := h.moved hk.size fun k h1 _ hl => hk.block k (by omega) hl
theorem CZ.keep {B B1 B2 : Nat} {u w : World} {v : Value} {l : List Tx.Ins} (h : CZ B1 B2 u v l) (hk : Keep B u w) (hB : B ≤ B1) : CZ B1 B2 w v l := h.moved hk.size fun k h1 _ hl => hk.block k (by omega) hl
theorem GZ.low {B B1 B2 : Nat} {u w : World} {v : Value} {l : List Int} (h : GZ B1 B2 u v l) (hk : Below B u w) (hB : B2 ≤ B) : GZ B1 B2 w v l := h.moved hk.size fun k _ h2 _ => hk.block k (by omega)
theorem CZ.low {B B1 B2 : Nat} {u w : World} {v : Value} {l : List Tx.Ins} (h : CZ B1 B2 u v l) (hk : Below B u w) (hB : B2 ≤ B) : CZ B1 B2 w v l := h.moved hk.size fun k _ h2 _ => hk.block k (by omega)
theorem GZ.on {B1 B2 : Nat} {u w : World} {v : Value} {l : List Int} (h : GZ B1 B2 u v l) (hk : Below u.heap.size u w) : GZ B1 B2 w v l := h.moved hk.size fun k _ _ h3 => hk.block k h3
theorem CZ.on {B1 B2 : Nat} {u w : World} {v : Value} {l : List Tx.Ins} (h : CZ B1 B2 u v l) (hk : Below u.heap.size u w) : CZ B1 B2 w v l := h.moved hk.size fun k _ _ h3 => hk.block k h3
theorem GZ.weak {B1 B2 C1 C2 : Nat} {w : World} {v : Value} {l : List Int} (h : GZ B1 B2 w v l) (h1 : C1 ≤ B1) (h2 : B2 ≤ C2) : GZ C1 C2 w v l := by
  rcases h with ⟨g, c, hv, k1, k2, h3, h4, h5⟩ | h
  · exact .inl ⟨g, c, hv, by omega, by omega, h3, h4, h5⟩
  · exact .inr h
theorem CZ.weak {B1 B2 C1 C2 : Nat} {w : World} {v : Value} {l : List Tx.Ins} (h : CZ B1 B2 w v l) (h1 : C1 ≤ B1) (h2 : B2 ≤ C2) : CZ C1 C2 w v l := by
  rcases h with ⟨g, c, hv, k1, k2, h3, h4, h5⟩ | h
  · exact .inl ⟨g, c, hv, by omega, by omega, h3, h4, h5⟩
  · exact .inr h
theorem GZ.form {B1 B2 : Nat} {w : World} {v : Value} {l : List Int} (h : GZ B1 B2 w v l) : ∃ a c, v = .slice a l.length c := by
  rcases h with ⟨g, c, hv, _⟩ | ⟨hv, hl⟩
  · exact ⟨_, _, hv⟩
  · subst hl; exact ⟨_, _, hv⟩
theorem CZ.form {B1 B2 : Nat} {w : World} {v : Value} {l : List Tx.Ins} (h : CZ B1 B2 w v l) : ∃ a c, v = .slice a l.length c := by
  rcases h with ⟨g, c, hv, _⟩ | ⟨hv, hl⟩
  · exact ⟨_, _, hv⟩
  · subst hl; exact ⟨_, _, hv⟩
theorem GZ.of {B : Nat} {w : World} {v : Value} {l : List Int} (h : GInt B w v l) : GZ B w.heap.size w v l := by
  obtain ⟨g, c, hv, h1, h2, h3, h4⟩ := h
  exact .inl ⟨g, c, hv, h1, h2, h2, h3, h4⟩
theorem CZ.of {B : Nat} {w : World} {v : Value} {l : List Tx.Ins} (h : CS B w v l) : CZ B w.heap.size w v l := by
  obtain ⟨g, c, hv, h1, h2, h3, h4⟩ := h
  exact .inl ⟨g, c, hv, h1, h2, h2, h3, h4⟩
theorem GZ.si {B1 B2 : Nat} {w : World} {v : Value} {l : List Int} (h : GZ B1 B2 w v l) : SI true B1 w v l := by
  rcases h with ⟨g, c, rfl, h1, _, h2, h3, h4⟩ | ⟨rfl, rfl⟩
  · exact SI.row h1 h2 h3 h4
  · exact SI.nil _ _ _
/-- A method that a call has made: its rows in blocks of their own. -/
def AnsM (B : Nat) (w : World) (va vc : Value) (m : Meth) : Prop := ∃ M, B ≤ M ∧ M ≤ w.heap.size ∧ GZ B M w va m.args ∧ CZ M w.heap.size w vc m.code

theorem AnsM.keep {B C : Nat} {u w : World} {va vc : Value} {m : Meth} (h : AnsM B u va vc m) (hk : Keep C u w) (hB : C ≤ B) : AnsM B w va vc m := by
  obtain ⟨M, h1, h2, h3, h4⟩ := h
  exact ⟨M, h1, Nat.le_trans h2 hk.size, h3.keep hk hB, (h4.keep hk (Nat.le_trans hB h1)).weak (Nat.le_refl _) hk.size⟩
theorem AnsM.weak {B C : Nat} {w : World} {va vc : Value} {m : Meth} (h : AnsM B w va vc m) (hB : C ≤ B) : AnsM C w va vc m := by
  obtain ⟨M, h1, h2, h3, h4⟩ := h
  exact ⟨M, Nat.le_trans hB h1, h2, h3.weak hB (Nat.le_refl _), h4⟩

set_option maxRecDepth 100000 in
set_option maxHeartbeats 800000 in
theorem cloneInts (B : Nat) (a : Option Addr) (cap : Nat) (l : List Int) (hl : l.length ≤ 1048576) (w : World) (h : SI true B w (.slice a l.length cap) l) :
    Calls Tryd.prog 30 #[.slice a l.length cap] w fun e w' => ∃ v, e = .returned v ∧ GZ w.heap.size w'.heap.size w' v l ∧ Below w.heap.size w w' := by
  obtain ⟨i0, hif, hz0, hz1, hz2⟩ := info_parts infoN
  cases a with
  | none =>
    obtain ⟨rfl, _, rfl⟩ := Arr.nil h
    clear h
    have hq : ∀ W : World, (binOp .eql 29 (.slice none 0 0) (.slice none 0 0)).run Tryd.prog W = .ok (.bool true) W := fun W => Lib.run_eql_slice_nil W _ _ _ _ _ _ _ Tryd.underlying29
    go_enter Tryd.func30, Tryd.ntmps30
    go_wp2
    go_ret
    exact ⟨_, rfl, .inr ⟨rfl, rfl⟩, Below.refl _ _⟩
  | some ad =>
    have HN : Hid (∀ x, Below w.heap.size w x → ∀ j u, (nums l)[j]? = some u → x.cell? (ad.add j) = some u) := fun x hx => SI.nums (SI.on h (Keep.of hx))
    clear h
    have hq : ∀ W : World, (binOp .eql 29 (.slice (some ad) l.length cap) (.slice none 0 0)).run Tryd.prog W = .ok (.bool false) W := fun W => Lib.run_eql_slice_nil W _ _ _ _ _ _ _ Tryd.underlying29
    go_enter Tryd.func30, Tryd.ntmps30
    go_wp2_with (at_builtin; refine wpList_append_own _ rfl _ _ 29 rfl w.heap.size 2 i0 (.int .i64 0) 1 8 Tryd.underlying29 hif hz0 hz1 hz2 rfl (by decide) _ _ _ rfl (World.ownsRow_made w #[] 0 (Nat.le_refl _) (by decide) (by simp)) ad l.length cap (nums l) rfl (by simp [nums]) (HN.out _ ((Below.refl _ _).alloc (Nat.le_refl _) _)) (nums_one _) (by unfold maxLen; omega) (by omega) (by simp) ?_)
    intro v' w1 hown hgrow hnil
    have hb : Below w.heap.size w w1 := ((Below.refl _ _).alloc (Nat.le_refl _) _).grown hgrow (by simp) (fun g hg => by simp [Value.ownBlock] at hg; omega)
    have HG : Hid (GZ w.heap.size w1.heap.size w1 v' l) := GZ.of (grow_of hown (fun h => by first | exact hnil h | exact absurd (hnil.1 h).1 (by simp))).gint
    clear hown hgrow hnil
    go_wp2
    go_ret
    exact ⟨_, rfl, HG.out, hb⟩
set_option maxRecDepth 100000 in
set_option maxHeartbeats 800000 in
theorem cloneCode (B : Nat) (v : Value) (l : List Tx.Ins) (hl : l.length ≤ 1048576) (w : World) (h : CS B w v l) :
    Calls Tryd.prog 31 #[v] w fun e w' => ∃ v, e = .returned v ∧ CS w.heap.size w' v l ∧ Below w.heap.size w w' := by
  obtain ⟨i0, hi, hz0, hz1, hz2⟩ := info_parts infoI
  obtain ⟨g, cap, rfl, _, _, hr, _⟩ := h
  have HR : Hid (Row w g 0 l) := hr
  clear hr
  have hq : ∀ W : World, (binOp .eql 33 (.slice (some ⟨g, 0, none⟩) l.length cap) (.slice none 0 0)).run Tryd.prog W = .ok (.bool false) W := fun W => Lib.run_eql_slice_nil W _ _ _ _ _ _ _ Tryd.underlying33
  go_enter Tryd.func31, Tryd.ntmps31
  go_wp2_with (at_builtin; refine wpList_append_own _ rfl _ _ 33 rfl w.heap.size 64 i0 (.agg #[.int .i64 0, .int .i64 0, .int .i64 0]) 3 24 Tryd.underlying33 hi hz0 hz1 hz2 rfl (by decide) _ _ _ rfl (World.ownsRow_made w #[] 0 (Nat.le_refl _) (by decide) (by simp)) ⟨g, 0, none⟩ l.length cap (flat l) rfl (flat_len l) (HR.out.on ((Below.refl _ _).alloc (Nat.le_refl _) _)).flat (flat_one _) (by unfold maxLen; omega) (by omega) (by simp) ?_)
  intro v' w1 hown hgrow hnil
  have hb : Below w.heap.size w w1 := ((Below.refl _ _).alloc (Nat.le_refl _) _).grown hgrow (by simp) (fun g hg => by simp [Value.ownBlock] at hg; omega)
  have HG : Hid (CS w.heap.size w1 v' l) := cs_of hown (fun h => by first | exact hnil h | exact absurd (hnil.1 h).1 (by simp))
  clear hown hgrow hnil
  go_wp2
  go_ret
  exact ⟨_, rfl, HG.out, hb⟩
end Pg
end Go.Proofs.YtogbkdhejdcpeaaDoor

/- The contract of the other side's copying of a method. -/
namespace Go.Proofs.YtogbkdhejdcpeaaDoor
namespace Pg
open Go.ChangeShapes Go.WideShapes Go.ChangeAt Go.RowKit St

theorem forget {P : Program} {ops : Array Oper} {Q : Exit → Act → World → Prop} {rest : List Oper} {a : Act} {w : World} (h : ∀ u, Hid (u = w) → wpList P ops Q rest a u) : wpList P ops Q rest a w := h w rfl

set_option maxRecDepth 100000 in
set_option maxHeartbeats 4000000 in
theorem l4Copy (B : Nat) (m : Meth) (va vc : Value) (hs : SmallM m) (w : World) (hv : MV front B w va vc m) :
    Calls Tryd.prog 38 #[.agg #[.int .i64 m.name, va, .int .i64 m.gives, vc]] w fun e w' => ∃ x1 y1 x2 y2, e = .returned (.agg #[.int .i64 m.name, .slice x1 m.args.length y1, .int .i64 m.gives, .slice x2 m.code.length y2]) ∧ AnsM w.heap.size w' (.slice x1 m.args.length y1) (.slice x2 m.code.length y2) m ∧ Below w.heap.size w w' ∧ CS w.heap.size w' (.slice x2 m.code.length y2) m.code := by
  obtain ⟨k0, hif, hz0, hz1, hz2⟩ := info_parts infoN
  obtain ⟨j0, hj, hy0, hy1, hy2⟩ := info_parts infoI
  obtain ⟨x1, y1, rfl⟩ := hv.1.form
  obtain ⟨gc, y2, rfl, _, _, hrow, _⟩ := hv.2
  have HI : Hid (SI true B w (.slice x1 m.args.length y1) m.args) := hv.1
  have HR : Hid (Row w gc 0 m.code) := hrow
  have hs1 := hs.1
  have hs2 := hs.2
  clear hv hrow hs
  have hwW : Below w.heap.size w ((w.alloc (.cells #[.int .i64 m.name, .slice x1 m.args.length y1, .int .i64 m.gives, .slice (some ⟨gc, 0, none⟩) m.code.length y2] 35)).alloc (.cells #[.int .i64 0, .slice none 0 0, .int .i64 0, .slice none 0 0] 35)) := ((Below.refl _ _).alloc (Nat.le_refl _) _).alloc (by simp) _
  have HZW : Hid (((w.alloc (.cells #[.int .i64 m.name, .slice x1 m.args.length y1, .int .i64 m.gives, .slice (some ⟨gc, 0, none⟩) m.code.length y2] 35)).alloc (.cells #[.int .i64 0, .slice none 0 0, .int .i64 0, .slice none 0 0] 35)).heap.size = w.heap.size + 1 + 1) := by show _ = _; simp
  have M0 : Hid (Cells ((w.alloc (.cells #[.int .i64 m.name, .slice x1 m.args.length y1, .int .i64 m.gives, .slice (some ⟨gc, 0, none⟩) m.code.length y2] 35)).alloc (.cells #[.int .i64 0, .slice none 0 0, .int .i64 0, .slice none 0 0] 35)) w.heap.size [.int .i64 m.name, .slice x1 m.args.length y1, .int .i64 m.gives, .slice (some ⟨gc, 0, none⟩) m.code.length y2]) := (Cells.new w _ rfl _ _).alloc _
  have R0 : Hid (Cells ((w.alloc (.cells #[.int .i64 m.name, .slice x1 m.args.length y1, .int .i64 m.gives, .slice (some ⟨gc, 0, none⟩) m.code.length y2] 35)).alloc (.cells #[.int .i64 0, .slice none 0 0, .int .i64 0, .slice none 0 0] 35)) (w.heap.size + 1) [.int .i64 0, .slice none 0 0, .int .i64 0, .slice none 0 0]) := Cells.new (w.alloc _) _ (by simp) _ _
  have HOW : Hid ((((w.alloc (.cells #[.int .i64 m.name, .slice x1 m.args.length y1, .int .i64 m.gives, .slice (some ⟨gc, 0, none⟩) m.code.length y2] 35)).alloc (.cells #[.int .i64 0, .slice none 0 0, .int .i64 0, .slice none 0 0] 35)).alloc (.cells #[] 2)).ownsRow (w.heap.size + 1 + 1) 2 1 (.slice (some ⟨w.heap.size + 1 + 1, 0, none⟩) 0 0) 0 []) := by
    have h := World.ownsRow_made (base := w.heap.size + 1 + 1) (e := 2) (size := 1) ((w.alloc (.cells #[.int .i64 m.name, .slice x1 m.args.length y1, .int .i64 m.gives, .slice (some ⟨gc, 0, none⟩) m.code.length y2] 35)).alloc (.cells #[.int .i64 0, .slice none 0 0, .int .i64 0, .slice none 0 0] 35)) #[] 0 (by simp) (by decide) (by simp)
    unfold Hid
    simpa using h
  have HNN : Hid ((⟨w.heap.size, 1, none⟩ : Addr).block ≠ w.heap.size + 1) := by show w.heap.size ≠ w.heap.size + 1; omega
  have b1 := (M0.out.alloc (.cells #[] 2)).g1.1
  cases x1 with
  | none =>
    obtain ⟨hfe, _, ht1⟩ := Arr.nil HI.out
    obtain ⟨nm, ags, gv, cd⟩ := m
    dsimp only at hfe
    subst hfe
    subst ht1
    dsimp only [List.length_nil] at *
    clear HI
    go_enter Tryd.func38, Tryd.ntmps38
    go_wp2_with (at_builtin; refine wpList_append_own_none rfl _ _ 29 rfl (w.heap.size + 1 + 1) 2 k0 1 Tryd.underlying29 hif _ _ _ rfl HOW.out rfl ?_; refine forget ?_)
    intro w1 hu
    have hb1 : Below ((w.alloc (.cells #[.int .i64 nm, .slice none 0 0, .int .i64 gv, .slice (some ⟨gc, 0, none⟩) cd.length y2] 35)).alloc (.cells #[.int .i64 0, .slice none 0 0, .int .i64 0, .slice none 0 0] 35)).heap.size ((w.alloc (.cells #[.int .i64 nm, .slice none 0 0, .int .i64 gv, .slice (some ⟨gc, 0, none⟩) cd.length y2] 35)).alloc (.cells #[.int .i64 0, .slice none 0 0, .int .i64 0, .slice none 0 0] 35)) w1 := by rw [hu.out]; exact (Below.refl _ _).alloc (Nat.le_refl _) _
    have HS1 : Hid (GZ (w.heap.size + 1 + 1) w1.heap.size w1 (.slice (some ⟨w.heap.size + 1 + 1, 0, none⟩) 0 0) []) := by
      rw [hu.out]
      exact GZ.of (grow_of (l := []) HOW.out (by simp)).gint
    have M1 := M0.out.on hb1
    have R1 := R0.out.on hb1
    have HB1 : Hid (Below w.heap.size w w1) := below_over hwW hb1
    have hz1' : w.heap.size + 1 + 1 ≤ w1.heap.size := by
      have h1 := hb1.size
      have h2 := HZW.out
      omega
    clear hu
    obtain ⟨m1, f1⟩ := M1.g1
    have MX1 := M1.s1 (.slice (some ⟨w.heap.size + 1 + 1, 0, none⟩) 0 0)
    have RX1 := R1.far ⟨w.heap.size, 1, none⟩ (.slice (some ⟨w.heap.size + 1 + 1, 0, none⟩) 0 0) HNN.out
    have SX1 := HS1.out.keep (Keep.set (B := w.heap.size + 1 + 1) w1 (p := ⟨w.heap.size, 1, none⟩) (by show w.heap.size < w.heap.size + 1 + 1; omega) (.slice (some ⟨w.heap.size + 1 + 1, 0, none⟩) 0 0)) (Nat.le_refl _)
    have hwX := HB1.out.setCell (p := ⟨w.heap.size, 1, none⟩) (by simp) (.slice (some ⟨w.heap.size + 1 + 1, 0, none⟩) 0 0)
    have hzX1 : w.heap.size + 1 + 1 ≤ (w1.setCell ⟨w.heap.size, 1, none⟩ (.slice (some ⟨w.heap.size + 1 + 1, 0, none⟩) 0 0)).heap.size := by
      simp
      omega
    clear hb1 b1 HS1 M1 R1 HB1 HOW M0 R0 hwW HZW
    have MB : Hid (Cells (w1.setCell ⟨w.heap.size, 1, none⟩ (.slice (some ⟨w.heap.size + 1 + 1, 0, none⟩) 0 0)) w.heap.size [.int .i64 nm, .slice (some ⟨w.heap.size + 1 + 1, 0, none⟩) 0 0, .int .i64 gv, .slice (some ⟨gc, 0, none⟩) cd.length y2]) := MX1
    have RB : Hid (Cells (w1.setCell ⟨w.heap.size, 1, none⟩ (.slice (some ⟨w.heap.size + 1 + 1, 0, none⟩) 0 0)) (w.heap.size + 1) [.int .i64 0, .slice none 0 0, .int .i64 0, .slice none 0 0]) := RX1
    have HV1 : Hid (GZ (w.heap.size + 1 + 1) w1.heap.size (w1.setCell ⟨w.heap.size, 1, none⟩ (.slice (some ⟨w.heap.size + 1 + 1, 0, none⟩) 0 0)) (.slice (some ⟨w.heap.size + 1 + 1, 0, none⟩) 0 0) []) := SX1
    have HBX : Hid (Below w.heap.size w (w1.setCell ⟨w.heap.size, 1, none⟩ (.slice (some ⟨w.heap.size + 1 + 1, 0, none⟩) 0 0))) := hwX
    have hzX : w.heap.size + 1 + 1 ≤ (w1.setCell ⟨w.heap.size, 1, none⟩ (.slice (some ⟨w.heap.size + 1 + 1, 0, none⟩) 0 0)).heap.size := hzX1
    clear MX1 RX1 SX1 hwX hzX1
    have HO2 : Hid (((w1.setCell ⟨w.heap.size, 1, none⟩ (.slice (some ⟨w.heap.size + 1 + 1, 0, none⟩) 0 0)).alloc (.cells #[] 64)).ownsRow w1.heap.size 64 3 (.slice (some ⟨w1.heap.size, 0, none⟩) 0 0) 0 []) := by
      have h := World.ownsRow_made (base := w1.heap.size) (e := 64) (size := 3) (w1.setCell ⟨w.heap.size, 1, none⟩ (.slice (some ⟨w.heap.size + 1 + 1, 0, none⟩) 0 0)) #[] 0 (by simp) (by decide) (by simp)
      unfold Hid
      simpa using h
    have k3 := (MB.out.alloc (.cells #[] 64)).g3.1
    go_wp2_with (at_builtin; go_loud (refine wpList_append_own _ rfl _ _ 33 rfl w1.heap.size 64 j0 (.agg #[.int .i64 0, .int .i64 0, .int .i64 0]) 3 24 Tryd.underlying33 hj hy0 hy1 hy2 rfl (by decide) _ _ _ rfl HO2.out ⟨gc, 0, none⟩ cd.length y2 (flat cd) rfl (flat_len cd) (HR.out.on (HBX.out.alloc HBX.out.size _)).flat (flat_one _) (by unfold maxLen; omega) (by omega) (by simp) ?_))
    intro v5 w5 hown5 hgrow5 hnil5
    have hb5 : Below (w1.setCell ⟨w.heap.size, 1, none⟩ (.slice (some ⟨w.heap.size + 1 + 1, 0, none⟩) 0 0)).heap.size (w1.setCell ⟨w.heap.size, 1, none⟩ (.slice (some ⟨w.heap.size + 1 + 1, 0, none⟩) 0 0)) w5 := ((Below.refl _ _).alloc (Nat.le_refl _) _).grown hgrow5 (by simp) (fun g hg => by simp [Value.ownBlock] at hg ⊢; omega)
    have hcs := cs_of hown5 (fun h => by first | exact hnil5 h | exact absurd (hnil5.1 h).1 (by simp))
    obtain ⟨a5, c5, rfl⟩ := front.form hcs
    have HC5 : Hid (CS w1.heap.size w5 (.slice a5 cd.length c5) cd) := hcs
    have HV5 : Hid (GZ (w.heap.size + 1 + 1) w1.heap.size w5 (.slice (some ⟨w.heap.size + 1 + 1, 0, none⟩) 0 0) []) := HV1.out.on hb5
    have HZ5 : Hid (w1.heap.size ≤ w5.heap.size) := by show _ ≤ _; have := hb5.size; simpa using this
    have HW5 : Hid (Below w.heap.size w w5) := below_over HBX.out hb5
    have O3 := MB.out.on hb5
    have R3 := RB.out.on hb5
    clear hown5 hgrow5 hnil5 hcs k3 HV1 HBX MB RB hb5
    have N10 : (⟨w.heap.size, 3, none⟩ : Addr).block ≠ w.heap.size + 1 := by show w.heap.size ≠ w.heap.size + 1; omega
    have O4 := O3.s3 (.slice a5 cd.length c5)
    have R4 := R3.far ⟨w.heap.size, 3, none⟩ (.slice a5 cd.length c5) N10
    have R5 := (((R4.s0 (.int .i64 nm)).s1 (.slice (some ⟨w.heap.size + 1 + 1, 0, none⟩) 0 0)).s2 (.int .i64 gv)).s3 (.slice a5 cd.length c5)
    obtain ⟨o3, p3⟩ := O3.g3
    obtain ⟨i0, _⟩ := O4.g0
    obtain ⟨i1, _⟩ := O4.g1
    obtain ⟨i2, _⟩ := O4.g2
    obtain ⟨i3, _⟩ := O4.g3
    obtain ⟨r0, q0⟩ := R4.g0
    obtain ⟨r1, q1⟩ := R4.g1
    obtain ⟨r2, q2⟩ := R4.g2
    obtain ⟨r3, q3⟩ := R4.g3
    obtain ⟨e0, _⟩ := R5.g0
    obtain ⟨e1, _⟩ := R5.g1
    obtain ⟨e2, _⟩ := R5.g2
    obtain ⟨e3, _⟩ := R5.g3
    clear O4 R4 R5 R3 O3 N10
    go_wp2
    refine bodyPost_ret (v := .agg #[.int .i64 nm, .slice (some ⟨w.heap.size + 1 + 1, 0, none⟩) 0 0, .int .i64 gv, .slice a5 cd.length c5]) (by simp [results, Tryd.results38, go_sem, e0, e1, e2, e3]) rfl ?_
    have hk : ∀ (x : World) (j i : Nat) (v : Value), j < w.heap.size + 1 + 1 → Keep (w.heap.size + 1 + 1) x (x.setCell ⟨j, i, none⟩ v) := fun x j i v hj => Keep.set x (p := ⟨j, i, none⟩) hj v
    have hkk := ((((hk w5 w.heap.size 3 (.slice a5 cd.length c5) (by omega)).trans (hk _ (w.heap.size + 1) 0 (.int .i64 nm) (by omega))).trans (hk _ (w.heap.size + 1) 1 (.slice (some ⟨w.heap.size + 1 + 1, 0, none⟩) 0 0) (by omega))).trans (hk _ (w.heap.size + 1) 2 (.int .i64 gv) (by omega))).trans (hk _ (w.heap.size + 1) 3 (.slice a5 cd.length c5) (by omega))
    have hbb := ((((HW5.out.setCell (p := ⟨w.heap.size, 3, none⟩) (by simp) (.slice a5 cd.length c5)).setCell (p := ⟨w.heap.size + 1, 0, none⟩) (by simp) (.int .i64 nm)).setCell (p := ⟨w.heap.size + 1, 1, none⟩) (by simp) (.slice (some ⟨w.heap.size + 1 + 1, 0, none⟩) 0 0)).setCell (p := ⟨w.heap.size + 1, 2, none⟩) (by simp) (.int .i64 gv)).setCell (p := ⟨w.heap.size + 1, 3, none⟩) (by simp) (.slice a5 cd.length c5)
    exact ⟨some ⟨w.heap.size + 1 + 1, 0, none⟩, 0, a5, c5, rfl, ⟨w1.heap.size, by omega, by have := hkk.size; have := HZ5.out; omega, (HV5.out.keep hkk (Nat.le_refl _)).weak (by omega) (Nat.le_refl _), ((CZ.of HC5.out).keep hkk hz1').weak (Nat.le_refl _) hkk.size⟩, hbb, front.weak (HC5.out.on (hkk.mono hz1')) (by omega)⟩
  | some ad =>
    have HN : Hid (∀ x, Below ((w.alloc (.cells #[.int .i64 m.name, .slice (some ad) m.args.length y1, .int .i64 m.gives, .slice (some ⟨gc, 0, none⟩) m.code.length y2] 35)).alloc (.cells #[.int .i64 0, .slice none 0 0, .int .i64 0, .slice none 0 0] 35)).heap.size ((w.alloc (.cells #[.int .i64 m.name, .slice (some ad) m.args.length y1, .int .i64 m.gives, .slice (some ⟨gc, 0, none⟩) m.code.length y2] 35)).alloc (.cells #[.int .i64 0, .slice none 0 0, .int .i64 0, .slice none 0 0] 35)) x → ∀ j u, (nums m.args)[j]? = some u → x.cell? (ad.add j) = some u) := fun x hx => SI.nums (SI.on HI.out (Keep.of (below_over hwW hx)))
    go_enter Tryd.func38, Tryd.ntmps38
    go_wp2_with (at_builtin; refine wpList_append_own _ rfl _ _ 29 rfl (w.heap.size + 1 + 1) 2 k0 (.int .i64 0) 1 8 Tryd.underlying29 hif hz0 hz1 hz2 rfl (by decide) _ _ _ rfl HOW.out ad m.args.length y1 (nums m.args) rfl (by simp [nums]) (HN.out _ ((Below.refl _ _).alloc (Nat.le_refl _) _)) (nums_one _) (by unfold maxLen; omega) (by omega) (by simp) ?_)
    intro v1 w1 hown1 hgrow1 hnil1
    have hb1 : Below ((w.alloc (.cells #[.int .i64 m.name, .slice (some ad) m.args.length y1, .int .i64 m.gives, .slice (some ⟨gc, 0, none⟩) m.code.length y2] 35)).alloc (.cells #[.int .i64 0, .slice none 0 0, .int .i64 0, .slice none 0 0] 35)).heap.size ((w.alloc (.cells #[.int .i64 m.name, .slice (some ad) m.args.length y1, .int .i64 m.gives, .slice (some ⟨gc, 0, none⟩) m.code.length y2] 35)).alloc (.cells #[.int .i64 0, .slice none 0 0, .int .i64 0, .slice none 0 0] 35)) w1 := ((Below.refl _ _).alloc (Nat.le_refl _) _).grown hgrow1 (by simp) (fun g hg => by simp [Value.ownBlock] at hg ⊢; omega)
    have hsi := GZ.of (grow_of hown1 (fun h => by first | exact hnil1 h | exact absurd (hnil1.1 h).1 (by simp))).gint
    obtain ⟨a1, c1, rfl⟩ := hsi.form
    have HS1 : Hid (GZ (w.heap.size + 1 + 1) w1.heap.size w1 (.slice a1 m.args.length c1) m.args) := hsi
    have M1 := M0.out.on hb1
    have R1 := R0.out.on hb1
    have HB1 : Hid (Below w.heap.size w w1) := below_over hwW hb1
    have hz1' : w.heap.size + 1 + 1 ≤ w1.heap.size := by
      have h1 := hb1.size
      have h2 := HZW.out
      omega
    obtain ⟨m1, f1⟩ := M1.g1
    have MX1 := M1.s1 (.slice a1 m.args.length c1)
    have RX1 := R1.far ⟨w.heap.size, 1, none⟩ (.slice a1 m.args.length c1) HNN.out
    have SX1 := HS1.out.keep (Keep.set (B := w.heap.size + 1 + 1) w1 (p := ⟨w.heap.size, 1, none⟩) (by show w.heap.size < w.heap.size + 1 + 1; omega) (.slice a1 m.args.length c1)) (Nat.le_refl _)
    have hwX := HB1.out.setCell (p := ⟨w.heap.size, 1, none⟩) (by simp) (.slice a1 m.args.length c1)
    have hzX1 : w.heap.size + 1 + 1 ≤ (w1.setCell ⟨w.heap.size, 1, none⟩ (.slice a1 m.args.length c1)).heap.size := by
      simp
      omega
    clear hown1 hgrow1 hnil1 hsi hb1 b1 HS1 M1 R1 HB1 HOW M0 R0 hwW HZW
    have MB : Hid (Cells (w1.setCell ⟨w.heap.size, 1, none⟩ (.slice a1 m.args.length c1)) w.heap.size [.int .i64 m.name, .slice a1 m.args.length c1, .int .i64 m.gives, .slice (some ⟨gc, 0, none⟩) m.code.length y2]) := MX1
    have RB : Hid (Cells (w1.setCell ⟨w.heap.size, 1, none⟩ (.slice a1 m.args.length c1)) (w.heap.size + 1) [.int .i64 0, .slice none 0 0, .int .i64 0, .slice none 0 0]) := RX1
    have HV1 : Hid (GZ (w.heap.size + 1 + 1) w1.heap.size (w1.setCell ⟨w.heap.size, 1, none⟩ (.slice a1 m.args.length c1)) (.slice a1 m.args.length c1) m.args) := SX1
    have HBX : Hid (Below w.heap.size w (w1.setCell ⟨w.heap.size, 1, none⟩ (.slice a1 m.args.length c1))) := hwX
    have hzX : w.heap.size + 1 + 1 ≤ (w1.setCell ⟨w.heap.size, 1, none⟩ (.slice a1 m.args.length c1)).heap.size := hzX1
    clear MX1 RX1 SX1 hwX hzX1
    have HO2 : Hid (((w1.setCell ⟨w.heap.size, 1, none⟩ (.slice a1 m.args.length c1)).alloc (.cells #[] 64)).ownsRow w1.heap.size 64 3 (.slice (some ⟨w1.heap.size, 0, none⟩) 0 0) 0 []) := by
      have h := World.ownsRow_made (base := w1.heap.size) (e := 64) (size := 3) (w1.setCell ⟨w.heap.size, 1, none⟩ (.slice a1 m.args.length c1)) #[] 0 (by simp) (by decide) (by simp)
      unfold Hid
      simpa using h
    have k3 := (MB.out.alloc (.cells #[] 64)).g3.1
    go_wp2_with (at_builtin; go_loud (refine wpList_append_own _ rfl _ _ 33 rfl w1.heap.size 64 j0 (.agg #[.int .i64 0, .int .i64 0, .int .i64 0]) 3 24 Tryd.underlying33 hj hy0 hy1 hy2 rfl (by decide) _ _ _ rfl HO2.out ⟨gc, 0, none⟩ m.code.length y2 (flat m.code) rfl (flat_len m.code) (HR.out.on (HBX.out.alloc HBX.out.size _)).flat (flat_one _) (by unfold maxLen; omega) (by omega) (by simp) ?_))
    intro v5 w5 hown5 hgrow5 hnil5
    have hb5 : Below (w1.setCell ⟨w.heap.size, 1, none⟩ (.slice a1 m.args.length c1)).heap.size (w1.setCell ⟨w.heap.size, 1, none⟩ (.slice a1 m.args.length c1)) w5 := ((Below.refl _ _).alloc (Nat.le_refl _) _).grown hgrow5 (by simp) (fun g hg => by simp [Value.ownBlock] at hg ⊢; omega)
    have hcs := cs_of hown5 (fun h => by first | exact hnil5 h | exact absurd (hnil5.1 h).1 (by simp))
    obtain ⟨a5, c5, rfl⟩ := front.form hcs
    have HC5 : Hid (CS w1.heap.size w5 (.slice a5 m.code.length c5) m.code) := hcs
    have HV5 : Hid (GZ (w.heap.size + 1 + 1) w1.heap.size w5 (.slice a1 m.args.length c1) m.args) := HV1.out.on hb5
    have HZ5 : Hid (w1.heap.size ≤ w5.heap.size) := by show _ ≤ _; have := hb5.size; simpa using this
    have HW5 : Hid (Below w.heap.size w w5) := below_over HBX.out hb5
    have O3 := MB.out.on hb5
    have R3 := RB.out.on hb5
    clear hown5 hgrow5 hnil5 hcs k3 HV1 HBX MB RB hb5
    have N10 : (⟨w.heap.size, 3, none⟩ : Addr).block ≠ w.heap.size + 1 := by show w.heap.size ≠ w.heap.size + 1; omega
    have O4 := O3.s3 (.slice a5 m.code.length c5)
    have R4 := R3.far ⟨w.heap.size, 3, none⟩ (.slice a5 m.code.length c5) N10
    have R5 := (((R4.s0 (.int .i64 m.name)).s1 (.slice a1 m.args.length c1)).s2 (.int .i64 m.gives)).s3 (.slice a5 m.code.length c5)
    obtain ⟨o3, p3⟩ := O3.g3
    obtain ⟨i0, _⟩ := O4.g0
    obtain ⟨i1, _⟩ := O4.g1
    obtain ⟨i2, _⟩ := O4.g2
    obtain ⟨i3, _⟩ := O4.g3
    obtain ⟨r0, q0⟩ := R4.g0
    obtain ⟨r1, q1⟩ := R4.g1
    obtain ⟨r2, q2⟩ := R4.g2
    obtain ⟨r3, q3⟩ := R4.g3
    obtain ⟨e0, _⟩ := R5.g0
    obtain ⟨e1, _⟩ := R5.g1
    obtain ⟨e2, _⟩ := R5.g2
    obtain ⟨e3, _⟩ := R5.g3
    clear O4 R4 R5 R3 O3 N10
    go_wp2
    refine bodyPost_ret (v := .agg #[.int .i64 m.name, .slice a1 m.args.length c1, .int .i64 m.gives, .slice a5 m.code.length c5]) (by simp [results, Tryd.results38, go_sem, e0, e1, e2, e3]) rfl ?_
    have hk : ∀ (x : World) (j i : Nat) (v : Value), j < w.heap.size + 1 + 1 → Keep (w.heap.size + 1 + 1) x (x.setCell ⟨j, i, none⟩ v) := fun x j i v hj => Keep.set x (p := ⟨j, i, none⟩) hj v
    have hkk := ((((hk w5 w.heap.size 3 (.slice a5 m.code.length c5) (by omega)).trans (hk _ (w.heap.size + 1) 0 (.int .i64 m.name) (by omega))).trans (hk _ (w.heap.size + 1) 1 (.slice a1 m.args.length c1) (by omega))).trans (hk _ (w.heap.size + 1) 2 (.int .i64 m.gives) (by omega))).trans (hk _ (w.heap.size + 1) 3 (.slice a5 m.code.length c5) (by omega))
    have hbb := ((((HW5.out.setCell (p := ⟨w.heap.size, 3, none⟩) (by simp) (.slice a5 m.code.length c5)).setCell (p := ⟨w.heap.size + 1, 0, none⟩) (by simp) (.int .i64 m.name)).setCell (p := ⟨w.heap.size + 1, 1, none⟩) (by simp) (.slice a1 m.args.length c1)).setCell (p := ⟨w.heap.size + 1, 2, none⟩) (by simp) (.int .i64 m.gives)).setCell (p := ⟨w.heap.size + 1, 3, none⟩) (by simp) (.slice a5 m.code.length c5)
    exact ⟨a1, c1, a5, c5, rfl, ⟨w1.heap.size, by omega, by have := hkk.size; have := HZ5.out; omega, (HV5.out.keep hkk (Nat.le_refl _)).weak (by omega) (Nat.le_refl _), ((CZ.of HC5.out).keep hkk hz1').weak (Nat.le_refl _) hkk.size⟩, hbb, front.weak (HC5.out.on (hkk.mono hz1')) (by omega)⟩
end Pg
end Go.Proofs.YtogbkdhejdcpeaaDoor
