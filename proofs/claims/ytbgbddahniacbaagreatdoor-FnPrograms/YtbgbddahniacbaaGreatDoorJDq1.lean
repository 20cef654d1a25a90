/- What the steps of the draw make of a class under way, and of the classes that stand. -/
import Derived.Test.YtbgbddahniacbaaGreatDoorJDq0
import Derived.Maps.AppendAt
namespace Go.Proofs.YtbgbddahniacbaaGreatDoor
namespace Pg
open Go.ChangeShapes Go.WideShapes Go.ChangeAt Go.RowKit St

theorem off_low {v : Value} {L M : Nat} (h : ∀ g, v.ownBlock = some g → g < L) : Off v L M := fun g hg => .inl (h g hg)
/-- A store into the box of a class under way. -/
theorem XC.super {s : Nat} {w : World} {c : Cls} (h : XC s w c) (x : Int) : XC s (w.setCell ⟨s + 1, 0, none⟩ (.int .i64 x)) { c with super := x } := by
  obtain ⟨vf, vm, h1, h2⟩ := h
  refine ⟨vf, vm, h1.s0 _, XD.but (c := { c with super := x }) h2 (by simp) (fun k _ _ hk => Below.heap_setCell w ⟨s + 1, 0, none⟩ _ k hk)⟩
/-- A method more. -/
theorem XC.meth {s L : Nat} {w w1 : World} {c : Cls} {vf vm v' va vc : Value} {m : Meth} {l : List (Meth × Value × Value)} {tmp : Obj}
    (h1 : Cells w (s + 1) [.int .i64 c.super, vf, vm]) (h2 : Grow s w vf c.fields) (he : l.map (·.1) = c.meths) (h3 : w.ownsRow (s + 2) 35 4 vm c.meths.length (flatM l))
    (h4 : ∀ x ∈ l, ∃ L M, s + 2 ≤ L ∧ Win L M (fun u => MV front L u x.2.1 x.2.2 x.1) w ∧ Off vm L M ∧ Off vf L M) (h7 : ∀ g, vf.ownBlock = some g → vm.ownBlock ≠ some g) (h8 : vf.ownBlock ≠ some (s + 1))
    (hL : s + 2 ≤ L) (hm : MV front L w va vc m) (hvm : ∀ g, vm.ownBlock = some g → g < L) (hvf : ∀ g, vf.ownBlock = some g → g < L)
    (hown : w1.ownsRow (s + 2) 35 4 v' (c.meths.length + 1) (flatM l ++ [.int .i64 m.name, va, .int .i64 m.gives, vc])) (hgrow : (w.alloc tmp).grownBy w1 vm.ownBlock) (hat : v'.ownBlock = vm.ownBlock ∨ v'.ownBlock = some (w.alloc tmp).heap.size) :
    Cells w1 (s + 1) [.int .i64 c.super, vf, vm] ∧ XC s (w1.setCell ⟨s + 1, 2, none⟩ v') { c with meths := c.meths ++ [m] } ∧ Below s w (w1.setCell ⟨s + 1, 2, none⟩ v') := by
  have hx : s + 1 < w.heap.size := St.cell_lt (h1 0 _ rfl).1
  have hrow : ∀ g, vm.ownBlock = some g → s + 2 ≤ g := fun g hg => (h3.lt g hg).1
  have hb : ∀ k, k < w.heap.size → some k ≠ vm.ownBlock → w1.heap[k]? = w.heap[k]? := fun k hk hne => by
    rw [hgrow.block k (by simp; omega) hne]; exact Below.heap_alloc w tmp k hk
  have hz : w.heap.size ≤ w1.heap.size := by have := hgrow.size; simp at this; omega
  have hset : ∀ k, k ≠ s + 1 → (w1.setCell ⟨s + 1, 2, none⟩ v').heap[k]? = w1.heap[k]? := fun k hk => Below.heap_setCell w1 ⟨s + 1, 2, none⟩ v' k hk
  have hsz : (w1.setCell ⟨s + 1, 2, none⟩ v').heap.size = w1.heap.size := by simp
  have c1 : Cells w1 (s + 1) [.int .i64 c.super, vf, vm] := cells_move h1 (hb (s + 1) hx (fun e => by have := hrow (s + 1) e.symm; omega))
  refine ⟨c1, ⟨vf, v', c1.s2 v', ⟨own_move h2.1 (fun g hg => ?_), h2.2⟩, ⟨l ++ [(m, va, vc)], by rw [List.map_append, he]; rfl, own_move (u := w1) ?_ (fun g hg => ?_), fun x hx' => ?_⟩, fun g hg => ?_, h8⟩, (((Below.refl s w).alloc (by omega) tmp).grown hgrow (by simp; omega) (fun g hg => by have := hrow g hg; omega)).setCell (p := ⟨s + 1, 2, none⟩) (by show s ≤ s + 1; omega) v'⟩
  · have := h2.1.lt g hg
    rw [hset g (fun e => h8 (e ▸ hg))]; exact hb g this.2 (fun e => h7 g hg e.symm)
  · rw [flatM_snoc]; simpa using hown
  · have := hown.lt g hg; exact hset g (by omega)
  · have hmv : ∀ {L0 M0 : Nat} {R : World → Prop}, s + 2 ≤ L0 → Win L0 M0 R w → Off vm L0 M0 → Win L0 M0 R (w1.setCell ⟨s + 1, 2, none⟩ v') := fun k1 k2 k3 =>
      k2.move (by rw [hsz]; exact hz) (fun k a b => by
        rw [hset k (by omega)]
        exact hb k (Nat.lt_of_lt_of_le b k2.1) (fun e => by have := k3 k e.symm; omega))
    rcases List.mem_append.1 hx' with hx' | hx'
    · obtain ⟨L0, M0, k1, k2, k3, k4⟩ := h4 x hx'
      exact ⟨L0, M0, k1, hmv k1 k2 k3, k3.next (by have := k2.1; simp; omega) hat, k4⟩
    · simp at hx'
      subst hx'
      have ho : Off vm L w.heap.size := off_low hvm
      exact ⟨L, w.heap.size, hL, hmv hL hm.win ho, ho.next (by simp) hat, off_low hvf⟩
  · intro e
    rcases hat with e' | e'
    · exact h7 g hg (e'.symm.trans e)
    · have := h2.1.lt g hg
      rw [e'] at e; injection e with e; simp at e; omega
/-- A field more. -/
theorem XC.field {s : Nat} {w w1 : World} {c : Cls} {vf vm v' : Value} {f : Int} {l : List (Meth × Value × Value)} {tmp : Obj}
    (h1 : Cells w (s + 1) [.int .i64 c.super, vf, vm]) (h2 : Grow s w vf c.fields) (he : l.map (·.1) = c.meths) (h3 : w.ownsRow (s + 2) 35 4 vm c.meths.length (flatM l))
    (h4 : ∀ x ∈ l, ∃ L M, s + 2 ≤ L ∧ Win L M (fun u => MV front L u x.2.1 x.2.2 x.1) w ∧ Off vm L M ∧ Off vf L M) (h7 : ∀ g, vf.ownBlock = some g → vm.ownBlock ≠ some g) (h8 : vf.ownBlock ≠ some (s + 1))
    (hown : w1.ownsRow s 2 1 v' (c.fields.length + 1) (nums c.fields ++ [.int .i64 f])) (hgrow : (w.alloc tmp).grownBy w1 vf.ownBlock) (hat : v'.ownBlock = vf.ownBlock ∨ v'.ownBlock = some (w.alloc tmp).heap.size) (hvn : v' ≠ .slice none 0 0) :
    Cells w1 (s + 1) [.int .i64 c.super, vf, vm] ∧ XC s (w1.setCell ⟨s + 1, 1, none⟩ v') { c with fields := c.fields ++ [f] } ∧ Below s w (w1.setCell ⟨s + 1, 1, none⟩ v') := by
  have hx : s + 1 < w.heap.size := St.cell_lt (h1 0 _ rfl).1
  have hrow : ∀ g, vf.ownBlock = some g → s ≤ g := fun g hg => (h2.1.lt g hg).1
  have hb : ∀ k, k < w.heap.size → some k ≠ vf.ownBlock → w1.heap[k]? = w.heap[k]? := fun k hk hne => by
    rw [hgrow.block k (by simp; omega) hne]; exact Below.heap_alloc w tmp k hk
  have hz : w.heap.size ≤ w1.heap.size := by have := hgrow.size; simp at this; omega
  have hset : ∀ k, k ≠ s + 1 → (w1.setCell ⟨s + 1, 1, none⟩ v').heap[k]? = w1.heap[k]? := fun k hk => Below.heap_setCell w1 ⟨s + 1, 1, none⟩ v' k hk
  have hsz : (w1.setCell ⟨s + 1, 1, none⟩ v').heap.size = w1.heap.size := by simp
  have c1 : Cells w1 (s + 1) [.int .i64 c.super, vf, vm] := cells_move h1 (hb (s + 1) hx (fun e => h8 e.symm))
  have h8' : v'.ownBlock ≠ some (s + 1) := fun e => by
    rcases hat with e' | e'
    · exact h8 (e'.symm.trans e)
    · rw [e'] at e; injection e with e; simp at e; omega
  refine ⟨c1, ⟨v', vm, c1.s1 v', ⟨own_move (u := w1) ?_ (fun g hg => ?_), hvn⟩, ⟨l, he, own_move h3 (fun g hg => ?_), fun x hx' => ?_⟩, fun g hg => ?_, h8'⟩, (((Below.refl s w).alloc (by omega) tmp).grown hgrow (by simp; omega) (fun g hg => hrow g hg)).setCell (p := ⟨s + 1, 1, none⟩) (by show s ≤ s + 1; omega) v'⟩
  · have e : nums (c.fields ++ [f]) = nums c.fields ++ [.int .i64 f] := by simp [nums]
    show w1.ownsRow _ _ _ _ (c.fields ++ [f]).length (nums (c.fields ++ [f]))
    rw [e, List.length_append]; exact hown
  · exact hset g (fun e => h8' (e ▸ hg))
  · have := h3.lt g hg
    rw [hset g (by omega)]; exact hb g this.2 (fun e => h7 g e.symm hg)
  · obtain ⟨L0, M0, k1, k2, k3, k4⟩ := h4 x hx'
    exact ⟨L0, M0, k1, k2.move (by rw [hsz]; exact hz) (fun k a b => by
      rw [hset k (by omega)]
      exact hb k (Nat.lt_of_lt_of_le b k2.1) (fun e => by have := k4 k e.symm; omega)), k3, k4.next (by have := k2.1; simp; omega) hat⟩
  · intro e
    have h := h3.lt g e
    rcases hat with e' | e'
    · exact h7 g (e'.symm.trans hg) e
    · rw [e'] at hg; injection hg with hg; simp at hg; omega
/-- One method in the place of all. -/
theorem XC.only {s L : Nat} {w : World} {c : Cls} {vf vm va vc : Value} {m : Meth}
    (h1 : Cells w (s + 1) [.int .i64 c.super, vf, vm]) (h2 : Grow s w vf c.fields) (h8 : vf.ownBlock ≠ some (s + 1)) (hL : s + 2 ≤ L) (hm : MV front L w va vc m) (hvf : ∀ g, vf.ownBlock = some g → g < L) :
    XC s ((w.alloc (.cells #[.int .i64 m.name, va, .int .i64 m.gives, vc] 35)).setCell ⟨s + 1, 2, none⟩ (.slice (some ⟨w.heap.size, 0, none⟩) 1 1)) { c with meths := [m] } := by
  have hx : s + 1 < w.heap.size := St.cell_lt (h1 0 _ rfl).1
  have hset : ∀ k, k ≠ s + 1 → ((w.alloc (.cells #[.int .i64 m.name, va, .int .i64 m.gives, vc] 35)).setCell ⟨s + 1, 2, none⟩ (.slice (some ⟨w.heap.size, 0, none⟩) 1 1)).heap[k]? = (w.alloc (.cells #[.int .i64 m.name, va, .int .i64 m.gives, vc] 35)).heap[k]? := fun k hk => Below.heap_setCell _ ⟨s + 1, 2, none⟩ _ k hk
  have hal : ∀ k, k < w.heap.size → (w.alloc (.cells #[.int .i64 m.name, va, .int .i64 m.gives, vc] 35)).heap[k]? = w.heap[k]? := fun k hk => Below.heap_alloc w _ k hk
  have hO : (w.alloc (.cells #[.int .i64 m.name, va, .int .i64 m.gives, vc] 35)).ownsRow (s + 2) 35 4 (.slice (some ⟨w.heap.size, 0, none⟩) 1 1) 1 (flatM [(m, va, vc)]) :=
    ⟨rfl, .inr ⟨w.heap.size, 1, #[.int .i64 m.name, va, .int .i64 m.gives, vc], rfl, by omega, heap_alloc_new w _, Nat.le_refl _, by decide, rfl, rfl⟩⟩
  refine ⟨vf, .slice (some ⟨w.heap.size, 0, none⟩) 1 1, (h1.alloc _).s2 _, ⟨own_move h2.1 (fun g hg => ?_), h2.2⟩, ⟨[(m, va, vc)], rfl, own_move hO (fun g hg => ?_), fun x hx' => ?_⟩, fun g hg => ?_, h8⟩
  · have := h2.1.lt g hg
    rw [hset g (fun e => h8 (e ▸ hg))]; exact hal g this.2
  · simp [Value.ownBlock] at hg; subst hg; exact hset _ (by omega)
  · simp at hx'
    subst hx'
    refine ⟨L, w.heap.size, hL, hm.win.move (by simp) (fun k a b => by rw [hset k (by omega)]; exact hal k b), fun g hg => ?_, off_low hvf⟩
    simp [Value.ownBlock] at hg; omega
  · intro e
    have := h2.1.lt g hg
    simp [Value.ownBlock] at e; omega
/-- A class under way, all parts named. -/
structure XP (s : Nat) (w : World) (c : Cls) (vf vm : Value) (l : List (Meth × Value × Value)) : Prop where
  c1 : Cells w (s + 1) [.int .i64 c.super, vf, vm]
  gf : Grow s w vf c.fields
  he : l.map (·.1) = c.meths
  own : w.ownsRow (s + 2) 35 4 vm c.meths.length (flatM l)
  win : ∀ x ∈ l, ∃ L M, s + 2 ≤ L ∧ Win L M (fun u => MV front L u x.2.1 x.2.2 x.1) w ∧ Off vm L M ∧ Off vf L M
  h7 : ∀ g, vf.ownBlock = some g → vm.ownBlock ≠ some g
  h8 : vf.ownBlock ≠ some (s + 1)
theorem XC.parts {s : Nat} {w : World} {c : Cls} (h : XC s w c) : ∃ vf vm l, XP s w c vf vm l := by
  obtain ⟨vf, vm, h1, h2, ⟨l, e, h3, h4⟩, h7, h8⟩ := h
  exact ⟨vf, vm, l, h1, h2, e, h3, h4, h7, h8⟩
theorem XP.xc {s : Nat} {w : World} {c : Cls} {vf vm : Value} {l : List (Meth × Value × Value)} (h : XP s w c vf vm l) : XC s w c := ⟨vf, vm, h.c1, h.gf, ⟨l, h.he, h.own, h.win⟩, h.h7, h.h8⟩
theorem XP.same {s : Nat} {w w' : World} {c : Cls} {vf vm : Value} {l : List (Meth × Value × Value)} (h : XP s w c vf vm l) (hs : Same s w.heap.size w w') : XP s w' c vf vm l := by
  have hx : s + 1 < w.heap.size := St.cell_lt (h.c1 0 _ rfl).1
  refine ⟨cells_move h.c1 (hs.2 (s + 1) (by omega) hx), ⟨own_move h.gf.1 (fun g hg => ?_), h.gf.2⟩, h.he, own_move h.own (fun g hg => ?_), fun x hx => ?_, h.h7, h.h8⟩
  · have := h.gf.1.lt g hg; exact hs.2 g (by omega) this.2
  · have := h.own.lt g hg; exact hs.2 g (by omega) this.2
  · obtain ⟨L, M, k1, k2, k3, k4⟩ := h.win x hx
    exact ⟨L, M, k1, k2.move hs.1 (fun k a b => hs.2 k (by omega) (Nat.lt_of_lt_of_le b k2.1)), k3, k4⟩
theorem XP.form {s : Nat} {w : World} {c : Cls} {vf vm : Value} {l : List (Meth × Value × Value)} (h : XP s w c vf vm l) : ∃ a d, vm = .slice a c.meths.length d := by
  obtain ⟨_, ⟨hv, hn⟩ | ⟨g, cap, cur, hv, _⟩⟩ := h.own
  · exact ⟨none, 0, by rw [hv, hn]⟩
  · exact ⟨_, _, hv⟩
theorem XP.formf {s : Nat} {w : World} {c : Cls} {vf vm : Value} {l : List (Meth × Value × Value)} (h : XP s w c vf vm l) : ∃ g d, vf = .slice (some ⟨g, 0, none⟩) c.fields.length d := by
  obtain ⟨g, d, hv, _⟩ := h.gf.gint
  exact ⟨g, d, hv⟩
/-- The rows lay ahead of L, where L is what there was. -/
theorem XP.lt {s : Nat} {w : World} {c : Cls} {vf vm : Value} {l : List (Meth × Value × Value)} (h : XP s w c vf vm l) : (∀ g, vm.ownBlock = some g → g < w.heap.size) ∧ (∀ g, vf.ownBlock = some g → g < w.heap.size) ∧ s + 2 ≤ w.heap.size :=
  ⟨fun g hg => (h.own.lt g hg).2, fun g hg => (h.gf.1.lt g hg).2, St.cell_lt (h.c1 0 _ rfl).1⟩

/-- A class more. -/
theorem PC.class {pb T s : Nat} {w w1 : World} {cs : Prg} {c : Cls} {v v' vf vm : Value} {l : List (Cls × Value × Value)} {W : Nat → Nat × Nat} {tmp : Obj}
    (h1 : Cells w pb [v]) (hp : pb < T) (he : l.map (·.1) = cs) (h3 : w.ownsRow (pb + 1) 45 3 v cs.length (flatK l)) (h4 : ∀ g, v.ownBlock = some g → g < T)
    (h5 : KD (pb + 1) T v w l W) (hx : T ≤ s) (hc : XD s w vf vm c) (hTw : T ≤ w.heap.size)
    (hown : w1.ownsRow (pb + 1) 45 3 v' (cs.length + 1) (flatK l ++ [.int .i64 c.super, vf, vm])) (hgrow : (w.alloc tmp).grownBy w1 v.ownBlock) (hat : v'.ownBlock = v.ownBlock ∨ v'.ownBlock = some (w.alloc tmp).heap.size) :
    Cells w1 pb [v] ∧ PC pb (w1.setCell ⟨pb, 0, none⟩ v').heap.size (w1.setCell ⟨pb, 0, none⟩ v') (cs ++ [c]) ∧ Below pb w (w1.setCell ⟨pb, 0, none⟩ v') := by
  have hpw : pb < w.heap.size := St.cell_lt (h1 0 _ rfl).1
  have hrow : ∀ g, v.ownBlock = some g → pb + 1 ≤ g := fun g hg => (h3.lt g hg).1
  have hb : ∀ k, k < w.heap.size → some k ≠ v.ownBlock → w1.heap[k]? = w.heap[k]? := fun k hk hne => by
    rw [hgrow.block k (by simp; omega) hne]; exact Below.heap_alloc w tmp k hk
  have hz : w.heap.size ≤ w1.heap.size := by have := hgrow.size; simp at this; omega
  have hset : ∀ k, k ≠ pb → (w1.setCell ⟨pb, 0, none⟩ v').heap[k]? = w1.heap[k]? := fun k hk => Below.heap_setCell w1 ⟨pb, 0, none⟩ v' k hk
  have hsz : (w1.setCell ⟨pb, 0, none⟩ v').heap.size = w1.heap.size := by simp
  have c1 : Cells w1 pb [v] := cells_move h1 (hb pb hpw (fun e => by have := hrow pb e.symm; omega))
  have hll : l.length = cs.length := by rw [← he]; simp
  have hmv : ∀ {L0 M0 : Nat} {R : World → Prop}, pb + 1 ≤ L0 → Win L0 M0 R w → Off v L0 M0 → Win L0 M0 R (w1.setCell ⟨pb, 0, none⟩ v') := fun k1 k2 k3 =>
    k2.move (by rw [hsz]; exact hz) (fun k a b => by
      rw [hset k (by omega)]
      exact hb k (Nat.lt_of_lt_of_le b k2.1) (fun e => by have := k3 k e.symm; omega))
  refine ⟨c1, ⟨Nat.le_refl _, v', l ++ [(c, vf, vm)], fun j => if j < l.length then W j else (s, w.heap.size), by rw [List.map_append, he]; rfl, c1.s0 v', by rw [hsz]; omega, own_move (u := w1) ?_ (fun g hg => ?_), fun g hg => ?_, fun j x hx' => ?_⟩, (((Below.refl pb w).alloc (by omega) tmp).grown hgrow (by simp; omega) (fun g hg => by have := hrow g hg; omega)).setCell (p := ⟨pb, 0, none⟩) (Nat.le_refl _) v'⟩
  · rw [flatK_snoc]; simpa using hown
  · have := hown.lt g hg; exact hset g (by omega)
  · have := hown.lt g hg; rw [hsz]; exact this.2
  · by_cases hj : j < l.length
    · rw [List.getElem?_append_left hj] at hx'
      obtain ⟨k1, k2, k3, k4, k5⟩ := h5 j x hx'
      simp only [hj, if_true]
      refine ⟨k1, by rw [hsz]; omega, hmv k1 k3 k4, k4.next (by simp; omega) hat, fun i hi => ?_⟩
      rw [if_pos (by omega)]; exact k5 i hi
    · have hje : j = l.length := by
        have := (List.getElem?_eq_some_iff.1 hx').1
        simp at this; omega
      subst hje
      have hxe : x = (c, vf, vm) := by simpa using hx'.symm
      subst hxe
      have ho : Off v s w.heap.size := off_low (fun g hg => by have := h4 g hg; omega)
      simp only [Nat.lt_irrefl, if_false]
      refine ⟨by omega, by rw [hsz]; exact hz, hmv (by omega) hc.win ho, ho.next (by simp) hat, fun i hi => ?_⟩
      rw [if_pos hi]
      obtain ⟨y, hy⟩ : ∃ y, l[i]? = some y := ⟨_, List.getElem?_eq_getElem hi⟩
      have := (h5 i y hy).2.1
      omega
/-- A row of classes whose rows stand is a program as it lies. -/
theorem sk_of {lo g cap : Nat} {w : World} {l : List (Cls × Value × Value)} {cs : Prg} (e : l.map (·.1) = cs) (hown : w.ownsRow lo 45 3 (.slice (some ⟨g, 0, none⟩) cs.length cap) cs.length (flatK l)) (hd : ∀ (j : Nat) (x : Cls × Value × Value), l[j]? = some x → CV front lo w x.2.1 x.2.2 x.1) : SK front lo w (.slice (some ⟨g, 0, none⟩) cs.length cap) cs := by
  have hown' := hown
  obtain ⟨hl, ⟨hv, hz⟩ | ⟨g', cap', cur, hv, hB, hblk, hle, hmx, hsz, htk⟩⟩ := hown
  · simp at hv
  · injection hv with e1 e2 e3
    injection e1 with e1
    injection e1 with e1
    subst e1 e3
    have hgw : g < w.heap.size := (Array.getElem?_eq_some_iff.1 hblk).1
    refine ⟨some ⟨g, 0, none⟩, cap, rfl, fun _ h => by simp at h, fun hp => ⟨g, 0, rfl, hB, ⟨hgw, fun _ j hj => by simp [World.frozen?, hblk]⟩, fun j c hj => ?_⟩⟩
    obtain ⟨x, hx⟩ : ∃ x, l[j]? = some x := by
      rw [← e, List.getElem?_map] at hj
      cases hq : l[j]? with
      | none => rw [hq] at hj; simp at hj
      | some x => exact ⟨x, rfl⟩
    have hxm : x.1 = c := by rw [← e, List.getElem?_map, hx] at hj; simpa using hj
    have hcv := hd j x hx
    obtain ⟨a0, a1, a2⟩ := flatK_at l j x hx
    have hcell : ∀ i u, (flatK l)[i]? = some u → w.cell? ⟨g, 0 + i, none⟩ = some u := fun i u hu => by
      have := World.ownsRow.cells hown' (g := g) rfl i u hu
      rwa [Go.WideShapes.add_plain] at this
    subst hxm
    refine ⟨x.2.1, x.2.2, ?_, ?_, ?_, hcv⟩
    · have := hcell _ _ a0; rwa [Nat.zero_add] at this ⊢
    · have := hcell _ _ a1; rw [Nat.zero_add] at this ⊢; exact this
    · have := hcell _ _ a2; rw [Nat.zero_add] at this ⊢; exact this
theorem KD.cv {lo hi : Nat} {v : Value} {w : World} {l : List (Cls × Value × Value)} {W : Nat → Nat × Nat} (h : KD lo hi v w l W) : ∀ (j : Nat) (x : Cls × Value × Value), l[j]? = some x → CV front lo w x.2.1 x.2.2 x.1 := fun j x hx => by
  obtain ⟨k1, _, k3, _, _⟩ := h j x hx
  exact k3.now.cv.weak k1
end Pg
end Go.Proofs.YtbgbddahniacbaaGreatDoor
