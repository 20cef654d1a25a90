/- Rows of methods that a call makes. -/
import Derived.Test.YtdomclicgajihaaJFm0
import Derived.Test.YtdomclicgajihaaJPf0
import Derived.Maps.AppendAt
import Derived.Deep.RegionLaw
import Derived.Laws.AppendOwnNone
import Derived.Deep.RegionHeld3
import Derived.Deep.CutRange
import Derived.Deep.DeepCutAuto
import Derived.Test.YtdomclicgajihaaJFl0
namespace Go.Proofs.Ytdomclicgajihaa
namespace Pg
open Go.ChangeShapes Go.WideShapes Go.ChangeAt Go.RowKit St

theorem infoMM : (Try.prog.info? 52).map (fun i => (i.zero, i.size, i.bytes)) = some (some (.agg #[.int .i64 0, .slice none 0 0, .int .i64 0, .slice none 0 0]), 4, 64) := by kernel_rfl
/-- A row of methods that the call has made and that may grow. -/
def GrowM (B : Nat) (w : World) (v : Value) (l : List (Meth × Value × Value)) : Prop := w.ownsRow B 52 4 v l.length (flatM l) ∧ v ≠ .slice none 0 0
theorem GrowM.on {B : Nat} {u v : World} {x : Value} {l : List (Meth × Value × Value)} (h : GrowM B u x l) (hb : Below u.heap.size u v) : GrowM B v x l := ⟨ownOn h.1 hb, h.2⟩
theorem GrowM.base {B B' : Nat} {w : World} {v : Value} {l : List (Meth × Value × Value)} (h : GrowM B w v l) (hB : B' ≤ B) : GrowM B' w v l := ⟨ownBase h.1 hB, h.2⟩
theorem GrowM.form {B : Nat} {w : World} {v : Value} {l : List (Meth × Value × Value)} (h : GrowM B w v l) : ∃ g cap, v = .slice (some ⟨g, 0, none⟩) l.length cap ∧ B ≤ g ∧ g < w.heap.size := by
  obtain ⟨h, hv⟩ := h
  have hlt := @World.ownsRow.lt w B 52 4 v l.length (flatM l) h
  obtain ⟨_, ⟨h, _⟩ | ⟨g, cap, cur, rfl, hB, hblk, hcap, hmax, hsz, _⟩⟩ := h
  · exact absurd h hv
  · exact ⟨g, cap, rfl, hB, (hlt g rfl).2⟩
theorem growM_nil (w : World) : GrowM w.heap.size (w.alloc (.cells #[] 52)) (.slice (some ⟨w.heap.size, 0, none⟩) 0 0) [] := by
  refine ⟨?_, by simp⟩
  have h : (w.alloc (.cells #[] 52)).ownsRow w.heap.size 52 4 (.slice (some ⟨w.heap.size, 0, none⟩) 0 0) 0 [] := World.ownsRow_made w #[] 0 (Nat.le_refl _) (by decide) (by simp)
  exact h
theorem cell_four (w : World) (a b c d : Value) (t : TypeId) : ∀ (j : Nat) (u : Value), [a, b, c, d][j]? = some u → (w.alloc (.cells #[a, b, c, d] t)).cell? ((⟨w.heap.size, 0, none⟩ : Addr).add j) = some u := by
  intro j u hu
  rw [Go.WideShapes.add_plain, Nat.zero_add]
  have := (Cells.new w _ rfl [a, b, c, d] t) j u hu
  exact this.1
theorem GrowM.next {w : World} {B : Nat} {v : Value} {l : List (Meth × Value × Value)} {x : Meth × Value × Value} (h : w.ownsRow B 52 4 v (l.length + 1) (flatM l ++ [.int .i64 x.1.name, x.2.1, .int .i64 x.1.gives, x.2.2])) (hv : v ≠ .slice none 0 0) : GrowM B w v (l ++ [x]) := by
  refine ⟨?_, hv⟩
  rw [flatM_snoc, List.length_append]
  exact h
theorem GrowM.sm {B B' : Nat} {w : World} {v : Value} {l : List (Meth × Value × Value)} (h : GrowM B' w v l) (hB : B ≤ B') (hd : ∀ x ∈ l, MV front B w x.2.1 x.2.2 x.1) : SM front B w v (l.map (·.1)) := sm_of rfl hB (by rw [List.length_map]; exact h.1) hd
end Pg
end Go.Proofs.Ytdomclicgajihaa

/- Rows of classes that a call makes, what each class holds in blocks of its own. -/
namespace Go.Proofs.Ytdomclicgajihaa
namespace Pg
open Go.ChangeShapes Go.WideShapes Go.ChangeAt Go.RowKit St

/-- What hangs on the blocks from L up to M alone. -/
def Zw (L M : Nat) (R : World → Prop) (w : World) : Prop := M ≤ w.heap.size ∧ ∀ w' : World, w.heap.size ≤ w'.heap.size → (∀ k, L ≤ k → k < M → w'.heap[k]? = w.heap[k]?) → R w'
theorem Zw.now {L M : Nat} {R : World → Prop} {w : World} (h : Zw L M R w) : R w := h.2 w (Nat.le_refl _) (fun _ _ _ => rfl)
theorem Zw.move {L M : Nat} {R : World → Prop} {w w' : World} (h : Zw L M R w) (hs : w.heap.size ≤ w'.heap.size) (hb : ∀ k, L ≤ k → k < M → w'.heap[k]? = w.heap[k]?) : Zw L M R w' :=
  ⟨Nat.le_trans h.1 hs, fun x hx hk => h.2 x (Nat.le_trans hs hx) (fun k h1 h2 => (hk k h1 h2).trans (hb k h1 h2))⟩
theorem Zw.on {L M : Nat} {R : World → Prop} {w w' : World} (h : Zw L M R w) (hb : Below w.heap.size w w') : Zw L M R w' := h.move hb.size fun k _ h2 => hb.block k (Nat.lt_of_lt_of_le h2 h.1)
theorem Zw.imp {L M : Nat} {R R' : World → Prop} {w : World} (h : Zw L M R w) (hi : ∀ u, R u → R' u) : Zw L M R' w := ⟨h.1, fun x hx hk => hi x (h.2 x hx hk)⟩
/-- The row's block is none of those from L up to M. -/
def Zo (v : Value) (L M : Nat) : Prop := ∀ g, v.ownBlock = some g → g < L ∨ M ≤ g
theorem Zo.next {v v' : Value} {L M N : Nat} (h : Zo v L M) (hM : M ≤ N) (hat : v'.ownBlock = v.ownBlock ∨ v'.ownBlock = some N) : Zo v' L M := fun g hg => by
  rcases hat with e | e
  · exact h g (e ▸ hg)
  · rw [e] at hg; injection hg with hg; omega
theorem zown_on {u w : World} {B q n : Nat} {e : TypeId} {v : Value} {xs : List Value} (h : u.ownsRow B e q v n xs) (hb : ∀ g, v.ownBlock = some g → w.heap[g]? = u.heap[g]?) : w.ownsRow B e q v n xs := by
  obtain ⟨h0, ⟨h1, h2⟩ | ⟨g, cap, cur, rfl, h1, h2, h3⟩⟩ := h
  · exact ⟨h0, .inl ⟨h1, h2⟩⟩
  · exact ⟨h0, .inr ⟨g, cap, cur, rfl, h1, (hb g rfl).trans h2, h3⟩⟩
section
/-- What the classes of a row hold stands, each in blocks of its own, in their order; none of them is the row's. -/
def KH (Q : Nat → Nat → World → Cls × Value × Value → Prop) (B T : Nat) (w : World) (v : Value) (l : List (Cls × Value × Value)) (W : Nat → Nat × Nat) : Prop :=
  ∀ j x, l[j]? = some x → B ≤ (W j).1 ∧ (W j).1 ≤ (W j).2 ∧ (W j).2 ≤ T ∧ Zw (W j).1 (W j).2 (fun u => Q (W j).1 (W j).2 u x) w ∧ Zo v (W j).1 (W j).2 ∧ ∀ i, i < j → (W i).2 ≤ (W j).1
def KQ (Q : Nat → Nat → World → Cls × Value × Value → Prop) (B T : Nat) (w : World) (v : Value) (l : List (Cls × Value × Value)) : Prop :=
  w.ownsRow B 63 3 v l.length (flatK l) ∧ ∃ W : Nat → Nat × Nat, KH Q B T w v l W
variable {Q : Nat → Nat → World → Cls × Value × Value → Prop} {B T : Nat} {v : Value} {l : List (Cls × Value × Value)}
theorem KQ.nil (Q : Nat → Nat → World → Cls × Value × Value → Prop) (B T : Nat) (w : World) : KQ Q B T w (.slice none 0 0) [] := ⟨World.ownsRow_nil _ _ _ _, fun _ => (0, 0), fun j x h => by simp at h⟩
theorem KQ.upto {T' : Nat} {w : World} (h : KQ Q B T w v l) (hT : T ≤ T') : KQ Q B T' w v l := by
  obtain ⟨h1, W, h2⟩ := h
  refine ⟨h1, W, fun j x hx => ?_⟩
  obtain ⟨k1, k2, k3, k4⟩ := h2 j x hx
  exact ⟨k1, k2, Nat.le_trans k3 hT, k4⟩
theorem KQ.move {u w : World} (h : KQ Q B T u v l) (hs : u.heap.size ≤ w.heap.size) (hb : ∀ k, B ≤ k → k < u.heap.size → w.heap[k]? = u.heap[k]?) : KQ Q B T w v l := by
  obtain ⟨h1, W, h2⟩ := h
  refine ⟨zown_on h1 (fun g hg => ?_), W, fun j x hx => ?_⟩
  · have := h1.lt g hg; exact hb g this.1 this.2
  · obtain ⟨k1, k2, k0, k3, k4, k5⟩ := h2 j x hx
    exact ⟨k1, k2, k0, k3.move hs (fun k a b => hb k (by omega) (Nat.lt_of_lt_of_le b k3.1)), k4, k5⟩
theorem KQ.on {u w : World} (h : KQ Q B T u v l) (hb : Below u.heap.size u w) : KQ Q B T w v l := h.move hb.size fun k _ hk => hb.block k hk
theorem KQ.set {u : World} (h : KQ Q B T u v l) {b i : Nat} (hb : b < B) (x : Value) : KQ Q B T (u.setCell ⟨b, i, none⟩ x) v l := by
  have hb' := (Below.refl 0 u).setCell (p := ⟨b, i, none⟩) (Nat.zero_le _) x
  exact h.move hb'.size fun k h1 _ => Below.heap_setCell u ⟨b, i, none⟩ x k (fun e => by have : k = b := e; omega)
theorem KQ.form {w : World} (h : KQ Q B T w v l) : ∃ a c, v = .slice a l.length c := by
  obtain ⟨⟨h0, ⟨h1, h2⟩ | ⟨g, cap, cur, h1, _⟩⟩, _⟩ := h
  · exact ⟨_, _, by rw [h1, h2]⟩
  · exact ⟨_, _, h1⟩
/-- One class more. -/
theorem KQ.snoc {w w' : World} {v' : Value} {x : Cls × Value × Value} {L M : Nat} (h : KQ Q B T w v l) (hB : B ≤ L) (hT : T ≤ L) (hLM : L ≤ M) (hx : Zw L M (fun u => Q L M u x) w) (hv : Zo v L M)
    (hown : w'.ownsRow B 63 3 v' (l.length + 1) (flatK l ++ [.int .i64 x.1.super, x.2.1, x.2.2])) (hg : w.grownBy w' v.ownBlock) (hat : v'.ownBlock = v.ownBlock ∨ v'.ownBlock = some w.heap.size) : KQ Q B M w' v' (l ++ [x]) := by
  obtain ⟨h1, W, h2⟩ := h
  have hmv : ∀ {L M : Nat} {R : World → Prop}, Zw L M R w → Zo v L M → Zw L M R w' := fun {L M R} hz ho => hz.move hg.size fun k a b => hg.block k (Nat.lt_of_lt_of_le b hz.1) (fun e => by have := ho k e.symm; omega)
  refine ⟨by rw [flatK_snoc, List.length_append]; exact hown, fun j => if j < l.length then W j else (L, M), fun j y hy => ?_⟩
  by_cases hj : j < l.length
  · rw [List.getElem?_append_left hj] at hy
    obtain ⟨k1, k2, k0, k3, k4, k5⟩ := h2 j y hy
    simp only [hj, if_true]
    refine ⟨k1, k2, by omega, hmv k3 k4, k4.next k3.1 hat, fun i hi => ?_⟩
    rw [if_pos (by omega)]
    exact k5 i hi
  · have hje : j = l.length := by have := (List.getElem?_eq_some_iff.1 hy).1; simp at this; omega
    subst hje
    have : y = x := by simpa using hy.symm
    subst this
    simp only [Nat.lt_irrefl, if_false]
    refine ⟨hB, hLM, Nat.le_refl _, hmv hx hv, hv.next hx.1 hat, fun i hi => ?_⟩
    rw [if_pos hi]
    obtain ⟨_, _, k0, _⟩ := h2 i _ (List.getElem?_eq_getElem hi)
    omega
/-- The row, as a program that lies. -/
theorem KQ.sk {w : World} (h : KQ Q B T w v l) (hQ : ∀ L M u x, Q L M u x → CV front L u x.2.1 x.2.2 x.1) : SK front B w v (l.map (·.1)) := by
  obtain ⟨hown, W, hd⟩ := h
  obtain ⟨h0, ⟨hv, hn⟩ | ⟨g, cap, cur, hv, hB, hblk, hle, hmx, hsz, htk⟩⟩ := hown
  · refine ⟨none, 0, by rw [hv, List.length_map, hn], fun _ _ => rfl, fun hp => by rw [List.length_map] at hp; omega⟩
  · have hgw : g < w.heap.size := (Array.getElem?_eq_some_iff.1 hblk).1
    refine ⟨some ⟨g, 0, none⟩, cap, by rw [hv, List.length_map], fun _ h => by simp at h, fun hp => ⟨g, 0, rfl, hB, ⟨hgw, fun _ j hj => by simp [World.frozen?, hblk]⟩, fun j m hj => ?_⟩⟩
    obtain ⟨x, hx⟩ : ∃ x, l[j]? = some x := by
      rw [List.getElem?_map] at hj
      cases hq : l[j]? with
      | none => rw [hq] at hj; simp at hj
      | some x => exact ⟨x, rfl⟩
    have hxm : x.1 = m := by rw [List.getElem?_map, hx] at hj; simpa using hj
    obtain ⟨k1, _, _, k2, _⟩ := hd j x hx
    have k2 := hQ _ _ _ _ k2.now
    obtain ⟨a0, a1, a2⟩ := flatK_at l j x hx
    have hcell : ∀ i u, (flatK l)[i]? = some u → w.cell? ⟨g, 0 + i, none⟩ = some u := fun i u hu => by
      have := World.ownsRow.cells (w := w) ⟨h0, .inr ⟨g, cap, cur, hv, hB, hblk, hle, hmx, hsz, htk⟩⟩ (g := g) (by rw [hv]; rfl) i u hu
      rwa [Go.WideShapes.add_plain] at this
    subst hxm
    refine ⟨x.2.1, x.2.2, ?_, ?_, ?_, k2.weak k1⟩
    · have := hcell _ _ a0; rwa [Nat.zero_add] at this ⊢
    · have := hcell _ _ a1; rw [Nat.zero_add] at this ⊢; exact this
    · have := hcell _ _ a2; rw [Nat.zero_add] at this ⊢; exact this
end
section
/-- What the methods of a row hold stands, each in blocks of its own, in their order; none of them is the row's. -/
def MH (Q : Nat → Nat → World → Meth × Value × Value → Prop) (B T : Nat) (w : World) (v : Value) (l : List (Meth × Value × Value)) (W : Nat → Nat × Nat) : Prop :=
  ∀ j x, l[j]? = some x → B ≤ (W j).1 ∧ (W j).1 ≤ (W j).2 ∧ (W j).2 ≤ T ∧ Zw (W j).1 (W j).2 (fun u => Q (W j).1 (W j).2 u x) w ∧ Zo v (W j).1 (W j).2 ∧ ∀ i, i < j → (W i).2 ≤ (W j).1
def MQ (Q : Nat → Nat → World → Meth × Value × Value → Prop) (B T : Nat) (w : World) (v : Value) (l : List (Meth × Value × Value)) : Prop :=
  w.ownsRow B 52 4 v l.length (flatM l) ∧ ∃ W : Nat → Nat × Nat, MH Q B T w v l W
variable {Q : Nat → Nat → World → Meth × Value × Value → Prop} {B T : Nat} {v : Value} {l : List (Meth × Value × Value)}
theorem MQ.nil (Q : Nat → Nat → World → Meth × Value × Value → Prop) (B T : Nat) (w : World) : MQ Q B T w (.slice none 0 0) [] := ⟨World.ownsRow_nil _ _ _ _, fun _ => (0, 0), fun j x h => by simp at h⟩
theorem MQ.upto {T' : Nat} {w : World} (h : MQ Q B T w v l) (hT : T ≤ T') : MQ Q B T' w v l := by
  obtain ⟨h1, W, h2⟩ := h
  refine ⟨h1, W, fun j x hx => ?_⟩
  obtain ⟨k1, k2, k3, k4⟩ := h2 j x hx
  exact ⟨k1, k2, Nat.le_trans k3 hT, k4⟩
theorem MQ.move {u w : World} (h : MQ Q B T u v l) (hs : u.heap.size ≤ w.heap.size) (hb : ∀ k, B ≤ k → k < u.heap.size → w.heap[k]? = u.heap[k]?) : MQ Q B T w v l := by
  obtain ⟨h1, W, h2⟩ := h
  refine ⟨zown_on h1 (fun g hg => ?_), W, fun j x hx => ?_⟩
  · have := h1.lt g hg; exact hb g this.1 this.2
  · obtain ⟨k1, k2, k0, k3, k4, k5⟩ := h2 j x hx
    exact ⟨k1, k2, k0, k3.move hs (fun k a b => hb k (by omega) (Nat.lt_of_lt_of_le b k3.1)), k4, k5⟩
theorem MQ.on {u w : World} (h : MQ Q B T u v l) (hb : Below u.heap.size u w) : MQ Q B T w v l := h.move hb.size fun k _ hk => hb.block k hk
theorem MQ.set {u : World} (h : MQ Q B T u v l) {b i : Nat} (hb : b < B) (x : Value) : MQ Q B T (u.setCell ⟨b, i, none⟩ x) v l := by
  have hb' := (Below.refl 0 u).setCell (p := ⟨b, i, none⟩) (Nat.zero_le _) x
  exact h.move hb'.size fun k h1 _ => Below.heap_setCell u ⟨b, i, none⟩ x k (fun e => by have : k = b := e; omega)
theorem MQ.form {w : World} (h : MQ Q B T w v l) : ∃ a c, v = .slice a l.length c := by
  obtain ⟨⟨h0, ⟨h1, h2⟩ | ⟨g, cap, cur, h1, _⟩⟩, _⟩ := h
  · exact ⟨_, _, by rw [h1, h2]⟩
  · exact ⟨_, _, h1⟩
/-- One method more. -/
theorem MQ.snoc {w w' : World} {v' : Value} {x : Meth × Value × Value} {L M : Nat} (h : MQ Q B T w v l) (hB : B ≤ L) (hT : T ≤ L) (hLM : L ≤ M) (hx : Zw L M (fun u => Q L M u x) w) (hv : Zo v L M)
    (hown : w'.ownsRow B 52 4 v' (l.length + 1) (flatM l ++ [.int .i64 x.1.name, x.2.1, .int .i64 x.1.gives, x.2.2])) (hg : w.grownBy w' v.ownBlock) (hat : v'.ownBlock = v.ownBlock ∨ v'.ownBlock = some w.heap.size) : MQ Q B M w' v' (l ++ [x]) := by
  obtain ⟨h1, W, h2⟩ := h
  have hmv : ∀ {L M : Nat} {R : World → Prop}, Zw L M R w → Zo v L M → Zw L M R w' := fun {L M R} hz ho => hz.move hg.size fun k a b => hg.block k (Nat.lt_of_lt_of_le b hz.1) (fun e => by have := ho k e.symm; omega)
  refine ⟨by rw [flatM_snoc, List.length_append]; exact hown, fun j => if j < l.length then W j else (L, M), fun j y hy => ?_⟩
  by_cases hj : j < l.length
  · rw [List.getElem?_append_left hj] at hy
    obtain ⟨k1, k2, k0, k3, k4, k5⟩ := h2 j y hy
    simp only [hj, if_true]
    refine ⟨k1, k2, by omega, hmv k3 k4, k4.next k3.1 hat, fun i hi => ?_⟩
    rw [if_pos (by omega)]
    exact k5 i hi
  · have hje : j = l.length := by have := (List.getElem?_eq_some_iff.1 hy).1; simp at this; omega
    subst hje
    have : y = x := by simpa using hy.symm
    subst this
    simp only [Nat.lt_irrefl, if_false]
    refine ⟨hB, hLM, Nat.le_refl _, hmv hx hv, hv.next hx.1 hat, fun i hi => ?_⟩
    rw [if_pos hi]
    obtain ⟨_, _, k0, _⟩ := h2 i _ (List.getElem?_eq_getElem hi)
    omega
/-- The row, as a row of methods that lies. -/
theorem MQ.sm {w : World} (h : MQ Q B T w v l) (hQ : ∀ L M u x, Q L M u x → MV front L u x.2.1 x.2.2 x.1) : SM front B w v (l.map (·.1)) := by
  obtain ⟨hown, W, hd⟩ := h
  obtain ⟨h0, ⟨hv, hn⟩ | ⟨g, cap, cur, hv, hB, hblk, hle, hmx, hsz, htk⟩⟩ := hown
  · refine ⟨none, 0, by rw [hv, List.length_map, hn], fun _ _ => rfl, fun hp => by rw [List.length_map] at hp; omega⟩
  · have hgw : g < w.heap.size := (Array.getElem?_eq_some_iff.1 hblk).1
    refine ⟨some ⟨g, 0, none⟩, cap, by rw [hv, List.length_map], fun _ h => by simp at h, fun hp => ⟨g, 0, rfl, hB, ⟨hgw, fun _ j hj => by simp [World.frozen?, hblk]⟩, fun j m hj => ?_⟩⟩
    obtain ⟨x, hx⟩ : ∃ x, l[j]? = some x := by
      rw [List.getElem?_map] at hj
      cases hq : l[j]? with
      | none => rw [hq] at hj; simp at hj
      | some x => exact ⟨x, rfl⟩
    have hxm : x.1 = m := by rw [List.getElem?_map, hx] at hj; simpa using hj
    obtain ⟨k1, _, _, k2, _⟩ := hd j x hx
    have k2 := hQ _ _ _ _ k2.now
    obtain ⟨a0, a1, a2, a3⟩ := flatM_at l j x hx
    have hcell : ∀ i u, (flatM l)[i]? = some u → w.cell? ⟨g, 0 + i, none⟩ = some u := fun i u hu => by
      have := World.ownsRow.cells (w := w) ⟨h0, .inr ⟨g, cap, cur, hv, hB, hblk, hle, hmx, hsz, htk⟩⟩ (g := g) (by rw [hv]; rfl) i u hu
      rwa [Go.WideShapes.add_plain] at this
    subst hxm
    refine ⟨x.2.1, x.2.2, ?_, ?_, ?_, ?_, k2.weak k1⟩
    · have := hcell _ _ a0; rwa [Nat.zero_add] at this ⊢
    · have := hcell _ _ a1; rw [Nat.zero_add] at this ⊢; exact this
    · have := hcell _ _ a2; rw [Nat.zero_add] at this ⊢; exact this
    · have := hcell _ _ a3; rw [Nat.zero_add] at this ⊢; exact this
end
/-- A slice of numbers is laid behind a row of the call's own, in a region that draws its order. -/
theorem stepAppInts (w : World) {ops : Array Oper} {o : Oper} {a : Act} {K : Act → World → Prop} {Q : Exit → Act → World → Prop} {E : Prop} (hgd : o.guard = none) (s x : Operand)
    (ho : o.op = .call { callee := .builtin .append, args := #[s, x], argTypes := #[34, 34] })
    (base : Nat) (v : Value) (n : Nat) (xs : List Value) (hs : a.eval s = v) (hown : w.ownsRow base 2 1 v n xs)
    (b : Option Addr) (l : List Int) (cap B : Nat) (hx : a.eval x = .slice b l.length cap) (hsi : SI true B w (.slice b l.length cap) l)
    (hl : n + l.length ≤ 4000000) (hbase : base ≤ w.heap.size)
    (h : ∀ v' w', w'.ownsRow base 2 1 v' (n + l.length) (xs ++ nums l) → w.grownBy w' v.ownBlock → (v' = .slice none 0 0 ↔ v = .slice none 0 0 ∧ l.length = 0) → (v'.ownBlock = v.ownBlock ∨ v'.ownBlock = some w.heap.size) → K (a.put o.dst v') w') :
    if Region.wanted o (yielded ops a.tmps) = true then Oper.wp Try.prog o a w K Q else E := by
  obtain ⟨k0, hif, hz0, hz1, hz2⟩ := info_parts infoN
  have hw : Region.wanted o (yielded ops a.tmps) = true := by simp [Region.wanted, hgd]
  rw [if_pos hw]
  cases b with
  | none =>
    obtain ⟨he, _, hc⟩ := Arr.nil hsi
    subst he
    subst hc
    have hrun := run_append_owned_none (P := Try.prog) (w := w) base 34 o.type 2 k0 1 Try.underlying34 hif v n xs hown
    unfold Oper.wp
    simp [execOp, ho, resolve, invoke, builtin, hs, hx, hrun, Result.andThen]
    refine h v w (by simpa [nums] using hown) ⟨rfl, rfl, rfl, Nat.le_refl _, fun _ _ _ => rfl⟩ (by simp) (.inl rfl)
  | some ad =>
    obtain ⟨v', w', hr, h2, h3, h4, h5⟩ := run_append_own_at (P := Try.prog) w base 34 o.type 2 k0 (.int .i64 0) 1 8 Try.underlying34 hif hz0 hz1 hz2 rfl (by decide) v n xs hown ad l.length cap (nums l) (by simp [nums]) (SI.nums hsi) (nums_one _) (by unfold maxLen; omega) (by omega) hbase
    unfold Oper.wp
    simp [execOp, ho, resolve, invoke, builtin, hs, hx, hr, Result.andThen]
    exact h v' w' h2 h3 h4 h5
/-- A row is laid behind a row of the call's own, in a region that draws its order. -/
theorem stepAppZ {P : Program} (w : World) {ops : Array Oper} {o : Oper} {a : Act} {K : Act → World → Prop} {Q : Exit → Act → World → Prop} {E : Prop} (hgd : o.guard = none) (s x : Operand) (t : TypeId)
    (ho : o.op = .call { callee := .builtin .append, args := #[s, x], argTypes := #[t, t] })
    (base : Nat) (e : TypeId) (i : TypeInfo) (z : Value) (size bytes : Nat) (ht : P.underlying t = some (.slice e)) (hi : P.info? e = some i) (hz : i.zero = some z)
    (hsize : i.size = size) (hby : i.bytes = bytes) (hzs : z.cells.size = size) (hsz : 0 < size)
    (v : Value) (n : Nat) (xs : List Value) (hs : a.eval s = v) (hown : w.ownsRow base e size v n xs)
    (ad : Addr) (m c : Nat) (news : List Value) (hx : a.eval x = .slice (some ad) m c) (hl : news.length = m * size) (hnews : ∀ j u, news[j]? = some u → w.cell? (ad.add j) = some u) (h1 : ∀ u ∈ news, u.oneCell' = true)
    (h63 : n + m ≤ maxLen) (hbytes : (n + m) * bytes ≤ 140737488355328) (hbase : base ≤ w.heap.size)
    (h : ∀ v' w', w'.ownsRow base e size v' (n + m) (xs ++ news) → w.grownBy w' v.ownBlock → (v' = .slice none 0 0 ↔ v = .slice none 0 0 ∧ m = 0) → (v'.ownBlock = v.ownBlock ∨ v'.ownBlock = some w.heap.size) → K (a.put o.dst v') w') :
    if Region.wanted o (yielded ops a.tmps) = true then Oper.wp P o a w K Q else E := by
  have hw : Region.wanted o (yielded ops a.tmps) = true := by simp [Region.wanted, hgd]
  rw [if_pos hw]
  obtain ⟨v', w', hr, h2, h3, h4, h5⟩ := run_append_own_at (P := P) w base t o.type e i z size bytes ht hi hz hsize hby hzs hsz v n xs hown ad m c news hl hnews h1 h63 hbytes hbase
  unfold Oper.wp
  simp [execOp, ho, resolve, invoke, builtin, hs, hx, hr, Result.andThen]
  exact h v' w' h2 h3 h4 h5
end Pg
end Go.Proofs.Ytdomclicgajihaa

/- What a copy of a program and the leaving out of methods go through. -/
namespace Go.Proofs.Ytdomclicgajihaa
namespace Pg
open Go.ChangeShapes Go.WideShapes Go.ChangeAt Go.RowKit St

/-- A class's rows lie as they should; a method's. -/
def QC (L _M : Nat) (u : World) (x : Cls × Value × Value) : Prop := CV front L u x.2.1 x.2.2 x.1
def QM (L _M : Nat) (u : World) (x : Meth × Value × Value) : Prop := MV front L u x.2.1 x.2.2 x.1
theorem CV.zw {L : Nat} {w : World} {vf vm : Value} {c : Cls} (h : CV front L w vf vm c) : Zw L w.heap.size (fun u => QC L w.heap.size u (c, vf, vm)) w :=
  ⟨Nat.le_refl _, fun _ hs hk => CV.on h ⟨hs, fun k a b => hk k a b⟩⟩
theorem MV.zw {L : Nat} {w : World} {va vc : Value} {m : Meth} (h : MV front L w va vc m) : Zw L w.heap.size (fun u => QM L w.heap.size u (m, va, vc)) w :=
  ⟨Nat.le_refl _, fun _ hs hk => MV.on h ⟨hs, fun k a b => hk k a b⟩⟩
/-- The three boxes of the copy: what came in, the result's, what is made. -/
structure LC (w : World) (s : Nat) (par v : Value) (X : World) : Prop where
  lo : Below s w X
  c0 : Cells X s [par]
  c1 : Cells X (s + 1) [.slice none 0 0]
  c2 : Cells X (s + 1 + 1) [v]
  sz : s + 1 + 1 < X.heap.size
theorem zcells {u w : World} {k : Nat} {vs : List Value} (h : Cells u k vs) (hb : w.heap[k]? = u.heap[k]?) : Cells w k vs := fun i x hx => by
  obtain ⟨h1, h2⟩ := h i x hx
  exact ⟨(World.cell?_of_block (w := u) hb).trans h1, (World.frozen?_of_block (w := u) hb).trans h2⟩
theorem LC.low {w X Y : World} {s S : Nat} {par v : Value} (h : LC w s par v X) (hb : Below S X Y) (hS : s + 1 + 1 < S) : LC w s par v Y :=
  ⟨h.lo.trans (hb.mono (by omega)), zcells h.c0 (hb.block _ (by omega)), zcells h.c1 (hb.block _ (by omega)), zcells h.c2 (hb.block _ hS), Nat.lt_of_lt_of_le h.sz hb.size⟩
theorem LC.on {w X Y : World} {s : Nat} {par v : Value} (h : LC w s par v X) (hb : Below X.heap.size X Y) : LC w s par v Y := h.low hb h.sz
theorem LC.box {w X : World} {s : Nat} {par v : Value} (h : LC w s par v X) (v' : Value) : LC w s par v' (X.setCell ⟨s + 1 + 1, 0, none⟩ v') :=
  ⟨h.lo.setCell (p := ⟨s + 1 + 1, 0, none⟩) (by show s ≤ s + 1 + 1; omega) _, h.c0.far _ _ (by show s + 1 + 1 ≠ s; omega), h.c1.far _ _ (by show s + 1 + 1 ≠ s + 1; omega), h.c2.s0 _, by have := h.sz; simpa using this⟩
/-- A row of numbers ahead of block S' that stands whatever the box turns to. -/
def Fz (S S' kb : Nat) (u : World) (v : Value) (l : List Int) : Prop := Grow S u v l ∧ v.ownBlock ≠ some kb ∧ ∀ g, v.ownBlock = some g → g < S'
theorem Fz.on {S S' kb : Nat} {u w : World} {v : Value} {l : List Int} (h : Fz S S' kb u v l) (hs : ∀ k, S ≤ k → k < S' → k ≠ kb → w.heap[k]? = u.heap[k]?) : Fz S S' kb w v l :=
  ⟨⟨zown_on h.1.1 (fun g hg => by have := h.1.1.lt g hg; exact hs g this.1 (h.2.2 g hg) (fun e => h.2.1 (by rw [hg, e]))), h.1.2⟩, h.2⟩
theorem zset_block (u : World) {b i k : Nat} (hk : k ≠ b) (x : Value) : (u.setCell ⟨b, i, none⟩ x).heap[k]? = u.heap[k]? := Below.heap_setCell u ⟨b, i, none⟩ x k (fun e => hk e)

theorem cell_three (w : World) (a b c : Value) (t : TypeId) : ∀ (j : Nat) (u : Value), [a, b, c][j]? = some u → (w.alloc (.cells #[a, b, c] t)).cell? ((⟨w.heap.size, 0, none⟩ : Addr).add j) = some u := by
  intro j u hu
  rw [Go.WideShapes.add_plain, Nat.zero_add]
  have := (Cells.new w _ rfl [a, b, c] t) j u hu
  exact this.1
theorem copy_step {W0 wr u2 w3 : World} {S T2 kb : Nat} {a0 vf vm va vc v3 : Value} {fl : List Int} {lm : List (Meth × Value × Value)} {m : Meth} {ob : Obj}
    (hK : Cells wr kb [a0, vf, vm]) (hF : Fz W0.heap.size S kb wr vf fl) (hQ : MQ QM S T2 wr vm lm) (hT2 : T2 ≤ wr.heap.size) (hS : S ≤ wr.heap.size) (hkb : W0.heap.size ≤ kb) (hkl : kb < S) (hb : Below W0.heap.size W0 wr)
    (hb2 : Below wr.heap.size wr u2) (hmv : MV front wr.heap.size u2 va vc m)
    (hown : w3.ownsRow S 52 4 v3 (lm.length + 1) (flatM lm ++ [.int .i64 m.name, va, .int .i64 m.gives, vc])) (hg : (u2.alloc ob).grownBy w3 vm.ownBlock) (hat : v3.ownBlock = vm.ownBlock ∨ v3.ownBlock = some (u2.alloc ob).heap.size) :
    Cells w3 kb [a0, vf, vm] ∧ Cells (w3.setCell ⟨kb, 2, none⟩ v3) kb [a0, vf, v3] ∧ Fz W0.heap.size S kb (w3.setCell ⟨kb, 2, none⟩ v3) vf fl ∧ MQ QM S u2.heap.size (w3.setCell ⟨kb, 2, none⟩ v3) v3 (lm ++ [(m, va, vc)]) ∧ u2.heap.size ≤ (w3.setCell ⟨kb, 2, none⟩ v3).heap.size ∧ S ≤ (w3.setCell ⟨kb, 2, none⟩ v3).heap.size ∧ Below W0.heap.size W0 (w3.setCell ⟨kb, 2, none⟩ v3) ∧ ∃ a d, v3 = .slice a (lm.length + 1) d := by
  have hvo : ∀ g, vm.ownBlock = some g → S ≤ g ∧ g < wr.heap.size := fun g hg' => hQ.1.lt g hg'
  have hz2 := hb2.size
  have hba : Below u2.heap.size u2 (u2.alloc ob) := (Below.refl _ _).alloc (Nat.le_refl _) _
  have hbA : Below wr.heap.size wr (u2.alloc ob) := hb2.trans (hba.mono hz2)
  have hza : u2.heap.size ≤ (u2.alloc ob).heap.size := hba.size
  have hz3 := hg.size
  have hsame : ∀ k, k < S → w3.heap[k]? = wr.heap[k]? := fun k hk => (hg.block k (by omega) (fun e => by have := hvo k e.symm; omega)).trans (hbA.block k (by omega))
  have hK3 : Cells w3 kb [a0, vf, vm] := zcells hK (hsame kb hkl)
  have hQA : MQ QM S T2 (u2.alloc ob) vm lm := hQ.on hbA
  have hQ3 : MQ QM S u2.heap.size w3 v3 (lm ++ [(m, va, vc)]) := hQA.snoc (x := (m, va, vc)) (L := wr.heap.size) (M := u2.heap.size) hS hT2 hz2 ((MV.zw hmv).on hba) (fun g hg' => .inl (hvo g hg').2) hown hg hat
  have hzs : (w3.setCell ⟨kb, 2, none⟩ v3).heap.size = w3.heap.size := by simp
  refine ⟨hK3, hK3.s2 v3, hF.on (fun k h1 h2 h3 => (zset_block w3 h3 v3).trans (hsame k h2)), hQ3.set hkl v3, by omega, by omega, ?_, ?_⟩
  · exact ((hb.trans (hbA.mono (by have := hb.size; omega))).grown hg (by have := hb.size; omega) (fun g hg' => by have := hvo g hg'; omega)).setCell (p := ⟨kb, 2, none⟩) hkb _
  · have h := hQ3.form
    simpa using h

end Pg
end Go.Proofs.Ytdomclicgajihaa

/- Contracts of the two sides' small functions on the layout: which step is a jump, and its bytes. -/
namespace Go.Proofs.Ytdomclicgajihaa
namespace St
open Go.ChangeShapes Go.WideShapes Go.ChangeAt Go.RowKit

theorem jump_cases (op : Int) : (op = 11 ∧ Lay.jumpB op = true) ∨ (op = 12 ∧ Lay.jumpB op = true) ∨ (¬ op = 11 ∧ ¬ op = 12 ∧ Lay.jumpB op = false) := by
  unfold Lay.jumpB
  by_cases h1 : op = 11
  · simp [h1]
  · by_cases h2 : op = 12
    · simp [h2]
    · simp [h1, h2]
theorem boxC {w w1 : World} {x y z : Value} {t : TypeId} (hb : Below (w.alloc (.cells #[x, y, z] t)).heap.size (w.alloc (.cells #[x, y, z] t)) w1) :
    w1.cell? ⟨w.heap.size, 0, none⟩ = some x ∧ w1.cell? ⟨w.heap.size, 1, none⟩ = some y ∧ w1.cell? ⟨w.heap.size, 2, none⟩ = some z :=
  ⟨(hb.cell (by simp)).trans (by simp), (hb.cell (by simp)).trans (by simp), (hb.cell (by simp)).trans (by simp)⟩
theorem allocC (w : World) (x y z : Value) (t : TypeId) : (w.alloc (.cells #[x, y, z] t)).cell? ⟨w.heap.size, 0, none⟩ = some x ∧ (w.alloc (.cells #[x, y, z] t)).cell? ⟨w.heap.size, 1, none⟩ = some y ∧ (w.alloc (.cells #[x, y, z] t)).cell? ⟨w.heap.size, 2, none⟩ = some z := ⟨by simp, by simp, by simp⟩
theorem retI {a b : Int} (h : a = b) : Ending.returned (.int .i64 a) = .returned (.int .i64 b) := by rw [h]

set_option maxHeartbeats 800000 in
theorem isJump (op a b : Int) (w : World) :
    Calls Try.prog 89 #[.agg #[.int .i64 op, .int .i64 a, .int .i64 b]] w fun e w' => e = .returned (.bool (Lay.jumpB op)) ∧ Below w.heap.size w w' := by
  by_cases h : op = 11
  · subst h
    go_enter Try.func89, Try.ntmps89
    go_wp2
    go_ret
    exact ⟨rfl, by go_grown⟩
  · go_enter Try.func89, Try.ntmps89
    go_wp2
    go_ret
    exact ⟨rfl, by go_grown⟩
theorem l3Jump (op : Int) (w : World) :
    Calls Try.prog 76 #[.int .i64 op] w fun e w' => e = .returned (.bool (Lay.jumpB op)) ∧ w = w' := by
  by_cases h : op = 11
  · subst h
    go_enter Try.func76, Try.ntmps76
    go_wp2
    go_ret
    exact ⟨rfl, rfl⟩
  · go_enter Try.func76, Try.ntmps76
    go_wp2
    go_ret
    exact ⟨rfl, rfl⟩
end St
end Go.Proofs.Ytdomclicgajihaa
