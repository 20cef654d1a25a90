/- The contract of the other side's cutting of a text at a byte. -/
import Derived.Test.YtbgbddahniacbaaGreatDoorJCode0
import Derived.Test.YtbgbddahniacbaaGreatDoorJLaw0
import Derived.Test.YtbgbddahniacbaaGreatDoorJBox0
namespace Go.Proofs.YtbgbddahniacbaaGreatDoor
namespace St
open Go.ChangeShapes Go.WideShapes Go.ChangeAt Go.RowKit

/-- The pieces that are done, and the piece that is begun. -/
def spF (c : UInt8) (l : List UInt8) : List (List UInt8) × List UInt8 :=
  l.foldl (fun p x => if x = c then (p.1 ++ [p.2], []) else (p.1, p.2 ++ [x])) ([], [])
theorem spF_snoc (c x : UInt8) (l : List UInt8) : spF c (l ++ [x]) = if x = c then ((spF c l).1 ++ [(spF c l).2], []) else ((spF c l).1, (spF c l).2 ++ [x]) := by simp [spF]
theorem spF_split (c : UInt8) (l : List UInt8) : (spF c l).1 ++ [(spF c l).2] = Tx.splitC c l := by
  suffices h : ∀ (l : List UInt8) (o : List (List UInt8)) (u : List UInt8), c ∉ u → (l.foldl (fun p x => if x = c then (p.1 ++ [p.2], []) else (p.1, p.2 ++ [x])) (o, u)).1 ++ [(l.foldl (fun p x => if x = c then (p.1 ++ [p.2], []) else (p.1, p.2 ++ [x])) (o, u)).2] = o ++ Tx.splitC c (u ++ l) by
    simpa [spF] using h l [] [] (by simp)
  intro l
  induction l with
  | nil => intro o u hu; simp [Tx.splitC_none hu]
  | cons x l ih =>
    intro o u hu
    simp only [List.foldl_cons]
    by_cases hx : x = c
    · subst hx
      rw [if_pos rfl, ih _ _ (by simp), Tx.splitC_app hu]; simp
    · rw [if_neg hx, ih _ _ (by simp only [List.mem_append, List.mem_singleton, not_or]; exact ⟨hu, fun e => hx e.symm⟩)]; simp
theorem spF_len (c : UInt8) (l : List UInt8) : (spF c l).1.length ≤ l.length ∧ (spF c l).2.length ≤ l.length := by
  suffices h : ∀ (l : List UInt8) (o : List (List UInt8)) (u : List UInt8), (l.foldl (fun p x => if x = c then (p.1 ++ [p.2], []) else (p.1, p.2 ++ [x])) (o, u)).1.length ≤ o.length + l.length ∧ (l.foldl (fun p x => if x = c then (p.1 ++ [p.2], []) else (p.1, p.2 ++ [x])) (o, u)).2.length ≤ u.length + l.length by
    simpa [spF] using h l [] []
  intro l
  induction l with
  | nil => intro o u; simp
  | cons x l ih =>
    intro o u
    simp only [List.foldl_cons, List.length_cons]
    by_cases hx : x = c
    · rw [if_pos hx]; have := ih (o ++ [u]) []; simp only [List.length_append, List.length_singleton, List.length_nil] at this; omega
    · rw [if_neg hx]; have := ih o (u ++ [x]); simp only [List.length_append, List.length_singleton] at this; omega
/-- The piece that is begun is the text's end. -/
theorem spF_end (c : UInt8) (l : List UInt8) : (spF c l).2 = l.drop (l.length - (spF c l).2.length) := by
  suffices h : ∃ q, l = q ++ (spF c l).2 by
    obtain ⟨q, hq⟩ := h
    have hl : l.length = q.length + (spF c l).2.length := by
      have := congrArg List.length hq; rw [List.length_append] at this; exact this
    have e : l.length - (spF c l).2.length = q.length := by omega
    rw [e]
    generalize (spF c l).2 = u at hq
    subst hq; simp
  suffices h : ∀ (l : List UInt8) (o : List (List UInt8)) (u : List UInt8), ∃ q, u ++ l = q ++ (l.foldl (fun p x => if x = c then (p.1 ++ [p.2], []) else (p.1, p.2 ++ [x])) (o, u)).2 by
    simpa [spF] using h l [] []
  intro l
  induction l with
  | nil => intro o u; exact ⟨[], by simp⟩
  | cons x l ih =>
    intro o u
    simp only [List.foldl_cons]
    by_cases hx : x = c
    · rw [if_pos hx]
      obtain ⟨q, hq⟩ := ih (o ++ [u]) []
      exact ⟨u ++ x :: q, by simp only [List.nil_append] at hq; rw [List.append_assoc, List.cons_append, ← hq]⟩
    · rw [if_neg hx]
      obtain ⟨q, hq⟩ := ih o (u ++ [x])
      exact ⟨q, by rw [← hq]; simp⟩

def strs (p : List (List UInt8)) : List Value := p.map fun x => .string ⟨x.toArray⟩
end St
end Go.Proofs.YtbgbddahniacbaaGreatDoor

/- The contract of the other side's cutting of a text at a byte: the walk. -/
namespace Go.Proofs.YtbgbddahniacbaaGreatDoor
namespace St
open Go.ChangeShapes Go.WideShapes Go.ChangeAt Go.RowKit

theorem infoS : (Tryz.prog.info? 9).map (fun i => (i.zero, i.size, i.bytes)) = some (some (.string ByteArray.empty), 1, 16) := by kernel_rfl

/-- Where the loop stands at place k. -/
def SpSt (s : ByteArray) (c : UInt8) (B k m : Nat) (v : Value) (wr : World) : Prop :=
  (k ≤ s.size ∧ m = k - (spF c (s.data.toList.take k)).2.length ∧ wr.ownsRow B 9 1 v (spF c (s.data.toList.take k)).1.length (strs (spF c (s.data.toList.take k)).1)) ∨
  (k = s.size + 1 ∧ wr.ownsRow B 9 1 v (Tx.splitC c s.data.toList).length (strs (Tx.splitC c s.data.toList)))

theorem take_snoc (s : ByteArray) (k : Nat) (h : k < s.size) : s.data.toList.take (k + 1) = s.data.toList.take k ++ [s[k]] := by
  rw [List.take_succ_eq_append_getElem (by simpa using h)]; rfl

/-- The piece that is cut out. -/
theorem piece_eq (s : ByteArray) (c : UInt8) (k : Nat) (hk : k ≤ s.size) : s.extract (k - (spF c (s.data.toList.take k)).2.length) k = ⟨(spF c (s.data.toList.take k)).2.toArray⟩ := by
  apply str_eq
  rw [Lib.extract_data]
  have hl : (s.data.toList.take k).length = k := by rw [List.length_take]; have : s.data.toList.length = s.size := by simp
                                                    omega
  have h := spF_end c (s.data.toList.take k)
  rw [hl] at h
  show _ = (spF c (s.data.toList.take k)).2
  conv => rhs; rw [h]
  rw [List.drop_take]

theorem owned {w : World} {B : Nat} {e : TypeId} {v : Value} {n : Nat} {xs : List Value} (h : w.ownsRow B e 1 v n xs) (hn : 1 ≤ n) :
    ∃ g cap, v = .slice (some ⟨g, 0, none⟩) n cap ∧ B ≤ g ∧ g < w.heap.size ∧ n ≤ cap ∧ ∀ j u, xs[j]? = some u → w.cell? ⟨g, j, none⟩ = some u := by
  have hc := @World.ownsRow.cells w B e 1 v n xs h
  have hl := @World.ownsRow.lt w B e 1 v n xs h
  obtain ⟨_, h | ⟨g, cap, cur, rfl, hB, _, hcap, _⟩⟩ := h
  · omega
  · refine ⟨g, cap, rfl, hB, (hl g rfl).2, hcap, fun j u hu => ?_⟩
    have := hc (g := g) rfl j u hu
    have e : (⟨g, 0, none⟩ : Addr).add j = ⟨g, j, none⟩ := by
      by_cases h0 : j = 0 <;> simp [Addr.add, h0]
    rw [e] at this; exact this

end St
end Go.Proofs.YtbgbddahniacbaaGreatDoor
