/- Facts under the contract of the bending of a text. -/
import Derived.Test.YtnlanikjlokboaaGreatDoorDr0
import Derived.Laws.BytesArg
import Derived.Lib.ConvBytes
import Derived.Deep.RegionLaw
import Derived.Deep.Slices
namespace Go.Proofs.YtnlanikjlokboaaGreatDoor
namespace Cu
open Go.ChangeShapes Go.WideShapes Go.ChangeAt Go.RowKit St

/-- Bytes that may be written, in a block that is not the cursor's and not below L. -/
def Br (c L : Nat) (w : World) (v : Value) (n : Nat) : Prop :=
  ∃ g o cp, v = .slice (some ⟨g, o, none⟩) n cp ∧ n ≤ cp ∧ cp ≤ maxLen ∧ L ≤ g ∧ g < w.heap.size ∧ g ≠ c ∧
    ∀ j, j < n → ∃ z : Int, w.cell? ⟨g, o + j, none⟩ = some (.int .u8 z) ∧ 0 ≤ z ∧ z ≤ 255 ∧ w.frozen? ⟨g, o + j, none⟩ = false
theorem Br.touch {c L : Nat} {u w : World} {v : Value} {n : Nat} (h : Br c L u v n) (ht : Touch c u w) : Br c L w v n := by
  obtain ⟨g, o, cp, hv, h1, h2, h3, h4, h5, h6⟩ := h
  refine ⟨g, o, cp, hv, h1, h2, h3, Nat.lt_of_lt_of_le h4 ht.size, h5, fun j hj => ?_⟩
  obtain ⟨z, hz, z0, z1, zf⟩ := h6 j hj
  exact ⟨z, (ht.cell h4 h5).trans hz, z0, z1, (ht.frozen h4 h5).trans zf⟩
theorem Br.set {c L : Nat} {w : World} {g o cp n k : Nat} (h : Br c L w (.slice (some ⟨g, o, none⟩) n cp) n) (hk : k < n) (x : Int) (hx0 : 0 ≤ x) (hx1 : x ≤ 255) : Br c L (w.setCell ⟨g, o + k, none⟩ (.int .u8 x)) (.slice (some ⟨g, o, none⟩) n cp) n := by
  obtain ⟨g', o', cp', hv, h1, h2, h3, h4, h5, h6⟩ := h
  injection hv with e1 e2 e3
  simp at e1
  obtain ⟨rfl, rfl⟩ := e1
  subst e3
  refine ⟨g, o, cp, rfl, h1, h2, h3, ?_, h5, fun j hj => ?_⟩
  · have := ((Below.refl 0 w).setCell (p := ⟨g, o + k, none⟩) (Nat.zero_le _) (.int .u8 x)).size; omega
  · obtain ⟨z, hz, z0, z1, zf⟩ := h6 j hj
    by_cases e : j = k
    · subst e
      exact ⟨x, World.cell?_setCell_same _ _ _ hz, hx0, hx1, by simpa using zf⟩
    · exact ⟨z, (World.cell?_setCell_other _ _ _ _ (fun h => e (by have := congrArg Addr.off h; simp at this; omega))).trans hz, z0, z1, by simpa using zf⟩
theorem Br.pre {c L : Nat} {w : World} {g o cp n k : Nat} (h : Br c L w (.slice (some ⟨g, o, none⟩) n cp) n) (hk : k ≤ n) : Br c L w (.slice (some ⟨g, o, none⟩) k cp) k := by
  obtain ⟨g', o', cp', hv, h1, h2, h3, h4, h5, h6⟩ := h
  injection hv with e1 e2 e3
  simp at e1
  obtain ⟨rfl, rfl⟩ := e1
  subst e3
  exact ⟨g, o, cp, rfl, by omega, h2, h3, h4, h5, fun j hj => h6 j (by omega)⟩
/-- The bytes as numbers. -/
theorem Br.nums {c L : Nat} {w : World} {g o cp n : Nat} (h : Br c L w (.slice (some ⟨g, o, none⟩) n cp) n) : ∃ xs : List Int, xs.length = n ∧ (∀ i, i < n → w.cell? ⟨g, o + i, none⟩ = some (.int .u8 (xs.getD i 0))) ∧ ∀ x ∈ xs, 0 ≤ x ∧ x ≤ 255 := by
  obtain ⟨g', o', cp', hv, h1, h2, h3, h4, h5, h6⟩ := h
  injection hv with e1 e2 e3
  simp at e1
  obtain ⟨rfl, rfl⟩ := e1
  obtain ⟨f, hf⟩ := Go.Deep.choose_lt (p := fun j (z : Int) => w.cell? ⟨g, o + j, none⟩ = some (.int .u8 z) ∧ 0 ≤ z ∧ z ≤ 255) (fun j hj => by obtain ⟨z, hz, z0, z1, _⟩ := h6 j hj; exact ⟨z, hz, z0, z1⟩)
  exact ⟨(List.range n).map f, by simp, fun i hi => by rw [(hf i hi).1]; simp [hi], fun x hx => by obtain ⟨i, hi, rfl⟩ := List.mem_map.1 hx; exact (hf i (List.mem_range.1 hi)).2⟩

/-- What '[]byte(s)' leaves. -/
theorem br_bytes (c : Nat) (w : World) (hc : c < w.heap.size) (s : ByteArray) (hs : s.size ≤ 1000) : Br c w.heap.size (Lib.bytesWorld w 5 s) (.slice (some ⟨w.heap.size, 0, none⟩) s.size (grownCap w s.size 0 5)) s.size := by
  have hnew := Lib.bytesWorld_at_new w 5 s
  have hsz : s.size ≤ (Lib.bytesCells w 5 s).size := by
    unfold Lib.bytesCells
    rw [Array.size_append, Array.size_map]
    have : s.data.size = s.size := rfl
    omega
  refine ⟨w.heap.size, 0, _, rfl, grownCap_ge _ _ _ _, grownCap_le_maxLen _ _ _ _ (by unfold maxLen; omega), Nat.le_refl _, by rw [Lib.bytesWorld_size]; omega, by omega, fun j hj => ?_⟩
  rw [Nat.zero_add]
  refine ⟨_, Lib.bytesWorld_cell w 5 s j hj, by omega, ?_, ?_⟩
  · have := (s.data.toList.getD j 0).toNat_lt; omega
  · simp only [World.frozen?, hnew]
    simp; omega

theorem step_append_any {P : Program} (w : World) {ops : Array Oper} {o : Oper} {a : Act} {K : Act → World → Prop} {Q : Exit → Act → World → Prop} {E : Prop} (hgd : o.guard = none) (s x : Operand) (t : TypeId)
    (ho : o.op = .call { callee := .builtin .append, args := #[s, x], argTypes := #[t, t] })
    (base : Nat) (e : TypeId) (i : TypeInfo) (z : Value) (size bytes : Nat) (ht : P.underlying t = some (.slice e)) (hi : P.info? e = some i) (hz : i.zero = some z)
    (hsize : i.size = size) (hby : i.bytes = bytes) (hzs : z.cells.size = size) (hsz : 0 < size)
    (v : Value) (n : Nat) (xs : List Value) (hs : a.eval s = v) (hown : w.ownsRow base e size v n xs)
    (ad : Addr) (m c : Nat) (news : List Value) (hx : a.eval x = .slice (some ad) m c) (hl : news.length = m * size) (hnews : ∀ j u, news[j]? = some u → w.cell? (ad.add j) = some u) (h1 : ∀ u ∈ news, u.oneCell' = true)
    (h63 : n + m ≤ maxLen) (hbytes : (n + m) * bytes ≤ 140737488355328) (hbase : base ≤ w.heap.size)
    (h : ∀ v' w', w'.ownsRow base e size v' (n + m) (xs ++ news) → w.grownBy w' v.ownBlock → (v' = .slice none 0 0 ↔ v = .slice none 0 0 ∧ m = 0) → K (a.put o.dst v') w') :
    if Region.wanted o (yielded ops a.tmps) = true then Oper.wp P o a w K Q else E := by
  have hw : Region.wanted o (yielded ops a.tmps) = true := by simp [Region.wanted, hgd]
  rw [if_pos hw]
  exact wp_append_own w s x t ho base e i z size bytes ht hi hz hsize hby hzs hsz v n xs hs hown ad m c news hx hl hnews h1 h63 hbytes hbase h
theorem br_of_own {c L B e n : Nat} {w : World} {v : Value} {xs : List Int} (h : w.ownsRow B e 1 v n (xs.map (Value.int .u8))) (hv : v ≠ .slice none 0 0) (hL : L ≤ B) (hc : c < B) (hx : ∀ x ∈ xs, 0 ≤ x ∧ x ≤ 255) : Br c L w v n := by
  have hcells := @World.ownsRow.cells w B e 1 v n (xs.map (Value.int .u8)) h
  have hlt := @World.ownsRow.lt w B e 1 v n (xs.map (Value.int .u8)) h
  obtain ⟨hl, ⟨h, _⟩ | ⟨g, cap, cur, rfl, hB, hblk, hcap, hmax, _⟩⟩ := h
  · exact absurd h hv
  · refine ⟨g, 0, cap, rfl, hcap, hmax, by omega, (hlt g rfl).2, by omega, fun j hj => ?_⟩
    have hjl : j < xs.length := by simp at hl; omega
    have := hcells (g := g) rfl j (.int .u8 xs[j]) (by simp [hjl])
    simp only [Go.WideShapes.add_plain] at this
    exact ⟨xs[j], this, (hx _ (List.getElem_mem hjl)).1, (hx _ (List.getElem_mem hjl)).2, by simp [World.frozen?, hblk]⟩
/-- Cells to be appended, read where they lie. -/
theorem news_at {u : World} {g o n : Nat} {xs : List Int} (hl : xs.length = n) (h : ∀ i, i < n → u.cell? ⟨g, o + i, none⟩ = some (.int .u8 (xs.getD i 0))) (f t : Nat) :
    ∀ j x, (((xs.drop f).take t).map (Value.int .u8))[j]? = some x → u.cell? ((⟨g, o + f, none⟩ : Addr).add j) = some x := by
  intro j x hx
  rw [List.getElem?_map] at hx
  cases hy : ((xs.drop f).take t)[j]? with
  | none => rw [hy] at hx; simp at hx
  | some y =>
    rw [hy] at hx
    simp at hx
    subst hx
    rw [List.getElem?_take] at hy
    split at hy
    · rw [List.getElem?_drop] at hy
      have hlt : f + j < n := by
        rw [← hl]
        exact (List.getElem?_eq_some_iff.1 hy).1
      rw [Go.WideShapes.add_plain, Nat.add_assoc, h (f + j) hlt]
      simp [hy]
    · simp at hy
theorem infoB : (Tryz.prog.info? 5).map (fun i => (i.zero, i.size, i.bytes)) = some (some (.int .u8 0), 1, 1) := by kernel_rfl
end Cu
end Go.Proofs.YtnlanikjlokboaaGreatDoor
