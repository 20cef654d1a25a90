/- The specification's machine: the place of a field. -/
import Derived.Test.YtffkkhaiedhaiaaJMg1
import Derived.Deep.RegionWith
import Derived.Deep.RegionHeld3
import Derived.Test.YtffkkhaiedhaiaaJPg3
import Derived.Test.YtffkkhaiedhaiaaJNx4
import Derived.Lib.QuietBelow
import Derived.BigQuiet
import Derived.Deep.CutRange
import Derived.Test.YtffkkhaiedhaiaaJHs0
namespace Go.Proofs.Ytffkkhaiedhaiaa
namespace Pg
open Go.ChangeShapes Go.WideShapes Go.ChangeAt Go.RowKit St Wd

/-- The place of a field in an object of n fields; -1: there is none. -/
def placeI (p : Prg) (A B : Int) (n : Nat) : Int := if (fldS p A B).isNone ∨ n ≤ placeS p A B then -1 else (placeS p A B : Int)
set_option maxRecDepth 100000 in
set_option maxHeartbeats 1000000 in
theorem l8Place_at (Bs : Nat) (p : Prg) (b o cap : Nat) (hok : okP p = true) (op A B cls : Int) (hA : 0 ≤ A) (hB : 0 ≤ B) (af : Option Addr) (n cf : Nat) (hn : n ≤ 24) (w : World)
    (hp : SK front Bs w (.slice (some ⟨b, o, none⟩) p.length cap) p) :
    Calls Try.prog 90 #[.agg #[.slice (some ⟨b, o, none⟩) p.length cap], .agg #[.int .i64 op, .int .i64 A, .int .i64 B], .agg #[.int .i64 cls, .slice af n cf]] w fun e w' => e = .returned (.int .i64 (placeI p A B n)) ∧ Below w.heap.size w w' := by
  obtain ⟨W, hW⟩ : ∃ W, W = ((w.alloc (.cells #[.slice (some ⟨b, o, none⟩) p.length cap] 39)).alloc (.cells #[.int .i64 op, .int .i64 A, .int .i64 B] 76)).alloc (.cells #[.int .i64 cls, .slice af n cf] 118) := ⟨_, rfl⟩
  have hwW : Below w.heap.size w W := by rw [hW]; exact (((Below.refl _ _).alloc (Nat.le_refl _) _).alloc (by simp) _).alloc (by simp; omega) _
  have P0 : W.cell? ⟨w.heap.size, 0, none⟩ = some (.slice (some ⟨b, o, none⟩) p.length cap) := by rw [hW]; exact ((((Cells.new w _ rfl _ _).alloc _).alloc _).g0).1
  have V : Cells W (w.heap.size + 1) [.int .i64 op, .int .i64 A, .int .i64 B] := by rw [hW]; exact (Cells.new (w.alloc _) _ (by simp) _ _).alloc _
  have V1 := V.g1.1
  have V2 := V.g2.1
  have O : Cells W (w.heap.size + 1 + 1) [.int .i64 cls, .slice af n cf] := by rw [hW]; exact Cells.new ((w.alloc _).alloc _) _ (by simp) _ _
  have O1 := O.g1.1
  clear V O
  have HP : Hid (SK front Bs W (.slice (some ⟨b, o, none⟩) p.length cap) p) := SK.on hp (Keep.of hwW)
  have hpl := okP_len hok
  have HOK : Hid (okP p = true) := hok
  clear hok
  obtain ⟨Z, hZ⟩ : ∃ Z, Z = placeI p A B n := ⟨_, rfl⟩
  rw [← hZ]
  have HZ : Hid (Z = placeI p A B n) := hZ
  clear hZ
  by_cases hAp : A < (p.length : Int)
  · obtain ⟨u, rfl⟩ := Int.eq_ofNat_of_zero_le hA
    have hu : u < p.length := by omega
    have hc := List.getElem?_eq_getElem hu
    obtain ⟨xb, xo, hx, _, fb, fcap, c0, c1, _⟩ := HP.out.get hu
    injection hx with hx
    injection hx with e1 e2
    subst e1
    subst e2
    rename_i hrest
    obtain ⟨_, hcv⟩ := hrest
    obtain ⟨fa, fc, rfl, _⟩ := hcv.1
    clear hcv
    have hsup := okP_sup HOK.out u _ hu hc
    obtain ⟨sp, hsp⟩ : ∃ sp, sp = p[u].super := ⟨_, rfl⟩
    obtain ⟨F, hF⟩ : ∃ F, F = p[u].fields.length := ⟨_, rfl⟩
    obtain ⟨L, hL⟩ : ∃ L, L = (fieldsR p 6 p[u].super).length := ⟨_, rfl⟩
    have hL24 : L ≤ 24 := by rw [hL]; exact fields_24 HOK.out (by omega)
    have hF4 : F ≤ 4 := by rw [hF]; exact okP_four HOK.out u _ hu hc
    have HZ' : Hid (Z = if (F : Int) ≤ B ∨ n ≤ L + B.toNat then -1 else ((L + B.toNat : Nat) : Int)) := by
      show _ = _
      rw [HZ.out]
      unfold placeI placeS fldS
      rw [Int.toNat_natCast, hc]
      dsimp only
      rw [hL, hF]
      by_cases hh : (p[u].fields[B.toNat]?).isNone = true ∨ n ≤ (fieldsR p 6 p[u].super).length + B.toNat
      · rw [if_pos hh, if_pos]
        rcases hh with hh | hh
        · rw [Option.isNone_iff_eq_none, List.getElem?_eq_none_iff] at hh
          exact .inl (by omega)
        · exact .inr hh
      · rw [if_neg hh, if_neg]
        rintro (h | h)
        · exact hh (.inl (by rw [Option.isNone_iff_eq_none, List.getElem?_eq_none_iff]; omega))
        · exact hh (.inr h)
    have HC : Hid (∀ x, Below W.heap.size W x → Calls Try.prog 104 #[.agg #[.slice (some ⟨b, o, none⟩) p.length cap], .int .i64 sp] x fun e w' => ∃ g c, e = .returned (.slice (some ⟨g, 0, none⟩) L c) ∧ Below W.heap.size W w') := fun x hx => by
      rw [hsp]
      refine (l4Fields Bs p b o cap HOK.out W HP.out 6 _ x (by omega) (by omega) (by omega) hx).mono ?_
      rintro e w1 ⟨v, rfl, hg, hb1⟩
      obtain ⟨g, c, rfl, _⟩ := hg.gint
      exact ⟨g, c, by rw [hL], below_over hx hb1⟩
    rw [← hsp] at c0 hsup
    rw [← hF] at c1
    have hbl : b < W.heap.size := cell_lt c0
    have hWs : w.heap.size + 1 + 1 < W.heap.size := cell_lt O1
    clear hc hL hF hsp HZ HP hp HOK
    have ALL : ∀ x, Below W.heap.size W x → Below W.heap.size W x ∧ x.cell? ⟨w.heap.size, 0, none⟩ = some (.slice (some ⟨b, o, none⟩) p.length cap) ∧ x.cell? ⟨w.heap.size + 1, 1, none⟩ = some (.int .i64 u) ∧ x.cell? ⟨w.heap.size + 1, 2, none⟩ = some (.int .i64 B) ∧ x.cell? ⟨b, o + u * 3, none⟩ = some (.int .i64 sp) ∧ x.cell? ⟨w.heap.size + 1 + 1, 1, none⟩ = some (.slice af n cf) := fun x hx =>
      ⟨hx, (hx.cell (p := ⟨w.heap.size, 0, none⟩) (show w.heap.size < _ by omega)).trans P0, (hx.cell (p := ⟨w.heap.size + 1, 1, none⟩) (show w.heap.size + 1 < _ by omega)).trans V1, (hx.cell (p := ⟨w.heap.size + 1, 2, none⟩) (show w.heap.size + 1 < _ by omega)).trans V2, (hx.cell (p := ⟨b, o + u * 3, none⟩) hbl).trans c0, (hx.cell (p := ⟨w.heap.size + 1 + 1, 1, none⟩) hWs).trans O1⟩
    have HALL : Hid (∀ x, Below W.heap.size W x → Below W.heap.size W x ∧ x.cell? ⟨w.heap.size, 0, none⟩ = some (.slice (some ⟨b, o, none⟩) p.length cap) ∧ x.cell? ⟨w.heap.size + 1, 1, none⟩ = some (.int .i64 u) ∧ x.cell? ⟨w.heap.size + 1, 2, none⟩ = some (.int .i64 B) ∧ x.cell? ⟨b, o + u * 3, none⟩ = some (.int .i64 sp) ∧ x.cell? ⟨w.heap.size + 1 + 1, 1, none⟩ = some (.slice af n cf)) := ALL
    clear ALL
    by_cases hBF : B < (F : Int)
    · obtain ⟨k, rfl⟩ := Int.eq_ofNat_of_zero_le hB
      have hkF : k < F := by omega
      have HZ2 : Hid (Z = if n ≤ L + k then -1 else ((L + k : Nat) : Int)) := by
        show _ = _
        rw [HZ'.out, Int.toNat_natCast]
        by_cases hh : n ≤ L + k
        · rw [if_pos hh, if_pos (.inr hh)]
        · rw [if_neg hh, if_neg (by omega)]
      clear HZ'
      go_enter Try.func90, Try.ntmps90
      go_wp2_with fail
      rw [← hW]
      clear hW
      go_quiet (fail)
      go_wp2_with fail
      go_region_held3 (fun x => Below W.heap.size W x ∧ x.cell? ⟨w.heap.size, 0, none⟩ = some (.slice (some ⟨b, o, none⟩) p.length cap) ∧ x.cell? ⟨w.heap.size + 1, 1, none⟩ = some (.int .i64 u) ∧ x.cell? ⟨w.heap.size + 1, 2, none⟩ = some (.int .i64 k) ∧ x.cell? ⟨b, o + u * 3, none⟩ = some (.int .i64 sp) ∧ x.cell? ⟨w.heap.size + 1 + 1, 1, none⟩ = some (.slice af n cf))
        (first | exact HALL.out _ ((drew_on (Below.refl _ _) _).drew) | assumption)
        (first | (go_at_call 104; refine (HC.out _ ?hx).mono ?_; (case hx => (first | assumption | exact And.left (by assumption))); rintro e wA ⟨g4, c4, rfl, hbA⟩; have KA := HALL.out wA hbA))
      have o1 := KA.2.2.2.2.2
      clear KA HALL HC V1 V2 P0 c0 c1
      have hbW : Below w.heap.size w wA := below_over hwW hbA
      by_cases hz : n ≤ L + k
      · have hZ : Hid (Z = -1) := by show _ = _; rw [HZ2.out, if_pos hz]
        clear HZ2
        go_wp2
        go_ret
        exact ⟨by rw [hZ.out]; rfl, hbW⟩
      · have hZ : Hid (Z = (L : Int) + (k : Int)) := by show _ = _; rw [HZ2.out, if_neg hz]; push_cast; rfl
        clear HZ2
        go_wp2
        go_ret
        exact ⟨by rw [hZ.out]; exact ret_int (by first | go_num | (simp [IntKind.wrap, IntKind.bits, IntKind.signed]; omega) | (show wrap64 _ = _; unfold wrap64; omega)), hbW⟩
    · have hz : Z = -1 := by
        rw [HZ'.out, if_pos (.inl (by omega))]
      rw [hz]
      clear HZ' hz HC HALL
      go_enter Try.func90, Try.ntmps90
      go_wp2_with fail
      rw [← hW]
      clear hW
      go_quiet (fail)
      go_wp2
      go_ret
      exact ⟨rfl, drew_on hwW _⟩
  · have hz : Z = -1 := by
      rw [HZ.out]
      unfold placeI fldS
      rw [List.getElem?_eq_none (show p.length ≤ A.toNat by omega)]
      simp
    rw [hz]
    clear HZ hz
    go_enter Try.func90, Try.ntmps90
    go_wp2_with fail
    rw [← hW]
    clear hW
    go_quiet (fail)
    go_wp2
    go_ret
    exact ⟨rfl, drew_on hwW _⟩
end Pg
end Go.Proofs.Ytffkkhaiedhaiaa

/- A piece of code below a path; the tail of the machine's step: what is put onto the stack, and the place. -/
namespace Go.Proofs.Ytffkkhaiedhaiaa
namespace Pg
open Go.ChangeShapes Go.WideShapes Go.ChangeAt Go.RowKit St Wd

/-- The code below a path: true is the second part. -/
def sub : Code → List Bool → Code
  | .seq _ y, true :: l => sub y l
  | .seq x _, false :: l => sub x l
  | .block _ x, false :: l => sub x l
  | .cond _ _ y, true :: l => sub y l
  | .cond _ x _, false :: l => sub x l
  | c, _ => c
theorem SV.take {B : Nat} {w : World} {a : Option Addr} {n c : Nat} {l : List Vl} (h : SV true B w (.slice a n c) l) {k : Nat} (hk : k ≤ l.length) : SV true B w (.slice a (l.take k).length c) (l.take k) := by
  obtain ⟨a', c', hv, hz, h⟩ := h
  injection hv with e1 e2 e3
  subst e1 e3
  refine ⟨a, c, rfl, hz, fun h0 => ?_⟩
  rw [List.length_take] at h0
  obtain ⟨b, o, ha, hB, ⟨hl, hf⟩, hx⟩ := h (by omega)
  refine ⟨b, o, ha, hB, ⟨hl, fun e j hj => hf e j (by rw [List.length_take] at hj; have : min k l.length ≤ l.length := Nat.min_le_right _ _; exact Nat.lt_of_lt_of_le hj (Nat.mul_le_mul_right _ this))⟩, fun j x hj => hx j x ?_⟩
  rw [List.getElem?_take] at hj
  split at hj
  · exact hj
  · simp at hj
theorem Cells.onlyM {b k : Nat} {u v : World} {vs : List Value} (h : Cells u k vs) (ho : Only b u v) (hne : k ≠ b) : Cells v k vs := fun i x hx => by
  obtain ⟨h1, h2⟩ := h i x hx
  exact ⟨(World.cell?_of_block (w := u) (ho.block k hne)).trans h1, (World.frozen?_of_block (w := u) (ho.block k hne)).trans h2⟩
theorem withTop_set {m : Mc} {q : Nat} (h : m.frames.length = q + 1) (x : Fr) : m.frames.dropLast ++ [x] = m.frames.set q x := by
  apply List.ext_getElem?
  intro j
  rw [List.getElem?_set, List.dropLast_eq_take, h]
  by_cases hj : j < q
  · rw [List.getElem?_append_left (by simp; omega), List.getElem?_take, if_pos (by omega), if_neg (by omega)]
  · by_cases hj2 : j = q
    · subst hj2
      rw [List.getElem?_append_right (by simp; omega), if_pos rfl, if_pos (by omega)]
      simp [h]
    · rw [if_neg (by omega), List.getElem?_eq_none (by simp; omega), List.getElem?_eq_none (by omega)]
noncomputable def c8 (l : List Bool) : Code := sub (Try.f56.body.getD .skip) l
/-- What stands at the step's switch: the program, the machine and its last frame, the step, the two values on top, all in the world w0's and in the call's own blocks behind it. -/
structure StepC (Bp : Nat) (p : Prg) (bp po cap B M : Nat) (m : Mc) (q : Nat) (f : Fr) (own : Meth) (op A Bi : Int) (b2 b6 bi bt G fcap : Nat) (vS vL vh vs vA : Value) (gc cc : Nat) (ch cf : List (List Value)) (Th Tf : Nat → Nat → Nat → Prop) (w0 w : World) : Prop where
  hB : B ≤ w0.heap.size
  ok : okP p = true
  sk : SK front Bp w0 (.slice (some ⟨bp, po, none⟩) p.length cap) p
  T : Tp B M w0 m (q + 1) q f G fcap vS vL vh vs ch cf Th Tf
  hq : m.frames.length = q + 1
  core : Core m
  b0 : Below w0.heap.size w0 w
  P2 : Cells w b2 [.slice (some ⟨bp, po, none⟩) p.length cap]
  C6 : Cells w b6 [.int .i64 own.name, vA, .int .i64 own.gives, .slice (some ⟨gc, 0, none⟩) own.code.length cc]
  CI : Cells w bi [.int .i64 op, .int .i64 A, .int .i64 Bi]
  CT : Cells w bt [.int .i64 (topV f.stk).1, .int .i64 (topV f.stk).2]
  CN : Cells w (bt + 1) [.int .i64 (nextV f.stk).1, .int .i64 (nextV f.stk).2]
  l2 : w0.heap.size ≤ b2
  l6 : w0.heap.size ≤ b6
  li : w0.heap.size ≤ bi
  lt : w0.heap.size ≤ bt
  pos : 0 ≤ f.pos ∧ f.pos ≤ 1000
  poss : ∀ g ∈ m.frames, 0 ≤ g.pos ∧ g.pos ≤ 1000
  okI : Tx.okI op A Bi = true
  nt : takesS op ≤ f.stk.length
  np : f.stk.length - takesS op + putsS op ≤ 8
variable {Bp : Nat} {p : Prg} {bp po cap B M : Nat} {m : Mc} {q : Nat} {f : Fr} {own : Meth} {op A Bi : Int} {b2 b6 bi bt G fcap : Nat} {vS vL vh vs vA : Value} {gc cc : Nat} {ch cf : List (List Value)} {Th Tf : Nat → Nat → Nat → Prop} {w0 w : World}
theorem StepC.TW (h : StepC Bp p bp po cap B M m q f own op A Bi b2 b6 bi bt G fcap vS vL vh vs vA gc cc ch cf Th Tf w0 w) : Tp B M w m (q + 1) q f G fcap vS vL vh vs ch cf Th Tf := h.T.on h.b0
theorem StepC.glt (h : StepC Bp p bp po cap B M m q f own op A Bi b2 b6 bi bt G fcap vS vL vh vs vA gc cc ch cf Th Tf w0 w) : G < w0.heap.size := h.T.glt
theorem StepC.skw (h : StepC Bp p bp po cap B M m q f own op A Bi b2 b6 bi bt G fcap vS vL vh vs vA gc cc ch cf Th Tf w0 w) : SK front Bp w (.slice (some ⟨bp, po, none⟩) p.length cap) p := SK.on h.sk (Keep.of h.b0)
theorem StepC.fok (h : StepC Bp p bp po cap B M m q f own op A Bi b2 b6 bi bt G fcap vS vL vh vs vA gc cc ch cf Th Tf w0 w) : FrOk f := h.core.fr f (List.mem_of_getElem? h.T.at')
theorem StepC.step (h : StepC Bp p bp po cap B M m q f own op A Bi b2 b6 bi bt G fcap vS vL vh vs vA gc cc ch cf Th Tf w0 w) : ¬ (f.stk.length < takesS op ∨ 8 < f.stk.length - takesS op + putsS op) := by have := h.nt; have := h.np; omega
set_option maxRecDepth 100000 in
set_option maxHeartbeats 4000000 in
theorem stepTail (B M : Nat) (m : Mc) (q : Nat) (f : Fr) (G fcap : Nat) (vS vL vh vs : Value) (ch cf : List (List Value)) (Th Tf : Nat → Nat → Nat → Prop) (w : World) (hB : B ≤ w.heap.size)
    (hT : Tp B M w m (q + 1) q f G fcap vS vL vh vs ch cf Th Tf) (hq : m.frames.length = q + 1)
    (op A Bi : Int) (bi bt : Nat) (tp : Vl) (hI : Cells w bi [.int .i64 op, .int .i64 A, .int .i64 Bi]) (hC : Cells w bt [.int .i64 tp.1, .int .i64 tp.2]) (hbi : bi ≠ G) (hbt : bt ≠ G)
    (take : Nat) (htake : take ≤ f.stk.length) (h8 : f.stk.length ≤ 8) (gp cp : Nat) (put : List Vl) (hput : SV true 0 w (.slice (some ⟨gp, 0, none⟩) put.length cp) put) (hp2 : put.length ≤ 2) (hpos : 0 ≤ f.pos ∧ f.pos ≤ 1000)
    (R : Ending → World → Prop) (hR : ∀ w', MSt B M w' (onS m f take put (if op = 11 ∨ op = 12 ∧ tp.2 = 0 then A else f.pos + 1)).1 → Below B w w' → R (.returned (.int .i64 0)) w')
    {u0 u1 u2 u3 u4 u6 u11 u13 u14 u15 u16 u17 u18 u19 u20 u21 u22 u23 u24 u25 u26 u27 u28 u29 u30 u31 u32 u33 u34 u35 u36 u37 u38 u39 u40 u41 u42 u43 u44 u45 u46 u47 u48 u49 u50 u51 u52 u53 u54 u55 u56 u57 u58 u59 u60 u61 u62 u63 u64 u65 u66 u67 u68 u69 u70 u71 u72 u73 u74 u75 u76 u77 u78 u79 u80 u81 u82 u83 u84 u85 u86 u87 u88 u89 u90 u91 u92 u93 u94 u95 u96 u97 u98 u99 u100 u101 u102 u103 u104 u105 u106 u107 u108 u109 u110 u111 u112 u113 u114 u115 u116 u117 u118 u119 u120 u121 u122 u123 u124 u125 u126 u127 u128 u129 u130 u131 u132 u133 u134 u135 u136 u137 u138 u139 u140 u141 u142 u143 u144 u145 u146 u147 u148 u149 u150 u151 u152 u153 u154 u155 u156 u157 u158 u159 u160 u161 u162 u163 u164 u165 u166 u167 u168 u169 u170 u171 u172 u173 u174 u175 u176 u177 u178 u179 u180 u181 u182 u183 u184 u185 u186 u187 u188 u189 u190 u191 u192 u193 u194 u195 u196 u197 u198 u199 u200 u201 u202 u203 u204 u205 u206 u207 u208 u209 u210 u211 u212 u213 u214 u215 u216 u217 u218 u219 u220 u221 u222 u223 u224 u225 u226 u227 u228 u229 u230 u231 u232 u233 u234 u235 u236 u237 u238 u239 u240 u241 u242 u243 u244 u245 u246 u247 u248 u249 u250 u251 u252 u253 u254 u255 u256 u257 u258 u259 u260 u261 u262 u263 u264 u265 u266 u267 u268 u269 u270 u271 u272 u273 u274 u275 u276 u277 u278 u279 u280 u281 u282 u283 u284 u285 u286 u287 u288 u289 u290 u291 u292 u293 u294 u295 u296 u297 u298 u299 u300 u301 u302 u303 u304 u305 u306 u307 u308 u309 u310 u311 u312 u313 u314 u315 u316 u317 u318 u319 u320 u321 u322 u323 u324 u325 u326 u327 u328 u329 u330 u331 u332 u333 u334 u335 u336 u337 u338 u339 u340 u341 u342 u343 u344 u345 u346 u347 u348 u349 u350 u351 u352 u353 u354 u355 u356 u357 u358 u359 u360 u361 u362 u363 u364 u365 u366 u367 u368 u369 u370 u371 u372 u373 u374 u375 u376 u377 u378 u379 u380 u381 u382 u383 u384 u385 u386 u387 u388 u389 u390 u391 u392 u393 u394 u395 u396 u397 u398 u399 u400 u401 u402 u403 u404 u405 u406 u407 u408 u409 u410 u411 u412 u413 u414 u415 u416 u417 u418 u419 u420 u421 u422 u423 u424 u425 u426 u427 u428 u429 u430 u431 u432 u433 u434 u435 u436 u437 u438 u439 u440 u441 u442 u443 u444 u445 u446 u447 u448 u449 u450 u451 u452 u453 u454 u455 u456 u457 u458 u459 u460 u461 u462 u463 u464 u465 u466 u467 u468 u469 u470 u471 u472 u473 u474 u475 u476 u477 u478 u479 u480 : Value} :
    Code.wp Try.prog (c8 [true, true, true, true, true, true, true, true, true, true, true, true, true, true, true]) (bodyPost Try.prog Try.f56 R) { tmps := #[u0, u1, u2, u3, u4, .pointer (some ⟨G, q * 5, none⟩), u6, .pointer (some ⟨bi, 0, none⟩), .int .i64 (f.stk.length : Int), .int .i64 (take : Int), .pointer (some ⟨bt, 0, none⟩), u11, .slice (some ⟨gp, 0, none⟩) put.length cp, u13, u14, u15, u16, u17, u18, u19, u20, u21, u22, u23, u24, u25, u26, u27, u28, u29, u30, u31, u32, u33, u34, u35, u36, u37, u38, u39, u40, u41, u42, u43, u44, u45, u46, u47, u48, u49, u50, u51, u52, u53, u54, u55, u56, u57, u58, u59, u60, u61, u62, u63, u64, u65, u66, u67, u68, u69, u70, u71, u72, u73, u74, u75, u76, u77, u78, u79, u80, u81, u82, u83, u84, u85, u86, u87, u88, u89, u90, u91, u92, u93, u94, u95, u96, u97, u98, u99, u100, u101, u102, u103, u104, u105, u106, u107, u108, u109, u110, u111, u112, u113, u114, u115, u116, u117, u118, u119, u120, u121, u122, u123, u124, u125, u126, u127, u128, u129, u130, u131, u132, u133, u134, u135, u136, u137, u138, u139, u140, u141, u142, u143, u144, u145, u146, u147, u148, u149, u150, u151, u152, u153, u154, u155, u156, u157, u158, u159, u160, u161, u162, u163, u164, u165, u166, u167, u168, u169, u170, u171, u172, u173, u174, u175, u176, u177, u178, u179, u180, u181, u182, u183, u184, u185, u186, u187, u188, u189, u190, u191, u192, u193, u194, u195, u196, u197, u198, u199, u200, u201, u202, u203, u204, u205, u206, u207, u208, u209, u210, u211, u212, u213, u214, u215, u216, u217, u218, u219, u220, u221, u222, u223, u224, u225, u226, u227, u228, u229, u230, u231, u232, u233, u234, u235, u236, u237, u238, u239, u240, u241, u242, u243, u244, u245, u246, u247, u248, u249, u250, u251, u252, u253, u254, u255, u256, u257, u258, u259, u260, u261, u262, u263, u264, u265, u266, u267, u268, u269, u270, u271, u272, u273, u274, u275, u276, u277, u278, u279, u280, u281, u282, u283, u284, u285, u286, u287, u288, u289, u290, u291, u292, u293, u294, u295, u296, u297, u298, u299, u300, u301, u302, u303, u304, u305, u306, u307, u308, u309, u310, u311, u312, u313, u314, u315, u316, u317, u318, u319, u320, u321, u322, u323, u324, u325, u326, u327, u328, u329, u330, u331, u332, u333, u334, u335, u336, u337, u338, u339, u340, u341, u342, u343, u344, u345, u346, u347, u348, u349, u350, u351, u352, u353, u354, u355, u356, u357, u358, u359, u360, u361, u362, u363, u364, u365, u366, u367, u368, u369, u370, u371, u372, u373, u374, u375, u376, u377, u378, u379, u380, u381, u382, u383, u384, u385, u386, u387, u388, u389, u390, u391, u392, u393, u394, u395, u396, u397, u398, u399, u400, u401, u402, u403, u404, u405, u406, u407, u408, u409, u410, u411, u412, u413, u414, u415, u416, u417, u418, u419, u420, u421, u422, u423, u424, u425, u426, u427, u428, u429, u430, u431, u432, u433, u434, u435, u436, u437, u438, u439, u440, u441, u442, u443, u444, u445, u446, u447, u448, u449, u450, u451, u452, u453, u454, u455, u456, u457, u458, u459, u460, u461, u462, u463, u464, u465, u466, u467, u468, u469, u470, u471, u472, u473, u474, u475, u476, u477, u478, u479, u480, undef, undef, undef, undef, undef, undef, undef, undef, undef, undef, undef, undef, undef, undef, undef, undef, undef, undef, undef, undef, undef, undef, undef, undef, undef, undef, undef, undef, undef, undef, undef, undef, undef, undef, undef, undef, undef, undef, undef, undef, undef, undef], defers := [] } w := by
  have hgl := hT.glt
  obtain ⟨aS, cS, hvS⟩ := hT.stk.form
  subst hvS
  have hcap := hT.stk.cap
  obtain ⟨E, hE⟩ : ∃ E, E = w.alloc (.cells #[] 57) := ⟨_, rfl⟩
  have hbE : Below w.heap.size w E := by rw [hE]; exact (Below.refl _ _).alloc (Nat.le_refl _) _
  have c3 : E.cell? ⟨G, q * 5 + 3, none⟩ = some (.slice aS f.stk.length cS) := (hT.on hbE).cell (d := 3) (by omega)
  rw [hE] at c3
  have HT : Hid (Tp B M w m (q + 1) q f G fcap (.slice aS f.stk.length cS) vL vh vs ch cf Th Tf) := hT
  have HI : Hid (Cells w bi [.int .i64 op, .int .i64 A, .int .i64 Bi]) := hI
  have HC : Hid (Cells w bt [.int .i64 tp.1, .int .i64 tp.2]) := hC
  have HN : Hid (GrowV w.heap.size (w.alloc (.cells #[] 57)) (.slice (some ⟨w.heap.size, 0, none⟩) ([] : List Vl).length 0) []) := growV_nil w
  have HS1 : Hid (SV true 0 (w.alloc (.cells #[] 57)) (.slice aS (f.stk.take (f.stk.length - take)).length cS) (f.stk.take (f.stk.length - take))) := by
    show SV _ _ _ _ _
    rw [← hE]
    exact SV.take (SV.on hT.stk.sv (Keep.of hbE)) (by omega)
  have HPU : Hid (∀ X, Below w.heap.size w X → SV true 0 X (.slice (some ⟨gp, 0, none⟩) put.length cp) put) := fun X hX => SV.on hput (Keep.of hX)
  have hln : (f.stk.take (f.stk.length - take)).length = f.stk.length - take := by rw [List.length_take]; omega
  have hsub : (f.stk.length : Int) - (take : Int) = ((f.stk.length - take : Nat) : Int) := by omega
  have hlc : ((f.stk.length - take : Nat) : Int) ≤ (cS : Int) := by omega
  have hEB : Hid (Below w.heap.size w (w.alloc (.cells #[] 57))) := by show Below _ _ _; rw [← hE]; exact hbE
  have HR : Hid (∀ w', MSt B M w' (onS m f take put (if op = 11 ∨ op = 12 ∧ tp.2 = 0 then A else f.pos + 1)).1 → Below B w w' → R (.returned (.int .i64 0)) w') := hR
  have HLN : Hid ((f.stk.take (f.stk.length - take)).length = f.stk.length - take) := hln
  clear hT hI hC hput hE hbE hR hln
  unfold c8
  conv => arg 2; whnf
  go_wp2_with (first
    | (at_builtin; refine wpList_growV _ rfl (.tmp 482) (.tmp 490) rfl w.heap.size w.heap.size 0 [] rfl HN.out (by simp) aS cS 0 (f.stk.take (f.stk.length - take)) (by rw [HLN.out]; simp [Act.eval]) HS1.out (by have := HLN.out; simp; omega) ?_))
  intro g1 c1 w1 G1 B1 E1 O1
  have U1 : Below w.heap.size w w1 := hEB.out.trans B1
  have HG1 : Hid (GrowV w.heap.size w1 (.slice (some ⟨g1, 0, none⟩) (f.stk.take (f.stk.length - take)).length c1) (f.stk.take (f.stk.length - take))) := by show GrowV _ _ _ _; rw [HLN.out]; exact G1
  have HP1 : Hid (SV true 0 w1 (.slice (some ⟨gp, 0, none⟩) put.length cp) put) := HPU.out _ U1
  have hU1 := U1.size
  clear G1 B1 E1 O1 HN HS1 hEB HPU c3 hsub hlc
  go_wp2_with (first
    | (at_builtin; refine wpList_growV _ rfl (.tmp 491) (.tmp 492) rfl w.heap.size g1 c1 (f.stk.take (f.stk.length - take)) (by rw [HLN.out]; simp [Act.eval]) HG1.out hU1 (some ⟨gp, 0, none⟩) cp 0 put (by simp [Act.eval]) HP1.out (by have := HLN.out; omega) ?_))
  intro g2 c2 w2 G2 B2 E2 O2
  have U2 : Below w.heap.size w w2 := U1.trans B2
  obtain ⟨r, hr⟩ : ∃ r, r = f.stk.take (f.stk.length - take) ++ put := ⟨_, rfl⟩
  have HR2 : Hid (r = f.stk.take (f.stk.length - take) ++ put) := hr
  have G2' : GrowV w.heap.size w2 (.slice (some ⟨g2, 0, none⟩) r.length c2) r := by rw [hr, List.length_append, HLN.out]; exact G2
  have hrl : (f.stk.length - take + put.length : Nat) = r.length := by rw [hr, List.length_append, HLN.out]
  obtain ⟨cf', Tf', hT2⟩ := HT.out.setStk hB U2 G2'.vz
  have y3 : w2.cell? ⟨G, q * 5 + 3, none⟩ = some (.slice aS f.stk.length cS) := (HT.out.on U2).cell (d := 3) (by omega)
  have z3 := (HT.out.on U2).frz (q * 5 + 3)
  have hBG : B ≤ G := HT.out.own.low G (.inr (.inl (.inl rfl)))
  have hO : Only G w2 (w2.setCell ⟨G, q * 5 + 3, none⟩ (.slice (some ⟨g2, 0, none⟩) r.length c2)) := (Only.refl _ _).set _ _
  have I3 : Hid (Cells (w2.setCell ⟨G, q * 5 + 3, none⟩ (.slice (some ⟨g2, 0, none⟩) r.length c2)) bi [.int .i64 op, .int .i64 A, .int .i64 Bi]) := (HI.out.on U2).onlyM hO hbi
  have C3 : Hid (Cells (w2.setCell ⟨G, q * 5 + 3, none⟩ (.slice (some ⟨g2, 0, none⟩) r.length c2)) bt [.int .i64 tp.1, .int .i64 tp.2]) := (HC.out.on U2).onlyM hO hbt
  have HT2 : Hid (Tp B M (w2.setCell ⟨G, q * 5 + 3, none⟩ (.slice (some ⟨g2, 0, none⟩) r.length c2)) { m with frames := m.frames.set q { f with stk := r } } (q + 1) q { f with stk := r } G fcap (.slice (some ⟨g2, 0, none⟩) r.length c2) vL vh vs ch cf' Th Tf') := hT2
  have hb3 : Below B w (w2.setCell ⟨G, q * 5 + 3, none⟩ (.slice (some ⟨g2, 0, none⟩) r.length c2)) := (U2.mono hB).setCell hBG _
  have hs3 : B ≤ (w2.setCell ⟨G, q * 5 + 3, none⟩ (.slice (some ⟨g2, 0, none⟩) r.length c2)).heap.size := by have := U2.size; simp; omega
  rw [hrl]
  clear G2 B2 E2 O2 hT2 G2' HT HI HC HG1 HP1 U1 U2 hO hrl hr hU1 hcap htake h8
  go_upto_region 87 with fail
  generalize w2.setCell ⟨G, q * 5 + 3, none⟩ (.slice (some ⟨g2, 0, none⟩) r.length c2) = w3 at *
  clear y3 z3
  have i0 := I3.out.g0.1
  have i1 := I3.out.g1.1
  have t1 := C3.out.g1.1
  have p2 : w3.cell? ⟨G, q * 5 + 2, none⟩ = some (.int .i64 f.pos) := HT2.out.cell (d := 2) (by omega)
  have f2 := HT2.out.frz (q * 5 + 2)
  have HFIN : Hid (∀ x : Int, x = (if op = 11 ∨ op = 12 ∧ tp.2 = 0 then A else f.pos + 1) → R (.returned (.int .i64 0)) (w3.setCell ⟨G, q * 5 + 2, none⟩ (.int .i64 x))) := fun x hx => by
    have hP := HT2.out.setPos hs3 x
    refine HR.out _ ?_ (hb3.setCell hBG _)
    rw [← hx]
    unfold onS withTop
    dsimp only
    rw [withTop_set hq, ← HR2.out]
    have := hP.st
    dsimp only at this
    rw [List.set_set] at this
    exact this
  clear HT2 I3 C3 HR HR2 hb3 hs3
  by_cases h1 : op = 11
  · have hx : A = (if op = 11 ∨ op = 12 ∧ tp.2 = 0 then A else f.pos + 1) := by rw [if_pos (.inl h1)]
    have HF := HFIN.out A hx
    clear HFIN hx
    subst h1
    go_wp2
    exact HF
  · have hb1 : (op == 11) = false := by simp [h1]
    by_cases h2 : op = 12
    · by_cases h3 : tp.2 = 0
      · have hx : A = (if op = 11 ∨ op = 12 ∧ tp.2 = 0 then A else f.pos + 1) := by rw [if_pos (.inr ⟨h2, h3⟩)]
        have HF := HFIN.out A hx
        clear HFIN hx h1 hb1
        subst h2
        rw [h3] at t1
        clear h3
        go_wp2
        exact HF
      · have hx : f.pos + 1 = (if op = 11 ∨ op = 12 ∧ tp.2 = 0 then A else f.pos + 1) := by rw [if_neg (by omega)]
        have HF := HFIN.out _ hx
        have hb3 : (tp.2 == 0) = false := by simp [h3]
        clear HFIN hx h1 hb1 h3
        subst h2
        go_wp2
        exact HF
    · have hx : f.pos + 1 = (if op = 11 ∨ op = 12 ∧ tp.2 = 0 then A else f.pos + 1) := by rw [if_neg (by omega)]
      have HF := HFIN.out _ hx
      have hb2 : (op == 12) = false := by simp [h2]
      clear HFIN hx h1 h2
      go_wp2
      exact HF
set_option maxRecDepth 100000 in
theorem StepC.tail (C : StepC Bp p bp po cap B M m q f own op A Bi b2 b6 bi bt G fcap vS vL vh vs vA gc cc ch cf Th Tf w0 w) {X : World} (hX : Below w.heap.size w X) {gp cp : Nat} {put : List Vl} (hput : SV true 0 X (.slice (some ⟨gp, 0, none⟩) put.length cp) put) (hp2 : put.length ≤ 2)
    (R : Ending → World → Prop) (hR : ∀ w', MSt B M w' (onS m f (takesS op) put (if op = 11 ∨ op = 12 ∧ (topV f.stk).2 = 0 then A else f.pos + 1)).1 → Below B w w' → R (.returned (.int .i64 0)) w') {u0 u1 u2 u3 u4 u6 u11 u13 u14 u15 u16 u17 u18 u19 u20 u21 u22 u23 u24 u25 u26 u27 u28 u29 u30 u31 u32 u33 u34 u35 u36 u37 u38 u39 u40 u41 u42 u43 u44 u45 u46 u47 u48 u49 u50 u51 u52 u53 u54 u55 u56 u57 u58 u59 u60 u61 u62 u63 u64 u65 u66 u67 u68 u69 u70 u71 u72 u73 u74 u75 u76 u77 u78 u79 u80 u81 u82 u83 u84 u85 u86 u87 u88 u89 u90 u91 u92 u93 u94 u95 u96 u97 u98 u99 u100 u101 u102 u103 u104 u105 u106 u107 u108 u109 u110 u111 u112 u113 u114 u115 u116 u117 u118 u119 u120 u121 u122 u123 u124 u125 u126 u127 u128 u129 u130 u131 u132 u133 u134 u135 u136 u137 u138 u139 u140 u141 u142 u143 u144 u145 u146 u147 u148 u149 u150 u151 u152 u153 u154 u155 u156 u157 u158 u159 u160 u161 u162 u163 u164 u165 u166 u167 u168 u169 u170 u171 u172 u173 u174 u175 u176 u177 u178 u179 u180 u181 u182 u183 u184 u185 u186 u187 u188 u189 u190 u191 u192 u193 u194 u195 u196 u197 u198 u199 u200 u201 u202 u203 u204 u205 u206 u207 u208 u209 u210 u211 u212 u213 u214 u215 u216 u217 u218 u219 u220 u221 u222 u223 u224 u225 u226 u227 u228 u229 u230 u231 u232 u233 u234 u235 u236 u237 u238 u239 u240 u241 u242 u243 u244 u245 u246 u247 u248 u249 u250 u251 u252 u253 u254 u255 u256 u257 u258 u259 u260 u261 u262 u263 u264 u265 u266 u267 u268 u269 u270 u271 u272 u273 u274 u275 u276 u277 u278 u279 u280 u281 u282 u283 u284 u285 u286 u287 u288 u289 u290 u291 u292 u293 u294 u295 u296 u297 u298 u299 u300 u301 u302 u303 u304 u305 u306 u307 u308 u309 u310 u311 u312 u313 u314 u315 u316 u317 u318 u319 u320 u321 u322 u323 u324 u325 u326 u327 u328 u329 u330 u331 u332 u333 u334 u335 u336 u337 u338 u339 u340 u341 u342 u343 u344 u345 u346 u347 u348 u349 u350 u351 u352 u353 u354 u355 u356 u357 u358 u359 u360 u361 u362 u363 u364 u365 u366 u367 u368 u369 u370 u371 u372 u373 u374 u375 u376 u377 u378 u379 u380 u381 u382 u383 u384 u385 u386 u387 u388 u389 u390 u391 u392 u393 u394 u395 u396 u397 u398 u399 u400 u401 u402 u403 u404 u405 u406 u407 u408 u409 u410 u411 u412 u413 u414 u415 u416 u417 u418 u419 u420 u421 u422 u423 u424 u425 u426 u427 u428 u429 u430 u431 u432 u433 u434 u435 u436 u437 u438 u439 u440 u441 u442 u443 u444 u445 u446 u447 u448 u449 u450 u451 u452 u453 u454 u455 u456 u457 u458 u459 u460 u461 u462 u463 u464 u465 u466 u467 u468 u469 u470 u471 u472 u473 u474 u475 u476 u477 u478 u479 u480 : Value} :
    Code.wp Try.prog (c8 [true, true, true, true, true, true, true, true, true, true, true, true, true, true, true]) (bodyPost Try.prog Try.f56 R) { tmps := #[u0, u1, u2, u3, u4, .pointer (some ⟨G, q * 5, none⟩), u6, .pointer (some ⟨bi, 0, none⟩), .int .i64 (f.stk.length : Int), .int .i64 (takesS op : Int), .pointer (some ⟨bt, 0, none⟩), u11, .slice (some ⟨gp, 0, none⟩) put.length cp, u13, u14, u15, u16, u17, u18, u19, u20, u21, u22, u23, u24, u25, u26, u27, u28, u29, u30, u31, u32, u33, u34, u35, u36, u37, u38, u39, u40, u41, u42, u43, u44, u45, u46, u47, u48, u49, u50, u51, u52, u53, u54, u55, u56, u57, u58, u59, u60, u61, u62, u63, u64, u65, u66, u67, u68, u69, u70, u71, u72, u73, u74, u75, u76, u77, u78, u79, u80, u81, u82, u83, u84, u85, u86, u87, u88, u89, u90, u91, u92, u93, u94, u95, u96, u97, u98, u99, u100, u101, u102, u103, u104, u105, u106, u107, u108, u109, u110, u111, u112, u113, u114, u115, u116, u117, u118, u119, u120, u121, u122, u123, u124, u125, u126, u127, u128, u129, u130, u131, u132, u133, u134, u135, u136, u137, u138, u139, u140, u141, u142, u143, u144, u145, u146, u147, u148, u149, u150, u151, u152, u153, u154, u155, u156, u157, u158, u159, u160, u161, u162, u163, u164, u165, u166, u167, u168, u169, u170, u171, u172, u173, u174, u175, u176, u177, u178, u179, u180, u181, u182, u183, u184, u185, u186, u187, u188, u189, u190, u191, u192, u193, u194, u195, u196, u197, u198, u199, u200, u201, u202, u203, u204, u205, u206, u207, u208, u209, u210, u211, u212, u213, u214, u215, u216, u217, u218, u219, u220, u221, u222, u223, u224, u225, u226, u227, u228, u229, u230, u231, u232, u233, u234, u235, u236, u237, u238, u239, u240, u241, u242, u243, u244, u245, u246, u247, u248, u249, u250, u251, u252, u253, u254, u255, u256, u257, u258, u259, u260, u261, u262, u263, u264, u265, u266, u267, u268, u269, u270, u271, u272, u273, u274, u275, u276, u277, u278, u279, u280, u281, u282, u283, u284, u285, u286, u287, u288, u289, u290, u291, u292, u293, u294, u295, u296, u297, u298, u299, u300, u301, u302, u303, u304, u305, u306, u307, u308, u309, u310, u311, u312, u313, u314, u315, u316, u317, u318, u319, u320, u321, u322, u323, u324, u325, u326, u327, u328, u329, u330, u331, u332, u333, u334, u335, u336, u337, u338, u339, u340, u341, u342, u343, u344, u345, u346, u347, u348, u349, u350, u351, u352, u353, u354, u355, u356, u357, u358, u359, u360, u361, u362, u363, u364, u365, u366, u367, u368, u369, u370, u371, u372, u373, u374, u375, u376, u377, u378, u379, u380, u381, u382, u383, u384, u385, u386, u387, u388, u389, u390, u391, u392, u393, u394, u395, u396, u397, u398, u399, u400, u401, u402, u403, u404, u405, u406, u407, u408, u409, u410, u411, u412, u413, u414, u415, u416, u417, u418, u419, u420, u421, u422, u423, u424, u425, u426, u427, u428, u429, u430, u431, u432, u433, u434, u435, u436, u437, u438, u439, u440, u441, u442, u443, u444, u445, u446, u447, u448, u449, u450, u451, u452, u453, u454, u455, u456, u457, u458, u459, u460, u461, u462, u463, u464, u465, u466, u467, u468, u469, u470, u471, u472, u473, u474, u475, u476, u477, u478, u479, u480, undef, undef, undef, undef, undef, undef, undef, undef, undef, undef, undef, undef, undef, undef, undef, undef, undef, undef, undef, undef, undef, undef, undef, undef, undef, undef, undef, undef, undef, undef, undef, undef, undef, undef, undef, undef, undef, undef, undef, undef, undef, undef], defers := [] } X :=
  stepTail B M m q f G fcap vS vL vh vs ch cf Th Tf X (Nat.le_trans C.hB (Nat.le_trans C.b0.size hX.size)) (C.TW.on hX) C.hq op A Bi bi bt (topV f.stk) (C.CI.on hX) (C.CT.on hX) (by have := C.glt; have := C.li; omega) (by have := C.glt; have := C.lt; omega) (takesS op) C.nt C.fok.s8 gp cp put hput hp2 C.pos R
    fun w' hM hb' => hR w' hM ((hX.mono (Nat.le_trans C.hB C.b0.size)).trans hb')
theorem sv_two {w : World} {g c : Nat} {x y : Vl} (h : Cells w g [.int .i64 x.1, .int .i64 x.2, .int .i64 y.1, .int .i64 y.2]) : SV true 0 w (.slice (some ⟨g, 0, none⟩) [x, y].length c) [x, y] :=
  ⟨_, _, rfl, fun _ e => by simp at e, fun _ => ⟨g, 0, rfl, Nat.zero_le _, ⟨cell_lt h.g0.1, fun _ j hj => by
    have hj' : j < 4 := by simpa using hj
    rw [Nat.zero_add]
    match j, hj' with
    | 0, _ => exact h.g0.2
    | 1, _ => exact h.g1.2
    | 2, _ => exact h.g2.2
    | 3, _ => exact h.g3.2⟩, fun j z hj => by
    match j with
    | 0 => simp at hj; subst hj; exact ⟨h.g0.1, h.g1.1⟩
    | 1 => simp at hj; subst hj; exact ⟨h.g2.1, h.g3.1⟩
    | j + 2 => simp at hj⟩⟩
end Pg
end Go.Proofs.Ytffkkhaiedhaiaa

/- The step, op by op: 2, 3. -/
namespace Go.Proofs.Ytffkkhaiedhaiaa
namespace Pg
open Go.ChangeShapes Go.WideShapes Go.ChangeAt Go.RowKit St Wd

variable {Bp : Nat} {p : Prg} {bp po cap B M : Nat} {m : Mc} {q : Nat} {f : Fr} {own : Meth} {op A Bi : Int} {b2 b6 bi bt G fcap : Nat} {vS vL vh vs vA : Value} {gc cc : Nat} {ch cf : List (List Value)} {Th Tf : Nat → Nat → Nat → Prop} {w0 w : World}
theorem meetM {P G : Prop} (h : P → G) (p : P) : G := h p
theorem StepC.locs (C : StepC Bp p bp po cap B M m q f own op A Bi b2 b6 bi bt G fcap vS vL vh vs vA gc cc ch cf Th Tf w0 w) :
    ∃ gL cL, vL = .slice (some ⟨gL, 0, none⟩) f.loc.length cL ∧ gL < w0.heap.size ∧ (gL ≠ G ∧ B ≤ gL) ∧ ∀ X, Below w0.heap.size w0 X → (∀ j (h : j < f.loc.length), X.cell? ⟨gL, j * 2, none⟩ = some (.int .i64 (f.loc[j]).1) ∧ X.cell? ⟨gL, j * 2 + 1, none⟩ = some (.int .i64 (f.loc[j]).2)) ∧ ∀ j, j < f.loc.length * 2 → X.frozen? ⟨gL, j, none⟩ = false := by
  rcases C.T.loc with ⟨g, c, hv, h1, h2, h3, h4⟩ | ⟨_, hl⟩
  · refine ⟨g, _, hv, h2, ⟨fun e => ?_, C.T.own.low g (.inr (.inl (.inr ⟨q, 1, h1⟩)))⟩, fun X hX => ⟨fun j hj => ?_, fun j hj => ?_⟩⟩
    · subst e
      exact C.T.own.f.off q 1 g h1 rfl
    · obtain ⟨c0, c1⟩ := h3 j _ (List.getElem?_eq_getElem hj)
      exact ⟨(hX.cell (p := ⟨g, j * 2, none⟩) h2).trans c0, (hX.cell (p := ⟨g, j * 2 + 1, none⟩) h2).trans c1⟩
    · exact (hX.frozen (p := ⟨g, j, none⟩) h2).trans (h4 j hj).2
  · have := C.fok.l8
    rw [hl] at this
    simp at this
theorem withTop_same {m : Mc} {q : Nat} (h : m.frames.length = q + 1) (x y : Fr) : withTop { m with frames := m.frames.set q y } x = withTop m x := by
  unfold withTop
  have e : (m.frames.set q y).dropLast = m.frames.dropLast := by
    apply List.ext_getElem?
    intro j
    rw [List.getElem?_dropLast, List.getElem?_dropLast, List.length_set, h]
    by_cases hj : j < q + 1 - 1
    · rw [if_pos hj, if_pos hj, List.getElem?_set, if_neg (by omega)]
    · rw [if_neg hj, if_neg hj]
  dsimp only
  rw [e]
set_option maxRecDepth 100000 in
set_option maxHeartbeats 4000000 in
theorem stepOp2 (C : StepC Bp p bp po cap B M m q f own 2 A Bi b2 b6 bi bt G fcap vS vL vh vs vA gc cc ch cf Th Tf w0 w) (R : Ending → World → Prop)
    (hR : ∀ w', MSt B M w' (stepI p m f own (2, A, Bi)).1 → Below B w w' → R (.returned (.int .i64 (stepI p m f own (2, A, Bi)).2)) w') (K : Act → World → Prop) (hK : ∀ a w', Code.wp Try.prog (c8 [true, true, true, true, true, true, true, true, true, true, true, true, true, true, true]) (bodyPost Try.prog Try.f56 R) a w' → K a w')
    {u0 u3 u4 u14 u15 u16 u17 u18 u19 u20 u21 u22 u23 u24 u25 u26 u27 u28 u29 u30 u31 u32 u33 u34 u35 u36 u37 u38 u39 u40 u41 u42 u43 u44 u45 u46 u47 u48 u49 u50 u51 u52 u53 u54 u55 u56 u57 u58 u59 u60 u61 u62 u63 u64 u65 u66 u67 u68 u69 u70 u71 u72 u73 u74 u75 u76 u77 u78 u79 u80 u81 u82 u83 u84 u85 u86 u87 u88 u89 u90 u91 u92 u93 u94 u95 u96 u97 u98 u99 u100 u101 u102 u103 u104 u105 u106 u107 u108 u109 u110 u111 u112 u113 u114 u115 u116 u117 u118 u119 u120 u121 u122 u123 u124 u125 u126 u127 u128 u129 u130 u131 u132 u133 u134 u135 u136 u137 u138 u139 u140 u141 u142 u143 u144 u145 u146 : Value} : Code.wp Try.prog (c8 [true, true, true, true, true, true, true, true, true, true, true, true, true, true, false]) (Exit.then K (bodyPost Try.prog Try.f56 R)) { tmps := #[u0, .pointer (some ⟨M, 0, none⟩), .pointer (some ⟨b2, 0, none⟩), u3, u4, .pointer (some ⟨G, q * 5, none⟩), .pointer (some ⟨b6, 0, none⟩), .pointer (some ⟨bi, 0, none⟩), .int .i64 (f.stk.length : Int), .int .i64 (takesS 2 : Int), .pointer (some ⟨bt, 0, none⟩), .pointer (some ⟨bt + 1, 0, none⟩), .slice (some ⟨w.heap.size, 0, none⟩) 0 0, undef, u14, u15, u16, u17, u18, u19, u20, u21, u22, u23, u24, u25, u26, u27, u28, u29, u30, u31, u32, u33, u34, u35, u36, u37, u38, u39, u40, u41, u42, u43, u44, u45, u46, u47, u48, u49, u50, u51, u52, u53, u54, u55, u56, u57, u58, u59, u60, u61, u62, u63, u64, u65, u66, u67, u68, u69, u70, u71, u72, u73, u74, u75, u76, u77, u78, u79, u80, u81, u82, u83, u84, u85, u86, u87, u88, u89, u90, u91, u92, u93, u94, u95, u96, u97, u98, u99, u100, u101, u102, u103, u104, u105, u106, u107, u108, u109, u110, u111, u112, u113, u114, u115, u116, u117, u118, u119, u120, u121, u122, u123, u124, u125, u126, u127, u128, u129, u130, u131, u132, u133, u134, u135, u136, u137, u138, u139, u140, u141, u142, u143, u144, u145, u146, undef, undef, undef, undef, undef, undef, undef, undef, undef, undef, undef, undef, undef, undef, undef, undef, undef, undef, undef, undef, undef, undef, undef, undef, undef, undef, undef, undef, undef, undef, undef, undef, undef, undef, undef, undef, undef, undef, undef, undef, undef, undef, undef, undef, undef, undef, undef, undef, undef, undef, undef, undef, undef, undef, undef, undef, undef, undef, undef, undef, undef, undef, undef, undef, undef, undef, undef, undef, undef, undef, undef, undef, undef, undef, undef, undef, undef, undef, undef, undef, undef, undef, undef, undef, undef, undef, undef, undef, undef, undef, undef, undef, undef, undef, undef, undef, undef, undef, undef, undef, undef, undef, undef, undef, undef, undef, undef, undef, undef, undef, undef, undef, undef, undef, undef, undef, undef, undef, undef, undef, undef, undef, undef, undef, undef, undef, undef, undef, undef, undef, undef, undef, undef, undef, undef, undef, undef, undef, undef, undef, undef, undef, undef, undef, undef, undef, undef, undef, undef, undef, undef, undef, undef, undef, undef, undef, undef, undef, undef, undef, undef, undef, undef, undef, undef, undef, undef, undef, undef, undef, undef, undef, undef, undef, undef, undef, undef, undef, undef, undef, undef, undef, undef, undef, undef, undef, undef, undef, undef, undef, undef, undef, undef, undef, undef, undef, undef, undef, undef, undef, undef, undef, undef, undef, undef, undef, undef, undef, undef, undef, undef, undef, undef, undef, undef, undef, undef, undef, undef, undef, undef, undef, undef, undef, undef, undef, undef, undef, undef, undef, undef, undef, undef, undef, undef, undef, undef, undef, undef, undef, undef, undef, undef, undef, undef, undef, undef, undef, undef, undef, undef, undef, undef, undef, undef, undef, undef, undef, undef, undef, undef, undef, undef, undef, undef, undef, undef, undef, undef, undef, undef, undef, undef, undef, undef, undef, undef, undef, undef, undef, undef, undef, undef, undef, undef, undef, undef, undef, undef, undef, undef, undef, undef, undef, undef, undef, undef, undef, undef, undef, undef, undef, undef, undef, undef, undef, undef, undef, undef, undef, undef, undef, undef, undef, undef, undef, undef, undef, undef, undef, undef, undef, undef, undef, undef, undef, undef, undef, undef, undef, undef, undef, undef, undef, undef, undef, undef, undef, undef, undef, undef, undef, undef, undef, undef, undef, undef, undef, undef, undef, undef, undef, undef, undef, undef, undef, undef, undef, undef, undef, undef, undef, undef, undef, undef, undef, undef, undef, undef, undef, undef, undef, undef, undef, undef, undef], defers := [] } (w.alloc (.cells #[] 57)) := by
  have hX : Below w.heap.size w (w.alloc (.cells #[] 57)) := (Below.refl _ _).alloc (Nat.le_refl _) _
  have ci := (C.CI.on hX).g0.1
  have HR : Hid (∀ w', MSt B M w' (stepI p m f own (2, A, Bi)).1 → Below B w w' → R (.returned (.int .i64 (stepI p m f own (2, A, Bi)).2)) w') := hR
  clear hR
  have hA : 0 ≤ A ∧ A < 8 := by have := C.okI; unfold Tx.okI Tx.limA at this; simp at this; omega
  obtain ⟨a, rfl⟩ := Int.eq_ofNat_of_zero_le hA.1
  have ha : a < f.loc.length := by have := C.fok.l8; omega
  have hai : (a : Int) < (f.loc.length : Int) := by omega
  obtain ⟨gL, cL, rfl, hgL, _, hloc⟩ := C.locs
  obtain ⟨x, hx⟩ : ∃ x, x = f.loc[a] := ⟨_, rfl⟩
  have hsi : stepI p m f own (2, (a : Int), Bi) = onS m f 0 [x] (f.pos + 1) := by
    simp only [stepI]
    rw [if_neg C.step]
    simp [ha, hx]
  rw [hsi] at HR
  have hXd : Below w.heap.size w (w.alloc (.cells #[] 57)).drew := hX.drew
  have c4 : (w.alloc (.cells #[] 57)).drew.cell? ⟨G, q * 5 + 4, none⟩ = some (.slice (some ⟨gL, 0, none⟩) f.loc.length cL) := (C.TW.on hXd).cell (d := 4) (by omega)
  have c1 := (C.CI.on hXd).g1.1
  obtain ⟨x0, x1⟩ := (hloc _ (C.b0.trans (hXd.mono C.b0.size))).1 a ha
  rw [← hx] at x0 x1
  have HW : Below w.heap.size w ((w.alloc (.cells #[] 57)).drew.alloc (.cells #[.int .i64 x.1, .int .i64 x.2] 57)) := hXd.alloc hXd.size _
  have HW' : Below w.heap.size w ((w.alloc (.cells #[] 57)).alloc (.cells #[.int .i64 x.1, .int .i64 x.2] 57)).drew := (hX.alloc hX.size _).drew
  have HN2 : Hid (GrowV w.heap.size ((w.alloc (.cells #[] 57)).alloc (.cells #[.int .i64 x.1, .int .i64 x.2] 57)).drew (.slice (some ⟨w.heap.size, 0, none⟩) ([] : List Vl).length 0) []) := (growV_nil w).on (((Below.refl _ _).alloc (Nat.le_refl _) _).drew)
  have HSV : Hid (SV true 0 ((w.alloc (.cells #[] 57)).alloc (.cells #[.int .i64 x.1, .int .i64 x.2] 57)).drew (.slice (some ⟨w.heap.size + 1, 0, none⟩) ([x] : List Vl).length 1) [x]) := by
    have := sv_one (c := 1) (Cells.drewC (Cells.new (w.alloc (.cells #[] 57)) _ rfl [.int .i64 x.1, .int .i64 x.2] 57))
    rw [World.size_alloc] at this
    exact this
  have hsz : w.heap.size ≤ ((w.alloc (.cells #[] 57)).alloc (.cells #[.int .i64 x.1, .int .i64 x.2] 57)).drew.heap.size := HW'.size
  clear hloc hx
  unfold c8
  conv => arg 2; whnf
  go_upto_region 23 with fail
  apply meetM
  case h => intro hp; go_region_law (first
    | (refine stepGrowV _ rfl (.tmp 159) (.tmp 168) rfl w.heap.size w.heap.size 0 [] (by simp [Act.eval]) HN2.out hsz (some ⟨w.heap.size + 1, 0, none⟩) 1 0 [x] (by simp [Act.eval]) HSV.out (by simp) ?_; intro g1 c1' w1 G1 B1 E1 O1; dsimp only)); all_goals (revert g1 c1' w1 G1 B1 E1 O1; exact hp)
  intro g1 c1' w1 G1 B1 E1 O1
  have hX1 : Below w.heap.size w w1 := HW'.trans B1
  have HG1 : Hid (GrowV w.heap.size w1 (.slice (some ⟨g1, 0, none⟩) ([x] : List Vl).length c1') [x]) := by show GrowV _ _ _ _; simpa using G1
  clear G1 B1 E1 O1 HN2 HSV x0 x1 c4 c1
  go_wp2_with fail
  refine C.tail hX1 HG1.out.vz.sv (by simp) R ?_
  intro w' hM hb'
  exact HR.out w' (by simpa [takesS] using hM) hb'
set_option maxRecDepth 100000 in
set_option maxHeartbeats 4000000 in
theorem stepOp3 (C : StepC Bp p bp po cap B M m q f own 3 A Bi b2 b6 bi bt G fcap vS vL vh vs vA gc cc ch cf Th Tf w0 w) (R : Ending → World → Prop)
    (hR : ∀ w', MSt B M w' (stepI p m f own (3, A, Bi)).1 → Below B w w' → R (.returned (.int .i64 (stepI p m f own (3, A, Bi)).2)) w') (K : Act → World → Prop) (hK : ∀ a w', Code.wp Try.prog (c8 [true, true, true, true, true, true, true, true, true, true, true, true, true, true, true]) (bodyPost Try.prog Try.f56 R) a w' → K a w')
    {u0 u3 u4 u14 u15 u16 u17 u18 u19 u20 u21 u22 u23 u24 u25 u26 u27 u28 u29 u30 u31 u32 u33 u34 u35 u36 u37 u38 u39 u40 u41 u42 u43 u44 u45 u46 u47 u48 u49 u50 u51 u52 u53 u54 u55 u56 u57 u58 u59 u60 u61 u62 u63 u64 u65 u66 u67 u68 u69 u70 u71 u72 u73 u74 u75 u76 u77 u78 u79 u80 u81 u82 u83 u84 u85 u86 u87 u88 u89 u90 u91 u92 u93 u94 u95 u96 u97 u98 u99 u100 u101 u102 u103 u104 u105 u106 u107 u108 u109 u110 u111 u112 u113 u114 u115 u116 u117 u118 u119 u120 u121 u122 u123 u124 u125 u126 u127 u128 u129 u130 u131 u132 u133 u134 u135 u136 u137 u138 u139 u140 u141 u142 u143 u144 u145 u146 : Value} : Code.wp Try.prog (c8 [true, true, true, true, true, true, true, true, true, true, true, true, true, true, false]) (Exit.then K (bodyPost Try.prog Try.f56 R)) { tmps := #[u0, .pointer (some ⟨M, 0, none⟩), .pointer (some ⟨b2, 0, none⟩), u3, u4, .pointer (some ⟨G, q * 5, none⟩), .pointer (some ⟨b6, 0, none⟩), .pointer (some ⟨bi, 0, none⟩), .int .i64 (f.stk.length : Int), .int .i64 (takesS 3 : Int), .pointer (some ⟨bt, 0, none⟩), .pointer (some ⟨bt + 1, 0, none⟩), .slice (some ⟨w.heap.size, 0, none⟩) 0 0, undef, u14, u15, u16, u17, u18, u19, u20, u21, u22, u23, u24, u25, u26, u27, u28, u29, u30, u31, u32, u33, u34, u35, u36, u37, u38, u39, u40, u41, u42, u43, u44, u45, u46, u47, u48, u49, u50, u51, u52, u53, u54, u55, u56, u57, u58, u59, u60, u61, u62, u63, u64, u65, u66, u67, u68, u69, u70, u71, u72, u73, u74, u75, u76, u77, u78, u79, u80, u81, u82, u83, u84, u85, u86, u87, u88, u89, u90, u91, u92, u93, u94, u95, u96, u97, u98, u99, u100, u101, u102, u103, u104, u105, u106, u107, u108, u109, u110, u111, u112, u113, u114, u115, u116, u117, u118, u119, u120, u121, u122, u123, u124, u125, u126, u127, u128, u129, u130, u131, u132, u133, u134, u135, u136, u137, u138, u139, u140, u141, u142, u143, u144, u145, u146, undef, undef, undef, undef, undef, undef, undef, undef, undef, undef, undef, undef, undef, undef, undef, undef, undef, undef, undef, undef, undef, undef, undef, undef, undef, undef, undef, undef, undef, undef, undef, undef, undef, undef, undef, undef, undef, undef, undef, undef, undef, undef, undef, undef, undef, undef, undef, undef, undef, undef, undef, undef, undef, undef, undef, undef, undef, undef, undef, undef, undef, undef, undef, undef, undef, undef, undef, undef, undef, undef, undef, undef, undef, undef, undef, undef, undef, undef, undef, undef, undef, undef, undef, undef, undef, undef, undef, undef, undef, undef, undef, undef, undef, undef, undef, undef, undef, undef, undef, undef, undef, undef, undef, undef, undef, undef, undef, undef, undef, undef, undef, undef, undef, undef, undef, undef, undef, undef, undef, undef, undef, undef, undef, undef, undef, undef, undef, undef, undef, undef, undef, undef, undef, undef, undef, undef, undef, undef, undef, undef, undef, undef, undef, undef, undef, undef, undef, undef, undef, undef, undef, undef, undef, undef, undef, undef, undef, undef, undef, undef, undef, undef, undef, undef, undef, undef, undef, undef, undef, undef, undef, undef, undef, undef, undef, undef, undef, undef, undef, undef, undef, undef, undef, undef, undef, undef, undef, undef, undef, undef, undef, undef, undef, undef, undef, undef, undef, undef, undef, undef, undef, undef, undef, undef, undef, undef, undef, undef, undef, undef, undef, undef, undef, undef, undef, undef, undef, undef, undef, undef, undef, undef, undef, undef, undef, undef, undef, undef, undef, undef, undef, undef, undef, undef, undef, undef, undef, undef, undef, undef, undef, undef, undef, undef, undef, undef, undef, undef, undef, undef, undef, undef, undef, undef, undef, undef, undef, undef, undef, undef, undef, undef, undef, undef, undef, undef, undef, undef, undef, undef, undef, undef, undef, undef, undef, undef, undef, undef, undef, undef, undef, undef, undef, undef, undef, undef, undef, undef, undef, undef, undef, undef, undef, undef, undef, undef, undef, undef, undef, undef, undef, undef, undef, undef, undef, undef, undef, undef, undef, undef, undef, undef, undef, undef, undef, undef, undef, undef, undef, undef, undef, undef, undef, undef, undef, undef, undef, undef, undef, undef, undef, undef, undef, undef, undef, undef, undef, undef, undef, undef, undef, undef, undef, undef, undef, undef, undef, undef, undef, undef, undef, undef, undef, undef, undef, undef, undef, undef, undef, undef, undef, undef, undef, undef, undef, undef, undef, undef, undef, undef, undef, undef, undef, undef, undef, undef], defers := [] } (w.alloc (.cells #[] 57)) := by
  have hX : Below w.heap.size w (w.alloc (.cells #[] 57)) := (Below.refl _ _).alloc (Nat.le_refl _) _
  have ci := (C.CI.on hX).g0.1
  have HR : Hid (∀ w', MSt B M w' (stepI p m f own (3, A, Bi)).1 → Below B w w' → R (.returned (.int .i64 (stepI p m f own (3, A, Bi)).2)) w') := hR
  clear hR
  have hA : 0 ≤ A ∧ A < 8 := by have := C.okI; unfold Tx.okI Tx.limA at this; simp at this; omega
  obtain ⟨a, rfl⟩ := Int.eq_ofNat_of_zero_le hA.1
  have ha : a < f.loc.length := by have := C.fok.l8; omega
  have hai : (a : Int) < (f.loc.length : Int) := by omega
  obtain ⟨gL, cL, rfl, hgL, ⟨hgG, hBL⟩, hloc⟩ := C.locs
  have hsi : stepI p m f own (3, (a : Int), Bi) = onS m { f with loc := f.loc.set a (topV f.stk) } 1 [] (f.pos + 1) := by
    simp only [stepI]
    rw [if_neg C.step]
    simp
  rw [hsi] at HR
  have hXd : Below w.heap.size w (w.alloc (.cells #[] 57)).drew := hX.drew
  have hXn : Below w0.heap.size w0 (w.alloc (.cells #[] 57)) := C.b0.trans (hX.mono C.b0.size)
  have hX0 : Below w0.heap.size w0 (w.alloc (.cells #[] 57)).drew := C.b0.trans (hXd.mono C.b0.size)
  have c4 : (w.alloc (.cells #[] 57)).drew.cell? ⟨G, q * 5 + 4, none⟩ = some (.slice (some ⟨gL, 0, none⟩) f.loc.length cL) := (C.TW.on hXd).cell (d := 4) (by omega)
  have c1 := (C.CI.on hXd).g1.1
  have t0 := (C.CT.on hXd).g0.1
  have t1 := (C.CT.on hXd).g1.1
  obtain ⟨x0, x1⟩ := (hloc _ hX0).1 a ha
  have z0 := (hloc _ hX0).2 (a * 2) (by omega)
  have z1 := (hloc _ hX0).2 (a * 2 + 1) (by omega)
  have HTY : Hid (Tp B M (setV (w.alloc (.cells #[] 57)) gL a (topV f.stk)).drew { m with frames := m.frames.set q { f with loc := f.loc.set a (topV f.stk) } } (q + 1) q { f with loc := f.loc.set a (topV f.stk) } G fcap vS (.slice (some ⟨gL, 0, none⟩) f.loc.length cL) vh vs ch cf Th Tf) := ((C.TW.on hX).setLoc (Nat.le_trans C.hB hXn.size) ha (topV f.stk)).on (Below.refl _ _).drew
  obtain ⟨y0, y1⟩ := (hloc _ hXn).1 a ha
  have v0 := (hloc _ hXn).2 (a * 2) (by omega)
  have v1 := (hloc _ hXn).2 (a * 2 + 1) (by omega)
  have hO : Only gL (w.alloc (.cells #[] 57)) (setV (w.alloc (.cells #[] 57)) gL a (topV f.stk)) := ((Only.refl _ _).set _ _).set _ _
  have IY : Hid (Cells (setV (w.alloc (.cells #[] 57)) gL a (topV f.stk)).drew bi [.int .i64 3, .int .i64 (a : Int), .int .i64 Bi]) := ((C.CI.on hX).onlyM hO (by have := C.li; omega)).on (Below.refl _ _).drew
  have TY : Hid (Cells (setV (w.alloc (.cells #[] 57)) gL a (topV f.stk)).drew bt [.int .i64 (topV f.stk).1, .int .i64 (topV f.stk).2]) := ((C.CT.on hX).onlyM hO (by have := C.lt; omega)).on (Below.refl _ _).drew
  have hBY : Below B w (setV (w.alloc (.cells #[] 57)) gL a (topV f.stk)).drew := (((hX.mono (Nat.le_trans C.hB C.b0.size)).setCell hBL _).setCell hBL _).drew
  have hsY : B ≤ (setV (w.alloc (.cells #[] 57)) gL a (topV f.stk)).drew.heap.size := Nat.le_trans (Nat.le_trans C.hB C.b0.size) hBY.size
  clear hloc hO
  unfold c8
  conv => arg 2; whnf
  go_upto_region 25 with fail
  apply meetM
  case h => intro hp; go_region_law fail; all_goals exact hp
  go_wp2_with fail
  have hset := withTop_same C.hq
  refine stepTail B M _ q _ G fcap vS _ vh vs ch cf Th Tf (setV (w.alloc (.cells #[] 57)) gL a (topV f.stk)).drew hsY HTY.out (by simpa using C.hq) 3 (a : Int) Bi bi bt (topV f.stk) IY.out TY.out (by have := C.glt; have := C.li; omega) (by have := C.glt; have := C.lt; omega) (takesS 3) C.nt C.fok.s8 w.heap.size 0 [] ⟨_, _, rfl, fun _ e => by simp at e, fun h => by simp at h⟩ (by simp) C.pos R ?_
  intro w' hM hb'
  refine HR.out w' ?_ (hBY.trans hb')
  have e : (onS { m with frames := m.frames.set q { f with loc := f.loc.set a (topV f.stk) } } { f with loc := f.loc.set a (topV f.stk) } (takesS 3) [] (if (3 : Int) = 11 ∨ (3 : Int) = 12 ∧ (topV f.stk).2 = 0 then (a : Int) else f.pos + 1)).1 = (onS m { f with loc := f.loc.set a (topV f.stk) } 1 [] (f.pos + 1)).1 := by
    unfold onS
    dsimp only
    rw [hset]
    rfl
  rw [← e]
  exact hM
end Pg
end Go.Proofs.Ytffkkhaiedhaiaa
