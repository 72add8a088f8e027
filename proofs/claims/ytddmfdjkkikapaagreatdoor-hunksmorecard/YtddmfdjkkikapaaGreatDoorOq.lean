/-
  The region of the law HunksMore that makes the wide hunk, by itself (made by wip/genoq.py).
-/
import Derived.Test.YtddmfdjkkikapaaGreatDoorOn
import Derived.Test.YtddmfdjkkikapaaGreatDoorGrUa
import Derived.Test.YtddmfdjkkikapaaGreatDoorGrMk
import Derived.Test.YtddmfdjkkikapaaGreatDoorGrUc
import Derived.Test.YtddmfdjkkikapaaGreatDoorLd
import Derived.Test.YtddmfdjkkikapaaGreatDoorGrKt
import Derived.Test.YtddmfdjkkikapaaGreatDoorGrJw
import Derived.Test.YtddmfdjkkikapaaGreatDoorGrKf
import Derived.Deep.DeepCutAuto
import Derived.Deep.Cut
import Derived.Deep.CutRange
namespace Go.Proofs.YtddmfdjkkikapaaGreatDoor
open Go.RowKit
open Hu (Rw Hk)
open Ed (Ch)

theorem wp_region_class {id : Nat} {C : World → Prop} {Q : Exit → Act → World → Prop} {a : Act} {w : World} {l : List Oper} (hm : Tryz.prog.follows .mixedOrders = true) (hB : Region.lexB .any l.toArray = true) (hC : C w.drew)
    (h : wpQuiet Tryz.prog l.toArray C (fun a' => ∀ w', C w' → Q .normal a' w') l a) : (Code.region id l.toArray true).wp Tryz.prog Q a w :=
  wp_region_quiet (C := C) hm hB hC (by simpa using h)
theorem wideA_sz {h : Hk} {a : List ByteArray} {ctx : Int} (hz : SzH h) (hsa : ∀ x ∈ a, x.size ≤ maxLen) : SzH (wideA h a ctx) := by
  unfold wideA
  split
  · rename_i hn
    unfold wideN at hn
    split at hn
    · rename_i hc
      split at hn
      · rename_i hv
        unfold ctxOk at hc
        simp only [Bool.and_eq_true, decide_eq_true_eq] at hc
        exact wideH_sz hz hv hsa hc.1 hc.2
      · cases hn
    · cases hn
  · exact ⟨by decide, by decide⟩
/-- what follows, so put that nothing looks into it -/
def Rst (p : Prop) : Prop := ∀ R : Prop, (p → R) → R
theorem Rst.out {p : Prop} (h : Rst p) : p := h p (fun x => x)
theorem rst_yes {P : Program} {ops : Array Oper} {C : World → Prop} {Q : Act → Prop} {a : Act} {o : Oper} {rest : List Oper} (hw : Region.wanted o (yielded ops a.tmps) = true)
    (h : ∀ K : Act → Prop, Shut (∀ a, Rst (wpQuiet P ops C Q rest a) → K a) → o.quiet P a C K) : Rst (wpQuiet P ops C Q (o :: rest) a) := fun _ hR => hR (by
  unfold wpQuiet
  rw [if_pos hw]
  exact h _ (fun a hr => hr.out))
theorem rst_no {P : Program} {ops : Array Oper} {C : World → Prop} {Q : Act → Prop} {a : Act} {o : Oper} {rest : List Oper} (hw : Region.wanted o (yielded ops a.tmps) = false)
    (h : ∀ K : Act → Prop, Shut (∀ a, Rst (wpQuiet P ops C Q rest a) → K a) → K (a.put o.dst undef)) : Rst (wpQuiet P ops C Q (o :: rest) a) := fun _ hR => hR (by
  unfold wpQuiet
  rw [if_neg (by rw [hw]; decide)]
  exact h _ (fun a hr => hr.out))
theorem rst_nil {P : Program} {ops : Array Oper} {C : World → Prop} {Q : Act → Prop} {a : Act} (h : Q a) : Rst (wpQuiet P ops C Q [] a) := fun _ hR => hR (wpQuiet_nil h)
theorem quiet_eql {o : Oper} {a : Act} {C : World → Prop} {K : Act → Prop} {x y : Operand} {n m : Int} {v : Bool} (ho : o.op = Op.binOp BinOp.eql 3 x y 3) (hx : a.eval x = .int .i64 n) (hy : a.eval y = .int .i64 m) (hv : (n == m) = v) (h : K (a.put o.dst (.bool v))) : o.quiet Tryz.prog a C K := by
  refine ⟨.bool v, fun w' _ => ?_, h⟩
  unfold Oper.quietAt execOp
  rw [ho]
  simp only [hx, hy]
  go_simp
theorem rdH_at6 {w : World} {v : Value} {l : List Hk} (h : RdH w v l) {k : Nat} {x : Hk} (hk : l[k]? = some x) :
    ∃ b o u n c, v = .slice (some ⟨b, o, none⟩) n c ∧ n = l.length ∧ b < w.heap.size ∧ w.cell? ⟨b, o + k * 6, none⟩ = some (.int .i64 x.a) ∧ w.cell? ⟨b, o + k * 6 + 1, none⟩ = some (.int .i64 x.n) ∧ w.cell? ⟨b, o + k * 6 + 2, none⟩ = some (.int .i64 x.b) ∧ w.cell? ⟨b, o + k * 6 + 3, none⟩ = some (.int .i64 x.m) ∧ w.cell? ⟨b, o + k * 6 + 4, none⟩ = some (.string x.head) ∧ w.cell? ⟨b, o + k * 6 + 5, none⟩ = some u ∧ RdW w u x.rows := by
  obtain ⟨a, c, rfl⟩ := h.shape
  obtain ⟨b, o, u, rfl, h1⟩ := rdH_at h hk
  exact ⟨b, o, u, _, c, rfl, rfl, h1⟩
/-- six cells stored into a block of zeros -/
theorem six_set {w : World} {G : Nat} {t : TypeId} {z0 z1 z2 z3 z4 z5 u0 u1 u2 u3 u4 u5 : Value} (h : w.heap[G]? = some (.cells #[z0, z1, z2, z3, z4, z5] t)) :
    ((((((w.setCell ⟨G, 0, none⟩ u0).setCell ⟨G, 1, none⟩ u1).setCell ⟨G, 2, none⟩ u2).setCell ⟨G, 3, none⟩ u3).setCell ⟨G, 4, none⟩ u4).setCell ⟨G, 5, none⟩ u5).heap[G]? = some (.cells #[u0, u1, u2, u3, u4, u5] t) :=
  set_heap _ G 5 _ _ u5 (set_heap _ G 4 _ _ u4 (set_heap _ G 3 _ _ u3 (set_heap _ G 2 _ _ u2 (set_heap _ G 1 _ _ u1 (set_heap _ G 0 _ _ u0 h)))))
theorem one_below {w w' : World} {B G k : Nat} {u : Value} (h : Below B w w') (hG : B ≤ G) : Below B w (w'.setCell ⟨G, k, none⟩ u) :=
  ⟨h.os, h.tape, h.output, by rw [set_size]; exact h.size, fun j hj => (set_other _ (by omega)).trans (h.block j hj)⟩
theorem six_below {w w' : World} {B G : Nat} {u0 u1 u2 u3 u4 u5 : Value} (h : Below B w w') (hG : B ≤ G) : Below B w ((((((w'.setCell ⟨G, 0, none⟩ u0).setCell ⟨G, 1, none⟩ u1).setCell ⟨G, 2, none⟩ u2).setCell ⟨G, 3, none⟩ u3).setCell ⟨G, 4, none⟩ u4).setCell ⟨G, 5, none⟩ u5) :=
  one_below (one_below (one_below (one_below (one_below (one_below h hG) hG) hG) hG) hG) hG
theorem own_one {w : World} {B n G k : Nat} {v : Value} {xs : List Value} {cs : Array Value} {u : Value} (h : w.ownsRow B 59 2 v n xs) (hG : w.heap[G]? = some (.cells cs 37)) : (w.setCell ⟨G, k, none⟩ u).ownsRow B 59 2 v n xs :=
  own_far h (fun g hk => set_other _ (fun e => own_ne h hG (by decide) (by rw [hk, e])))
theorem six_rdw {w : World} {B n G : Nat} {cs : Array Value} {v : Value} {xs : List Value} {u0 u1 u2 u3 u4 u5 : Value} (h : w.ownsRow B 59 2 v n xs) (hG : w.heap[G]? = some (.cells cs 37)) : RdX ((((((w.setCell ⟨G, 0, none⟩ u0).setCell ⟨G, 1, none⟩ u1).setCell ⟨G, 2, none⟩ u2).setCell ⟨G, 3, none⟩ u3).setCell ⟨G, 4, none⟩ u4).setCell ⟨G, 5, none⟩ u5) v n xs := by
  have g0 := set_heap w G 0 _ _ u0 hG
  have g1 := set_heap _ G 1 _ _ u1 g0
  have g2 := set_heap _ G 2 _ _ u2 g1
  have g3 := set_heap _ G 3 _ _ u3 g2
  have g4 := set_heap _ G 4 _ _ u4 g3
  exact own_rd (own_one (own_one (own_one (own_one (own_one (own_one h hG) g0) g1) g2) g3) g4)
set_option maxHeartbeats 16000000 in
set_option maxRecDepth 100000 in
theorem region9 {wr : World} {g an c1 JN N M : Nat} {a1 : Option Addr} {c xa xn xb xm pa pn pb pm : Int} {xh ph : ByteArray} {xr pr : List Rw} {J1 : List Hk} {k KW : Nat} {df : List Deferred} {Q : Exit → Act → World → Prop}
    {s0 s2 s4 s5 s6 s7 s8 s9 s10 s12 s13 s14 s15 s16 s17 s18 s19 s20 s21 s22 s23 s24 s25 s26 s27 s28 s29 s30 s31 s32 s33 s34 s35 s36 s37 s38 s39 s40 s41 s42 s43 s44 s45 s46 s47 s48 s49 s50 s51 s52 s53 s54 s55 s56 s57 s58 s59 s60 s61 s62 s63 s64 s65 s66 s67 s68 s69 s70 s71 s72 s73 s74 s75 s76 s77 s78 s79 s80 s81 s82 s83 s84 s85 s86 s87 s88 s89 s90 s91 s92 s93 s94 s95 s96 s97 s98 s99 s100 s101 s102 s103 s104 s105 s106 s107 s108 s109 s110 s111 s112 s113 s114 s115 s116 s117 s118 s119 s120 s121 s122 s123 s124 s125 s126 s127 s128 s129 s130 s131 s132 s133 s134 s135 s136 s137 s138 s139 s140 s141 s142 s143 s144 s145 s146 s147 s148 s149 s150 s151 s152 s153 s154 s155 s156 s157 s158 s159 s160 s161 s162 s163 s164 s165 s166 s167 s168 s169 s170 s171 s172 s173 s174 s175 s176 s177 s178 s179 s180 s181 s182 s183 s184 s185 s186 s187 s188 s189 s190 s191 s192 s193 s194 s195 s196 s197 s198 s199 s200 : Value}
    (hTW : ∀ w1, Below wr.heap.size wr w1 → Calls Tryz.prog 21 #[s7] w1 fun e w' => ∃ v', e = .returned v' ∧ OwnH w' w1.heap.size v' J1 ∧ Below w1.heap.size w1 w')
    (hWA : ∀ w1 v1, RdW w1 v1 xr → Below wr.heap.size wr w1 → Calls Tryz.prog 16 #[.agg #[.int .i64 xa, .int .i64 xn, .int .i64 xb, .int .i64 xm, .string xh, v1], .slice a1 an c1, .int .i64 c] w1 fun e w' => ∃ v', e = .returned (.tuple #[.agg #[.int .i64 pa, .int .i64 pn, .int .i64 pb, .int .i64 pm, .string ph, v'], errV KW]) ∧ OwnW w' w1.heap.size v' pr ∧ Below w1.heap.size w1 w')
    (hkx : J1[k]? = some ⟨xa, xn, xb, xm, xh, xr⟩) (hjn : JN = J1.length) (hnx : N = xr.length) (hmx : M = pr.length) (k1 : wr.cell? ⟨g, 1, none⟩ = some (.slice a1 an c1)) (i1 : (0 : Int) ≤ (k : Int)) (i2 : (k : Int) < (JN : Int))
    (h : ∀ (x69 x70 x71 x72 x73 x74 x75 x76 x77 x78 x79 x80 : Value) (G : Nat) (a4 : Option Addr) (c4 : Nat) (wc : World), Below wr.heap.size wr wc → wc.heap[G]? = some (.cells #[.int .i64 pa, .int .i64 pn, .int .i64 pb, .int .i64 pm, .string ph, .slice a4 M c4] 37) → RdW wc (.slice a4 M c4) pr → wr.heap.size ≤ G → Q .normal ⟨#[s0, .int .i64 c, s2, .pointer (some ⟨g, 0, none⟩), s4, s5, s6, s7, s8, s9, s10, .int .i64 (k : Nat), .pointer (some ⟨G, 0, none⟩), errV KW, s14, s15, s16, s17, s18, s19, s20, s21, s22, s23, s24, s25, s26, s27, s28, s29, s30, s31, s32, s33, s34, s35, s36, s37, s38, s39, s40, s41, s42, s43, s44, s45, s46, s47, s48, s49, s50, s51, s52, s53, s54, s55, s56, s57, s58, s59, s60, s61, s62, s63, s64, s65, s66, s67, s68, x69, x70, x71, x72, x73, x74, x75, x76, x77, x78, x79, x80, s81, s82, s83, s84, s85, s86, s87, s88, s89, s90, s91, s92, s93, s94, s95, s96, s97, s98, s99, s100, s101, s102, s103, s104, s105, s106, s107, s108, s109, s110, s111, s112, s113, s114, s115, s116, s117, s118, s119, s120, s121, s122, s123, s124, s125, s126, s127, s128, s129, s130, s131, s132, s133, s134, s135, s136, s137, s138, s139, s140, s141, s142, s143, s144, s145, s146, s147, s148, s149, s150, s151, s152, s153, s154, s155, s156, s157, s158, s159, s160, s161, s162, s163, s164, s165, s166, s167, s168, s169, s170, s171, s172, s173, s174, s175, s176, s177, s178, s179, s180, s181, s182, s183, s184, s185, s186, s187, s188, s189, s190, s191, s192, s193, s194, s195, s196, s197, s198, s199, s200], df⟩ wc) :
    (Code.region 9 #[{ dst := some 70, op := Op.move (Operand.tmp 7), type := 26, pos := "law.go:300", after := #[], guard := none }, { dst := some 71, op := Op.call { callee := Callee.value (Operand.func 21), args := #[Operand.tmp 70], argTypes := #[26] }, type := 26, pos := "law.go:300", after := #[{ on := 0, ground := Ground.data }], guard := none }, { dst := some 72, op := Op.move (Operand.tmp 11), type := 3, pos := "law.go:300", after := #[], guard := none }, { dst := some 73, op := Op.indexAddr 26 (Operand.tmp 71) (Operand.tmp 72), type := 0, pos := "law.go:300", after := #[{ on := 1, ground := Ground.data }, { on := 2, ground := Ground.data }], guard := none }, { dst := some 74, op := Op.load 37 (Operand.tmp 73), type := 37, pos := "law.go:300", after := #[{ on := 3, ground := Ground.data }], guard := none }, { dst := some 75, op := Op.fieldAddr 25 (Operand.tmp 3) 1, type := 0, pos := "law.go:300", after := #[], guard := none }, { dst := some 76, op := Op.load 23 (Operand.tmp 75), type := 23, pos := "law.go:300", after := #[{ on := 5, ground := Ground.data }], guard := none }, { dst := some 77, op := Op.move (Operand.tmp 1), type := 3, pos := "law.go:300", after := #[], guard := none }, { dst := some 78, op := Op.call { callee := Callee.value (Operand.func 16), args := #[Operand.tmp 74, Operand.tmp 76, Operand.tmp 77], argTypes := #[37, 23, 3] }, type := 46, pos := "law.go:300", after := #[{ on := 4, ground := Ground.data }, { on := 6, ground := Ground.data }, { on := 7, ground := Ground.data }, { on := 1, ground := Ground.chain }], guard := none }, { dst := some 69, op := Op.move (Operand.tmp 78), type := 46, pos := "law.go:300", after := #[{ on := 8, ground := Ground.data }], guard := none }, { dst := some 79, op := Op.extract (Operand.tmp 69) 0, type := 37, pos := "law.go:300", after := #[{ on := 9, ground := Ground.data }], guard := none }, { dst := some 80, op := Op.extract (Operand.tmp 69) 1, type := 28, pos := "law.go:300", after := #[{ on := 9, ground := Ground.data }, { on := 13, ground := Ground.gcOnly Departure.lateStores }], guard := none }, { dst := some 12, op := Op.alloc 37, type := 0, pos := "law.go:300", after := #[], guard := none }, { dst := none, op := Op.store 37 (Operand.tmp 12) (Operand.tmp 79), type := 0, pos := "law.go:300", after := #[{ on := 12, ground := Ground.data }, { on := 10, ground := Ground.data }, { on := 8, ground := Ground.chain }, { on := 0, ground := Ground.phase }, { on := 1, ground := Ground.phase }, { on := 2, ground := Ground.phase }, { on := 3, ground := Ground.phase }, { on := 4, ground := Ground.phase }, { on := 5, ground := Ground.phase }, { on := 6, ground := Ground.phase }, { on := 7, ground := Ground.phase }, { on := 8, ground := Ground.phase }, { on := 9, ground := Ground.phase }, { on := 10, ground := Ground.phase }, { on := 11, ground := Ground.textOnly Departure.lateStores }, { on := 12, ground := Ground.phase }], guard := none }, { dst := some 13, op := Op.assign (Operand.tmp 80), type := 28, pos := "law.go:300", after := #[{ on := 11, ground := Ground.data }, { on := 13, ground := Ground.chain }, { on := 0, ground := Ground.phase }, { on := 1, ground := Ground.phase }, { on := 2, ground := Ground.phase }, { on := 3, ground := Ground.phase }, { on := 4, ground := Ground.phase }, { on := 5, ground := Ground.phase }, { on := 6, ground := Ground.phase }, { on := 7, ground := Ground.phase }, { on := 8, ground := Ground.phase }, { on := 9, ground := Ground.phase }, { on := 10, ground := Ground.phase }, { on := 11, ground := Ground.phase }, { on := 12, ground := Ground.phase }, { on := 13, ground := Ground.phase }], guard := none }] true).wp Tryz.prog Q ⟨#[s0, .int .i64 c, s2, .pointer (some ⟨g, 0, none⟩), s4, s5, s6, s7, s8, s9, s10, .int .i64 (k : Nat), s12, s13, s14, s15, s16, s17, s18, s19, s20, s21, s22, s23, s24, s25, s26, s27, s28, s29, s30, s31, s32, s33, s34, s35, s36, s37, s38, s39, s40, s41, s42, s43, s44, s45, s46, s47, s48, s49, s50, s51, s52, s53, s54, s55, s56, s57, s58, s59, s60, s61, s62, s63, s64, s65, s66, s67, s68, s69, s70, s71, s72, s73, s74, s75, s76, s77, s78, s79, s80, s81, s82, s83, s84, s85, s86, s87, s88, s89, s90, s91, s92, s93, s94, s95, s96, s97, s98, s99, s100, s101, s102, s103, s104, s105, s106, s107, s108, s109, s110, s111, s112, s113, s114, s115, s116, s117, s118, s119, s120, s121, s122, s123, s124, s125, s126, s127, s128, s129, s130, s131, s132, s133, s134, s135, s136, s137, s138, s139, s140, s141, s142, s143, s144, s145, s146, s147, s148, s149, s150, s151, s152, s153, s154, s155, s156, s157, s158, s159, s160, s161, s162, s163, s164, s165, s166, s167, s168, s169, s170, s171, s172, s173, s174, s175, s176, s177, s178, s179, s180, s181, s182, s183, s184, s185, s186, s187, s188, s189, s190, s191, s192, s193, s194, s195, s196, s197, s198, s199, s200], df⟩ wr := by
  have HTW := hid hTW
  have HWA := hid hWA
  have HKX := hid hkx
  have HJN := hid hjn
  have HNX := hid hnx
  have HMX := hid hmx
  clear hTW hWA hkx hjn hnx hmx
  have HCz0 : Hid (Below wr.heap.size wr wr.drew) := hid (Below.refl wr.heap.size wr).drew
  refine wp_region_noPanic ?_
  refine wp_region_held_drew (S := fun w' => w'.cell? ⟨g, 1, none⟩ = some (.slice a1 an c1)) (by kernel_rfl) k1 (fun hHeld => ?_)
  have kSz0 : wr.drew.cell? ⟨g, 1, none⟩ = some (.slice a1 an c1) := k1
  clear hHeld
  generalize wr.drew = z0 at HCz0 kSz0 ⊢
  refine take_d (i := 0) (v := ?v1) 70 rfl rfl (by kernel_rfl) (by kernel_rfl) (by kernel_rfl) (fun _ _ _ h => h) (Or.inl ⟨by rfl, fun ww hSw => ?y1⟩) kSz0 ?r1
  case y1 => (dsimp only at hSw; go_simp; all_goals with_reducible rfl)
  try simp only [List.setIfInBounds_toArray]
  try simp only [List.set]
  refine take_d (i := 2) (v := ?v2) 72 rfl rfl (by kernel_rfl) (by kernel_rfl) (by kernel_rfl) (fun _ _ _ h => h) (Or.inl ⟨by rfl, fun ww hSw => ?y2⟩) kSz0 ?r2
  case y2 => (dsimp only at hSw; go_simp; all_goals with_reducible rfl)
  try simp only [List.setIfInBounds_toArray]
  try simp only [List.set]
  refine take_d (i := 5) (v := ?v3) 75 rfl rfl (by kernel_rfl) (by kernel_rfl) (by kernel_rfl) (fun _ _ _ h => h) (Or.inl ⟨by rfl, fun ww hSw => ?y3⟩) kSz0 ?r3
  case y3 => (dsimp only at hSw; go_simp; all_goals with_reducible rfl)
  try simp only [List.setIfInBounds_toArray]
  try simp only [List.set]
  refine take_d (i := 6) (v := ?v4) 76 rfl rfl (by kernel_rfl) (by kernel_rfl) (by kernel_rfl) (fun _ _ _ h => h) (Or.inl ⟨by rfl, fun ww hSw => ?y4⟩) kSz0 ?r4
  case y4 => (dsimp only at hSw; go_simp; all_goals with_reducible rfl)
  try simp only [List.setIfInBounds_toArray]
  try simp only [List.set]
  refine take_d (i := 7) (v := ?v5) 77 rfl rfl (by kernel_rfl) (by kernel_rfl) (by kernel_rfl) (fun _ _ _ h => h) (Or.inl ⟨by rfl, fun ww hSw => ?y5⟩) kSz0 ?r5
  case y5 => (dsimp only at hSw; go_simp; all_goals with_reducible rfl)
  try simp only [List.setIfInBounds_toArray]
  try simp only [List.set]
  refine wpAnyH_ready (rs := [1, 12]) (by kernel_rfl) (by simp) ?_
  refine AllReadyH.cons rfl (fun K hK => ?_) (AllReadyH.cons rfl (fun K hK => ?_) AllReadyH.nil)
  · go_simp
    refine (HTW.out _ HCz0.out).mono ?_
    rintro e z6 ⟨v6, rfl, hO6, hbz6⟩
    obtain ⟨b6, o6, u6, n6, cp6, e6', hn6, hb6, q0z6, q1z6, q2z6, q3z6, q4z6, q5z6, hu6⟩ := rdH_at6 hO6.rd HKX.out
    rw [← HJN.out] at hn6
    subst hn6
    subst e6'
    dsimp only at q0z6 q1z6 q2z6 q3z6 q4z6 q5z6 hu6
    obtain ⟨t6, s6, e6'⟩ := hu6.shape
    rw [← HNX.out] at e6'
    subst e6'
    have HRz6 := hid hu6
    have HCz6 : Hid (Below wr.heap.size wr z6) := hid (HCz0.out.trans (hbz6.mono HCz0.out.size))
    have kSz6 : z6.cell? ⟨g, 1, none⟩ = some (.slice a1 an c1) := (hbz6.cell (lt_of_cell kSz0)).trans kSz0
    clear hO6 hu6 hb6 hbz6
    clear kSz0
    go_wp2_with fail
    refine hK.out _ _ kSz6 (fun hHeld => ?_)
    clear hK K hHeld
    try simp only [Act.put]
    try simp only [List.setIfInBounds_toArray]
    try simp only [List.set]
    refine take_d (i := 3) (v := ?v7) 73 rfl rfl (by kernel_rfl) (by kernel_rfl) (by kernel_rfl) (fun _ _ _ h => h) (Or.inl ⟨by rfl, fun ww hSw => ?y7⟩) kSz6 ?r7
    case y7 => (dsimp only at hSw; go_simp; all_goals with_reducible rfl)
    try simp only [List.setIfInBounds_toArray]
    try simp only [List.set]
    refine wpAnyH_ready (rs := [4, 12]) (by kernel_rfl) (by simp) ?_
    refine AllReadyH.cons rfl (fun K hK => ?_) (AllReadyH.cons rfl (fun K hK => ?_) AllReadyH.nil)
    · go_simp
      refine hK.out _ _ kSz6 (fun hHeld => ?_)
      clear hK K hHeld
      try simp only [Act.put]
      try simp only [List.setIfInBounds_toArray]
      try simp only [List.set]
      refine wpAnyH_ready (rs := [8, 12]) (by kernel_rfl) (by simp) ?_
      refine AllReadyH.cons rfl (fun K hK => ?_) (AllReadyH.cons rfl (fun K hK => ?_) AllReadyH.nil)
      · go_simp
        refine (HWA.out _ _ HRz6.out HCz6.out).mono ?_
        rintro e z9 ⟨v7, rfl, hO7, hbz9⟩
        obtain ⟨a7, c7, e7⟩ := own_shape hO7
        rw [← HMX.out] at e7
        subst e7
        have HXz9 := hid hO7
        have HCz9 : Hid (Below wr.heap.size wr z9) := hid (HCz6.out.trans (hbz9.mono HCz6.out.size))
        have kSz9 : z9.cell? ⟨g, 1, none⟩ = some (.slice a1 an c1) := (hbz9.cell (lt_of_cell kSz6)).trans kSz6
        have q0z9 : z9.cell? ⟨b6, o6 + k * 6, none⟩ = some (.int .i64 xa) := (hbz9.cell (lt_of_cell q0z6)).trans q0z6
        have q1z9 : z9.cell? ⟨b6, o6 + k * 6 + 1, none⟩ = some (.int .i64 xn) := (hbz9.cell (lt_of_cell q1z6)).trans q1z6
        have q2z9 : z9.cell? ⟨b6, o6 + k * 6 + 2, none⟩ = some (.int .i64 xb) := (hbz9.cell (lt_of_cell q2z6)).trans q2z6
        have q3z9 : z9.cell? ⟨b6, o6 + k * 6 + 3, none⟩ = some (.int .i64 xm) := (hbz9.cell (lt_of_cell q3z6)).trans q3z6
        have q4z9 : z9.cell? ⟨b6, o6 + k * 6 + 4, none⟩ = some (.string xh) := (hbz9.cell (lt_of_cell q4z6)).trans q4z6
        have q5z9 : z9.cell? ⟨b6, o6 + k * 6 + 5, none⟩ = some (.slice t6 N s6) := (hbz9.cell (lt_of_cell q5z6)).trans q5z6
        have HRz9 := hid (HRz6.out.below hbz9)
        clear hO7 hbz9
        clear kSz6 q0z6 q1z6 q2z6 q3z6 q4z6 q5z6 HRz6
        go_wp2_with fail
        refine hK.out _ _ kSz9 (fun hHeld => ?_)
        clear hK K hHeld
        try simp only [Act.put]
        try simp only [List.setIfInBounds_toArray]
        try simp only [List.set]
        refine take_d (i := 9) (v := ?v10) 69 rfl rfl (by kernel_rfl) (by kernel_rfl) (by kernel_rfl) (fun _ _ _ h => h) (Or.inl ⟨by rfl, fun ww hSw => ?y10⟩) kSz9 ?r10
        case y10 => (dsimp only at hSw; go_simp; all_goals with_reducible rfl)
        try simp only [List.setIfInBounds_toArray]
        try simp only [List.set]
        refine take_d (i := 10) (v := ?v11) 79 rfl rfl (by kernel_rfl) (by kernel_rfl) (by kernel_rfl) (fun _ _ _ h => h) (Or.inl ⟨by rfl, fun ww hSw => ?y11⟩) kSz9 ?r11
        case y11 => (dsimp only at hSw; go_simp; all_goals with_reducible rfl)
        try simp only [List.setIfInBounds_toArray]
        try simp only [List.set]
        refine take_d (i := 11) (v := ?v12) 80 rfl rfl (by kernel_rfl) (by kernel_rfl) (by kernel_rfl) (fun _ _ _ h => h) (Or.inl ⟨by rfl, fun ww hSw => ?y12⟩) kSz9 ?r12
        case y12 => (dsimp only at hSw; go_simp; all_goals with_reducible rfl)
        try simp only [List.setIfInBounds_toArray]
        try simp only [List.set]
        refine wpAnyH_ready (rs := [12]) (by kernel_rfl) (by simp) ?_
        refine AllReadyH.cons rfl (fun K hK => ?_) AllReadyH.nil
        go_simp
        have hbz13 := (Below.refl z9.heap.size z9).alloc (Nat.le_refl _) (.cells #[.int .i64 0, .int .i64 0, .int .i64 0, .int .i64 0, .string ⟨#[]⟩, .slice none 0 0] 37)
        have hkz13 := heap_alloc_new z9 (.cells #[.int .i64 0, .int .i64 0, .int .i64 0, .int .i64 0, .string ⟨#[]⟩, .slice none 0 0] 37)
        obtain ⟨G13, hG13⟩ : ∃ G, G = z9.heap.size := ⟨_, rfl⟩
        rw [← hG13] at hkz13 ⊢
        have HL13 : Hid (wr.heap.size ≤ G13) := hid (by rw [hG13]; exact HCz9.out.size)
        generalize z9.alloc (.cells #[.int .i64 0, .int .i64 0, .int .i64 0, .int .i64 0, .string ⟨#[]⟩, .slice none 0 0] 37) = z13 at hbz13 hkz13 ⊢
        have HGz13 := hid hkz13
        have HCz13 : Hid (Below wr.heap.size wr z13) := hid (HCz9.out.trans (hbz13.mono HCz9.out.size))
        have kSz13 : z13.cell? ⟨g, 1, none⟩ = some (.slice a1 an c1) := (hbz13.cell (lt_of_cell kSz9)).trans kSz9
        have q0z13 : z13.cell? ⟨b6, o6 + k * 6, none⟩ = some (.int .i64 xa) := (hbz13.cell (lt_of_cell q0z9)).trans q0z9
        have q1z13 : z13.cell? ⟨b6, o6 + k * 6 + 1, none⟩ = some (.int .i64 xn) := (hbz13.cell (lt_of_cell q1z9)).trans q1z9
        have q2z13 : z13.cell? ⟨b6, o6 + k * 6 + 2, none⟩ = some (.int .i64 xb) := (hbz13.cell (lt_of_cell q2z9)).trans q2z9
        have q3z13 : z13.cell? ⟨b6, o6 + k * 6 + 3, none⟩ = some (.int .i64 xm) := (hbz13.cell (lt_of_cell q3z9)).trans q3z9
        have q4z13 : z13.cell? ⟨b6, o6 + k * 6 + 4, none⟩ = some (.string xh) := (hbz13.cell (lt_of_cell q4z9)).trans q4z9
        have q5z13 : z13.cell? ⟨b6, o6 + k * 6 + 5, none⟩ = some (.slice t6 N s6) := (hbz13.cell (lt_of_cell q5z9)).trans q5z9
        have HRz13 := hid (HRz9.out.below hbz13)
        have HXz13 := hid (own_stays HXz9.out hbz13)
        clear hbz13 hkz13 hG13
        clear kSz9 q0z9 q1z9 q2z9 q3z9 q4z9 q5z9 HRz9 HXz9
        refine hK.out _ _ kSz13 (fun hHeld => ?_)
        clear hK K hHeld
        try simp only [Act.put]
        try simp only [List.setIfInBounds_toArray]
        try simp only [List.set]
        refine wpAnyH_ready (rs := [13]) (by kernel_rfl) (by simp) ?_
        refine AllReadyH.cons rfl (fun K hK => ?_) AllReadyH.nil
        have r0 := cell_there HGz13.out (show 0 < 6 by omega)
        have r1 := cell_there HGz13.out (show 1 < 6 by omega)
        have r2 := cell_there HGz13.out (show 2 < 6 by omega)
        have r3 := cell_there HGz13.out (show 3 < 6 by omega)
        have r4 := cell_there HGz13.out (show 4 < 6 by omega)
        have r5 := cell_there HGz13.out (show 5 < 6 by omega)
        have rf : ∀ q, z13.frozen? ⟨G13, q, none⟩ = false := fun q => frozen_of_blk HGz13.out q
        go_wp2_with fail
        have hs := six_set (u0 := .int .i64 pa) (u1 := .int .i64 pn) (u2 := .int .i64 pb) (u3 := .int .i64 pm) (u4 := .string ph) (u5 := .slice a7 M c7) HGz13.out
        have hbS : Below wr.heap.size wr ((((((z13.setCell ⟨G13, 0, none⟩ (.int .i64 pa)).setCell ⟨G13, 1, none⟩ (.int .i64 pn)).setCell ⟨G13, 2, none⟩ (.int .i64 pb)).setCell ⟨G13, 3, none⟩ (.int .i64 pm)).setCell ⟨G13, 4, none⟩ (.string ph)).setCell ⟨G13, 5, none⟩ (.slice a7 M c7)) := six_below HCz13.out HL13.out
        have hXS := six_rdw (u0 := .int .i64 pa) (u1 := .int .i64 pn) (u2 := .int .i64 pb) (u3 := .int .i64 pm) (u4 := .string ph) (u5 := .slice a7 M c7) HXz13.out HGz13.out
        generalize ((((((z13.setCell ⟨G13, 0, none⟩ (.int .i64 pa)).setCell ⟨G13, 1, none⟩ (.int .i64 pn)).setCell ⟨G13, 2, none⟩ (.int .i64 pb)).setCell ⟨G13, 3, none⟩ (.int .i64 pm)).setCell ⟨G13, 4, none⟩ (.string ph)).setCell ⟨G13, 5, none⟩ (.slice a7 M c7)) = z14 at hs hbS hXS ⊢
        have HSz14 := hid hs
        have HCz14 := hid hbS
        have HXz14 : Hid (RdW z14 (.slice a7 M c7) pr) := hid (by rw [← HMX.out] at hXS; show RdX _ _ pr.length _; rw [← HMX.out]; exact hXS)
        have kSz14 : z14.cell? ⟨g, 1, none⟩ = some (.slice a1 an c1) := (hbS.cell (lt_of_cell k1)).trans k1
        clear hs hbS hXS rf r0 r1 r2 r3 r4 r5
        refine hK.out _ _ kSz14 (fun hHeld => ?_)
        clear hK K hHeld
        try simp only [Act.put]
        try simp only [List.setIfInBounds_toArray]
        try simp only [List.set]
        refine take_d (i := 14) (v := ?v15) 13 rfl rfl (by kernel_rfl) (by kernel_rfl) (by kernel_rfl) (fun _ _ _ h => h) (Or.inl ⟨by rfl, fun ww hSw => ?y15⟩) kSz14 ?r15
        case y15 => (dsimp only at hSw; go_simp; all_goals with_reducible rfl)
        try simp only [List.setIfInBounds_toArray]
        try simp only [List.set]
        refine wpAnyH_done (by kernel_rfl) ?_ _
        refine NoPanic.normal ?_
        exact h _ _ _ _ _ _ _ _ _ _ _ _ G13 a7 c7 _ HCz14.out HSz14.out HXz14.out HL13.out
      · go_simp
        have hbz16 := (Below.refl z6.heap.size z6).alloc (Nat.le_refl _) (.cells #[.int .i64 0, .int .i64 0, .int .i64 0, .int .i64 0, .string ⟨#[]⟩, .slice none 0 0] 37)
        have hkz16 := heap_alloc_new z6 (.cells #[.int .i64 0, .int .i64 0, .int .i64 0, .int .i64 0, .string ⟨#[]⟩, .slice none 0 0] 37)
        obtain ⟨G16, hG16⟩ : ∃ G, G = z6.heap.size := ⟨_, rfl⟩
        rw [← hG16] at hkz16 ⊢
        have HL16 : Hid (wr.heap.size ≤ G16) := hid (by rw [hG16]; exact HCz6.out.size)
        generalize z6.alloc (.cells #[.int .i64 0, .int .i64 0, .int .i64 0, .int .i64 0, .string ⟨#[]⟩, .slice none 0 0] 37) = z16 at hbz16 hkz16 ⊢
        have HGz16 := hid hkz16
        have HCz16 : Hid (Below wr.heap.size wr z16) := hid (HCz6.out.trans (hbz16.mono HCz6.out.size))
        have kSz16 : z16.cell? ⟨g, 1, none⟩ = some (.slice a1 an c1) := (hbz16.cell (lt_of_cell kSz6)).trans kSz6
        have q0z16 : z16.cell? ⟨b6, o6 + k * 6, none⟩ = some (.int .i64 xa) := (hbz16.cell (lt_of_cell q0z6)).trans q0z6
        have q1z16 : z16.cell? ⟨b6, o6 + k * 6 + 1, none⟩ = some (.int .i64 xn) := (hbz16.cell (lt_of_cell q1z6)).trans q1z6
        have q2z16 : z16.cell? ⟨b6, o6 + k * 6 + 2, none⟩ = some (.int .i64 xb) := (hbz16.cell (lt_of_cell q2z6)).trans q2z6
        have q3z16 : z16.cell? ⟨b6, o6 + k * 6 + 3, none⟩ = some (.int .i64 xm) := (hbz16.cell (lt_of_cell q3z6)).trans q3z6
        have q4z16 : z16.cell? ⟨b6, o6 + k * 6 + 4, none⟩ = some (.string xh) := (hbz16.cell (lt_of_cell q4z6)).trans q4z6
        have q5z16 : z16.cell? ⟨b6, o6 + k * 6 + 5, none⟩ = some (.slice t6 N s6) := (hbz16.cell (lt_of_cell q5z6)).trans q5z6
        have HRz16 := hid (HRz6.out.below hbz16)
        clear hbz16 hkz16 hG16
        clear kSz6 q0z6 q1z6 q2z6 q3z6 q4z6 q5z6 HRz6
        refine hK.out _ _ kSz16 (fun hHeld => ?_)
        clear hK K hHeld
        try simp only [Act.put]
        try simp only [List.setIfInBounds_toArray]
        try simp only [List.set]
        refine wpAnyH_ready (rs := [8]) (by kernel_rfl) (by simp) ?_
        refine AllReadyH.cons rfl (fun K hK => ?_) AllReadyH.nil
        go_simp
        refine (HWA.out _ _ HRz16.out HCz16.out).mono ?_
        rintro e z17 ⟨v7, rfl, hO7, hbz17⟩
        obtain ⟨a7, c7, e7⟩ := own_shape hO7
        rw [← HMX.out] at e7
        subst e7
        have HXz17 := hid hO7
        have HCz17 : Hid (Below wr.heap.size wr z17) := hid (HCz16.out.trans (hbz17.mono HCz16.out.size))
        have kSz17 : z17.cell? ⟨g, 1, none⟩ = some (.slice a1 an c1) := (hbz17.cell (lt_of_cell kSz16)).trans kSz16
        have q0z17 : z17.cell? ⟨b6, o6 + k * 6, none⟩ = some (.int .i64 xa) := (hbz17.cell (lt_of_cell q0z16)).trans q0z16
        have q1z17 : z17.cell? ⟨b6, o6 + k * 6 + 1, none⟩ = some (.int .i64 xn) := (hbz17.cell (lt_of_cell q1z16)).trans q1z16
        have q2z17 : z17.cell? ⟨b6, o6 + k * 6 + 2, none⟩ = some (.int .i64 xb) := (hbz17.cell (lt_of_cell q2z16)).trans q2z16
        have q3z17 : z17.cell? ⟨b6, o6 + k * 6 + 3, none⟩ = some (.int .i64 xm) := (hbz17.cell (lt_of_cell q3z16)).trans q3z16
        have q4z17 : z17.cell? ⟨b6, o6 + k * 6 + 4, none⟩ = some (.string xh) := (hbz17.cell (lt_of_cell q4z16)).trans q4z16
        have q5z17 : z17.cell? ⟨b6, o6 + k * 6 + 5, none⟩ = some (.slice t6 N s6) := (hbz17.cell (lt_of_cell q5z16)).trans q5z16
        have HRz17 := hid (HRz16.out.below hbz17)
        have HGz17 := hid ((hbz17.block G16 (lt_of_heap HGz16.out)).trans HGz16.out)
        clear hO7 hbz17
        clear kSz16 q0z16 q1z16 q2z16 q3z16 q4z16 q5z16 HRz16 HGz16
        go_wp2_with fail
        refine hK.out _ _ kSz17 (fun hHeld => ?_)
        clear hK K hHeld
        try simp only [Act.put]
        try simp only [List.setIfInBounds_toArray]
        try simp only [List.set]
        refine take_d (i := 9) (v := ?v18) 69 rfl rfl (by kernel_rfl) (by kernel_rfl) (by kernel_rfl) (fun _ _ _ h => h) (Or.inl ⟨by rfl, fun ww hSw => ?y18⟩) kSz17 ?r18
        case y18 => (dsimp only at hSw; go_simp; all_goals with_reducible rfl)
        try simp only [List.setIfInBounds_toArray]
        try simp only [List.set]
        refine take_d (i := 10) (v := ?v19) 79 rfl rfl (by kernel_rfl) (by kernel_rfl) (by kernel_rfl) (fun _ _ _ h => h) (Or.inl ⟨by rfl, fun ww hSw => ?y19⟩) kSz17 ?r19
        case y19 => (dsimp only at hSw; go_simp; all_goals with_reducible rfl)
        try simp only [List.setIfInBounds_toArray]
        try simp only [List.set]
        refine take_d (i := 11) (v := ?v20) 80 rfl rfl (by kernel_rfl) (by kernel_rfl) (by kernel_rfl) (fun _ _ _ h => h) (Or.inl ⟨by rfl, fun ww hSw => ?y20⟩) kSz17 ?r20
        case y20 => (dsimp only at hSw; go_simp; all_goals with_reducible rfl)
        try simp only [List.setIfInBounds_toArray]
        try simp only [List.set]
        refine wpAnyH_ready (rs := [13]) (by kernel_rfl) (by simp) ?_
        refine AllReadyH.cons rfl (fun K hK => ?_) AllReadyH.nil
        have r0 := cell_there HGz17.out (show 0 < 6 by omega)
        have r1 := cell_there HGz17.out (show 1 < 6 by omega)
        have r2 := cell_there HGz17.out (show 2 < 6 by omega)
        have r3 := cell_there HGz17.out (show 3 < 6 by omega)
        have r4 := cell_there HGz17.out (show 4 < 6 by omega)
        have r5 := cell_there HGz17.out (show 5 < 6 by omega)
        have rf : ∀ q, z17.frozen? ⟨G16, q, none⟩ = false := fun q => frozen_of_blk HGz17.out q
        go_wp2_with fail
        have hs := six_set (u0 := .int .i64 pa) (u1 := .int .i64 pn) (u2 := .int .i64 pb) (u3 := .int .i64 pm) (u4 := .string ph) (u5 := .slice a7 M c7) HGz17.out
        have hbS : Below wr.heap.size wr ((((((z17.setCell ⟨G16, 0, none⟩ (.int .i64 pa)).setCell ⟨G16, 1, none⟩ (.int .i64 pn)).setCell ⟨G16, 2, none⟩ (.int .i64 pb)).setCell ⟨G16, 3, none⟩ (.int .i64 pm)).setCell ⟨G16, 4, none⟩ (.string ph)).setCell ⟨G16, 5, none⟩ (.slice a7 M c7)) := six_below HCz17.out HL16.out
        have hXS := six_rdw (u0 := .int .i64 pa) (u1 := .int .i64 pn) (u2 := .int .i64 pb) (u3 := .int .i64 pm) (u4 := .string ph) (u5 := .slice a7 M c7) HXz17.out HGz17.out
        generalize ((((((z17.setCell ⟨G16, 0, none⟩ (.int .i64 pa)).setCell ⟨G16, 1, none⟩ (.int .i64 pn)).setCell ⟨G16, 2, none⟩ (.int .i64 pb)).setCell ⟨G16, 3, none⟩ (.int .i64 pm)).setCell ⟨G16, 4, none⟩ (.string ph)).setCell ⟨G16, 5, none⟩ (.slice a7 M c7)) = z21 at hs hbS hXS ⊢
        have HSz21 := hid hs
        have HCz21 := hid hbS
        have HXz21 : Hid (RdW z21 (.slice a7 M c7) pr) := hid (by rw [← HMX.out] at hXS; show RdX _ _ pr.length _; rw [← HMX.out]; exact hXS)
        have kSz21 : z21.cell? ⟨g, 1, none⟩ = some (.slice a1 an c1) := (hbS.cell (lt_of_cell k1)).trans k1
        clear hs hbS hXS rf r0 r1 r2 r3 r4 r5
        refine hK.out _ _ kSz21 (fun hHeld => ?_)
        clear hK K hHeld
        try simp only [Act.put]
        try simp only [List.setIfInBounds_toArray]
        try simp only [List.set]
        refine take_d (i := 14) (v := ?v22) 13 rfl rfl (by kernel_rfl) (by kernel_rfl) (by kernel_rfl) (fun _ _ _ h => h) (Or.inl ⟨by rfl, fun ww hSw => ?y22⟩) kSz21 ?r22
        case y22 => (dsimp only at hSw; go_simp; all_goals with_reducible rfl)
        try simp only [List.setIfInBounds_toArray]
        try simp only [List.set]
        refine wpAnyH_done (by kernel_rfl) ?_ _
        refine NoPanic.normal ?_
        exact h _ _ _ _ _ _ _ _ _ _ _ _ G16 a7 c7 _ HCz21.out HSz21.out HXz21.out HL16.out
    · go_simp
      have hbz23 := (Below.refl z6.heap.size z6).alloc (Nat.le_refl _) (.cells #[.int .i64 0, .int .i64 0, .int .i64 0, .int .i64 0, .string ⟨#[]⟩, .slice none 0 0] 37)
      have hkz23 := heap_alloc_new z6 (.cells #[.int .i64 0, .int .i64 0, .int .i64 0, .int .i64 0, .string ⟨#[]⟩, .slice none 0 0] 37)
      obtain ⟨G23, hG23⟩ : ∃ G, G = z6.heap.size := ⟨_, rfl⟩
      rw [← hG23] at hkz23 ⊢
      have HL23 : Hid (wr.heap.size ≤ G23) := hid (by rw [hG23]; exact HCz6.out.size)
      generalize z6.alloc (.cells #[.int .i64 0, .int .i64 0, .int .i64 0, .int .i64 0, .string ⟨#[]⟩, .slice none 0 0] 37) = z23 at hbz23 hkz23 ⊢
      have HGz23 := hid hkz23
      have HCz23 : Hid (Below wr.heap.size wr z23) := hid (HCz6.out.trans (hbz23.mono HCz6.out.size))
      have kSz23 : z23.cell? ⟨g, 1, none⟩ = some (.slice a1 an c1) := (hbz23.cell (lt_of_cell kSz6)).trans kSz6
      have q0z23 : z23.cell? ⟨b6, o6 + k * 6, none⟩ = some (.int .i64 xa) := (hbz23.cell (lt_of_cell q0z6)).trans q0z6
      have q1z23 : z23.cell? ⟨b6, o6 + k * 6 + 1, none⟩ = some (.int .i64 xn) := (hbz23.cell (lt_of_cell q1z6)).trans q1z6
      have q2z23 : z23.cell? ⟨b6, o6 + k * 6 + 2, none⟩ = some (.int .i64 xb) := (hbz23.cell (lt_of_cell q2z6)).trans q2z6
      have q3z23 : z23.cell? ⟨b6, o6 + k * 6 + 3, none⟩ = some (.int .i64 xm) := (hbz23.cell (lt_of_cell q3z6)).trans q3z6
      have q4z23 : z23.cell? ⟨b6, o6 + k * 6 + 4, none⟩ = some (.string xh) := (hbz23.cell (lt_of_cell q4z6)).trans q4z6
      have q5z23 : z23.cell? ⟨b6, o6 + k * 6 + 5, none⟩ = some (.slice t6 N s6) := (hbz23.cell (lt_of_cell q5z6)).trans q5z6
      have HRz23 := hid (HRz6.out.below hbz23)
      clear hbz23 hkz23 hG23
      clear kSz6 q0z6 q1z6 q2z6 q3z6 q4z6 q5z6 HRz6
      refine hK.out _ _ kSz23 (fun hHeld => ?_)
      clear hK K hHeld
      try simp only [Act.put]
      try simp only [List.setIfInBounds_toArray]
      try simp only [List.set]
      refine wpAnyH_ready (rs := [4]) (by kernel_rfl) (by simp) ?_
      refine AllReadyH.cons rfl (fun K hK => ?_) AllReadyH.nil
      go_simp
      refine hK.out _ _ kSz23 (fun hHeld => ?_)
      clear hK K hHeld
      try simp only [Act.put]
      try simp only [List.setIfInBounds_toArray]
      try simp only [List.set]
      refine wpAnyH_ready (rs := [8]) (by kernel_rfl) (by simp) ?_
      refine AllReadyH.cons rfl (fun K hK => ?_) AllReadyH.nil
      go_simp
      refine (HWA.out _ _ HRz23.out HCz23.out).mono ?_
      rintro e z25 ⟨v7, rfl, hO7, hbz25⟩
      obtain ⟨a7, c7, e7⟩ := own_shape hO7
      rw [← HMX.out] at e7
      subst e7
      have HXz25 := hid hO7
      have HCz25 : Hid (Below wr.heap.size wr z25) := hid (HCz23.out.trans (hbz25.mono HCz23.out.size))
      have kSz25 : z25.cell? ⟨g, 1, none⟩ = some (.slice a1 an c1) := (hbz25.cell (lt_of_cell kSz23)).trans kSz23
      have q0z25 : z25.cell? ⟨b6, o6 + k * 6, none⟩ = some (.int .i64 xa) := (hbz25.cell (lt_of_cell q0z23)).trans q0z23
      have q1z25 : z25.cell? ⟨b6, o6 + k * 6 + 1, none⟩ = some (.int .i64 xn) := (hbz25.cell (lt_of_cell q1z23)).trans q1z23
      have q2z25 : z25.cell? ⟨b6, o6 + k * 6 + 2, none⟩ = some (.int .i64 xb) := (hbz25.cell (lt_of_cell q2z23)).trans q2z23
      have q3z25 : z25.cell? ⟨b6, o6 + k * 6 + 3, none⟩ = some (.int .i64 xm) := (hbz25.cell (lt_of_cell q3z23)).trans q3z23
      have q4z25 : z25.cell? ⟨b6, o6 + k * 6 + 4, none⟩ = some (.string xh) := (hbz25.cell (lt_of_cell q4z23)).trans q4z23
      have q5z25 : z25.cell? ⟨b6, o6 + k * 6 + 5, none⟩ = some (.slice t6 N s6) := (hbz25.cell (lt_of_cell q5z23)).trans q5z23
      have HRz25 := hid (HRz23.out.below hbz25)
      have HGz25 := hid ((hbz25.block G23 (lt_of_heap HGz23.out)).trans HGz23.out)
      clear hO7 hbz25
      clear kSz23 q0z23 q1z23 q2z23 q3z23 q4z23 q5z23 HRz23 HGz23
      go_wp2_with fail
      refine hK.out _ _ kSz25 (fun hHeld => ?_)
      clear hK K hHeld
      try simp only [Act.put]
      try simp only [List.setIfInBounds_toArray]
      try simp only [List.set]
      refine take_d (i := 9) (v := ?v26) 69 rfl rfl (by kernel_rfl) (by kernel_rfl) (by kernel_rfl) (fun _ _ _ h => h) (Or.inl ⟨by rfl, fun ww hSw => ?y26⟩) kSz25 ?r26
      case y26 => (dsimp only at hSw; go_simp; all_goals with_reducible rfl)
      try simp only [List.setIfInBounds_toArray]
      try simp only [List.set]
      refine take_d (i := 10) (v := ?v27) 79 rfl rfl (by kernel_rfl) (by kernel_rfl) (by kernel_rfl) (fun _ _ _ h => h) (Or.inl ⟨by rfl, fun ww hSw => ?y27⟩) kSz25 ?r27
      case y27 => (dsimp only at hSw; go_simp; all_goals with_reducible rfl)
      try simp only [List.setIfInBounds_toArray]
      try simp only [List.set]
      refine take_d (i := 11) (v := ?v28) 80 rfl rfl (by kernel_rfl) (by kernel_rfl) (by kernel_rfl) (fun _ _ _ h => h) (Or.inl ⟨by rfl, fun ww hSw => ?y28⟩) kSz25 ?r28
      case y28 => (dsimp only at hSw; go_simp; all_goals with_reducible rfl)
      try simp only [List.setIfInBounds_toArray]
      try simp only [List.set]
      refine wpAnyH_ready (rs := [13]) (by kernel_rfl) (by simp) ?_
      refine AllReadyH.cons rfl (fun K hK => ?_) AllReadyH.nil
      have r0 := cell_there HGz25.out (show 0 < 6 by omega)
      have r1 := cell_there HGz25.out (show 1 < 6 by omega)
      have r2 := cell_there HGz25.out (show 2 < 6 by omega)
      have r3 := cell_there HGz25.out (show 3 < 6 by omega)
      have r4 := cell_there HGz25.out (show 4 < 6 by omega)
      have r5 := cell_there HGz25.out (show 5 < 6 by omega)
      have rf : ∀ q, z25.frozen? ⟨G23, q, none⟩ = false := fun q => frozen_of_blk HGz25.out q
      go_wp2_with fail
      have hs := six_set (u0 := .int .i64 pa) (u1 := .int .i64 pn) (u2 := .int .i64 pb) (u3 := .int .i64 pm) (u4 := .string ph) (u5 := .slice a7 M c7) HGz25.out
      have hbS : Below wr.heap.size wr ((((((z25.setCell ⟨G23, 0, none⟩ (.int .i64 pa)).setCell ⟨G23, 1, none⟩ (.int .i64 pn)).setCell ⟨G23, 2, none⟩ (.int .i64 pb)).setCell ⟨G23, 3, none⟩ (.int .i64 pm)).setCell ⟨G23, 4, none⟩ (.string ph)).setCell ⟨G23, 5, none⟩ (.slice a7 M c7)) := six_below HCz25.out HL23.out
      have hXS := six_rdw (u0 := .int .i64 pa) (u1 := .int .i64 pn) (u2 := .int .i64 pb) (u3 := .int .i64 pm) (u4 := .string ph) (u5 := .slice a7 M c7) HXz25.out HGz25.out
      generalize ((((((z25.setCell ⟨G23, 0, none⟩ (.int .i64 pa)).setCell ⟨G23, 1, none⟩ (.int .i64 pn)).setCell ⟨G23, 2, none⟩ (.int .i64 pb)).setCell ⟨G23, 3, none⟩ (.int .i64 pm)).setCell ⟨G23, 4, none⟩ (.string ph)).setCell ⟨G23, 5, none⟩ (.slice a7 M c7)) = z29 at hs hbS hXS ⊢
      have HSz29 := hid hs
      have HCz29 := hid hbS
      have HXz29 : Hid (RdW z29 (.slice a7 M c7) pr) := hid (by rw [← HMX.out] at hXS; show RdX _ _ pr.length _; rw [← HMX.out]; exact hXS)
      have kSz29 : z29.cell? ⟨g, 1, none⟩ = some (.slice a1 an c1) := (hbS.cell (lt_of_cell k1)).trans k1
      clear hs hbS hXS rf r0 r1 r2 r3 r4 r5
      refine hK.out _ _ kSz29 (fun hHeld => ?_)
      clear hK K hHeld
      try simp only [Act.put]
      try simp only [List.setIfInBounds_toArray]
      try simp only [List.set]
      refine take_d (i := 14) (v := ?v30) 13 rfl rfl (by kernel_rfl) (by kernel_rfl) (by kernel_rfl) (fun _ _ _ h => h) (Or.inl ⟨by rfl, fun ww hSw => ?y30⟩) kSz29 ?r30
      case y30 => (dsimp only at hSw; go_simp; all_goals with_reducible rfl)
      try simp only [List.setIfInBounds_toArray]
      try simp only [List.set]
      refine wpAnyH_done (by kernel_rfl) ?_ _
      refine NoPanic.normal ?_
      exact h _ _ _ _ _ _ _ _ _ _ _ _ G23 a7 c7 _ HCz29.out HSz29.out HXz29.out HL23.out
  · go_simp
    have hbz31 := (Below.refl z0.heap.size z0).alloc (Nat.le_refl _) (.cells #[.int .i64 0, .int .i64 0, .int .i64 0, .int .i64 0, .string ⟨#[]⟩, .slice none 0 0] 37)
    have hkz31 := heap_alloc_new z0 (.cells #[.int .i64 0, .int .i64 0, .int .i64 0, .int .i64 0, .string ⟨#[]⟩, .slice none 0 0] 37)
    obtain ⟨G31, hG31⟩ : ∃ G, G = z0.heap.size := ⟨_, rfl⟩
    rw [← hG31] at hkz31 ⊢
    have HL31 : Hid (wr.heap.size ≤ G31) := hid (by rw [hG31]; exact HCz0.out.size)
    generalize z0.alloc (.cells #[.int .i64 0, .int .i64 0, .int .i64 0, .int .i64 0, .string ⟨#[]⟩, .slice none 0 0] 37) = z31 at hbz31 hkz31 ⊢
    have HGz31 := hid hkz31
    have HCz31 : Hid (Below wr.heap.size wr z31) := hid (HCz0.out.trans (hbz31.mono HCz0.out.size))
    have kSz31 : z31.cell? ⟨g, 1, none⟩ = some (.slice a1 an c1) := (hbz31.cell (lt_of_cell kSz0)).trans kSz0
    clear hbz31 hkz31 hG31
    clear kSz0
    refine hK.out _ _ kSz31 (fun hHeld => ?_)
    clear hK K hHeld
    try simp only [Act.put]
    try simp only [List.setIfInBounds_toArray]
    try simp only [List.set]
    refine wpAnyH_ready (rs := [1]) (by kernel_rfl) (by simp) ?_
    refine AllReadyH.cons rfl (fun K hK => ?_) AllReadyH.nil
    go_simp
    refine (HTW.out _ HCz31.out).mono ?_
    rintro e z32 ⟨v6, rfl, hO6, hbz32⟩
    obtain ⟨b6, o6, u6, n6, cp6, e6', hn6, hb6, q0z32, q1z32, q2z32, q3z32, q4z32, q5z32, hu6⟩ := rdH_at6 hO6.rd HKX.out
    rw [← HJN.out] at hn6
    subst hn6
    subst e6'
    dsimp only at q0z32 q1z32 q2z32 q3z32 q4z32 q5z32 hu6
    obtain ⟨t6, s6, e6'⟩ := hu6.shape
    rw [← HNX.out] at e6'
    subst e6'
    have HRz32 := hid hu6
    have HCz32 : Hid (Below wr.heap.size wr z32) := hid (HCz31.out.trans (hbz32.mono HCz31.out.size))
    have kSz32 : z32.cell? ⟨g, 1, none⟩ = some (.slice a1 an c1) := (hbz32.cell (lt_of_cell kSz31)).trans kSz31
    have HGz32 := hid ((hbz32.block G31 (lt_of_heap HGz31.out)).trans HGz31.out)
    clear hO6 hu6 hb6 hbz32
    clear kSz31 HGz31
    go_wp2_with fail
    refine hK.out _ _ kSz32 (fun hHeld => ?_)
    clear hK K hHeld
    try simp only [Act.put]
    try simp only [List.setIfInBounds_toArray]
    try simp only [List.set]
    refine take_d (i := 3) (v := ?v33) 73 rfl rfl (by kernel_rfl) (by kernel_rfl) (by kernel_rfl) (fun _ _ _ h => h) (Or.inl ⟨by rfl, fun ww hSw => ?y33⟩) kSz32 ?r33
    case y33 => (dsimp only at hSw; go_simp; all_goals with_reducible rfl)
    try simp only [List.setIfInBounds_toArray]
    try simp only [List.set]
    refine wpAnyH_ready (rs := [4]) (by kernel_rfl) (by simp) ?_
    refine AllReadyH.cons rfl (fun K hK => ?_) AllReadyH.nil
    go_simp
    refine hK.out _ _ kSz32 (fun hHeld => ?_)
    clear hK K hHeld
    try simp only [Act.put]
    try simp only [List.setIfInBounds_toArray]
    try simp only [List.set]
    refine wpAnyH_ready (rs := [8]) (by kernel_rfl) (by simp) ?_
    refine AllReadyH.cons rfl (fun K hK => ?_) AllReadyH.nil
    go_simp
    refine (HWA.out _ _ HRz32.out HCz32.out).mono ?_
    rintro e z35 ⟨v7, rfl, hO7, hbz35⟩
    obtain ⟨a7, c7, e7⟩ := own_shape hO7
    rw [← HMX.out] at e7
    subst e7
    have HXz35 := hid hO7
    have HCz35 : Hid (Below wr.heap.size wr z35) := hid (HCz32.out.trans (hbz35.mono HCz32.out.size))
    have kSz35 : z35.cell? ⟨g, 1, none⟩ = some (.slice a1 an c1) := (hbz35.cell (lt_of_cell kSz32)).trans kSz32
    have q0z35 : z35.cell? ⟨b6, o6 + k * 6, none⟩ = some (.int .i64 xa) := (hbz35.cell (lt_of_cell q0z32)).trans q0z32
    have q1z35 : z35.cell? ⟨b6, o6 + k * 6 + 1, none⟩ = some (.int .i64 xn) := (hbz35.cell (lt_of_cell q1z32)).trans q1z32
    have q2z35 : z35.cell? ⟨b6, o6 + k * 6 + 2, none⟩ = some (.int .i64 xb) := (hbz35.cell (lt_of_cell q2z32)).trans q2z32
    have q3z35 : z35.cell? ⟨b6, o6 + k * 6 + 3, none⟩ = some (.int .i64 xm) := (hbz35.cell (lt_of_cell q3z32)).trans q3z32
    have q4z35 : z35.cell? ⟨b6, o6 + k * 6 + 4, none⟩ = some (.string xh) := (hbz35.cell (lt_of_cell q4z32)).trans q4z32
    have q5z35 : z35.cell? ⟨b6, o6 + k * 6 + 5, none⟩ = some (.slice t6 N s6) := (hbz35.cell (lt_of_cell q5z32)).trans q5z32
    have HRz35 := hid (HRz32.out.below hbz35)
    have HGz35 := hid ((hbz35.block G31 (lt_of_heap HGz32.out)).trans HGz32.out)
    clear hO7 hbz35
    clear kSz32 q0z32 q1z32 q2z32 q3z32 q4z32 q5z32 HRz32 HGz32
    go_wp2_with fail
    refine hK.out _ _ kSz35 (fun hHeld => ?_)
    clear hK K hHeld
    try simp only [Act.put]
    try simp only [List.setIfInBounds_toArray]
    try simp only [List.set]
    refine take_d (i := 9) (v := ?v36) 69 rfl rfl (by kernel_rfl) (by kernel_rfl) (by kernel_rfl) (fun _ _ _ h => h) (Or.inl ⟨by rfl, fun ww hSw => ?y36⟩) kSz35 ?r36
    case y36 => (dsimp only at hSw; go_simp; all_goals with_reducible rfl)
    try simp only [List.setIfInBounds_toArray]
    try simp only [List.set]
    refine take_d (i := 10) (v := ?v37) 79 rfl rfl (by kernel_rfl) (by kernel_rfl) (by kernel_rfl) (fun _ _ _ h => h) (Or.inl ⟨by rfl, fun ww hSw => ?y37⟩) kSz35 ?r37
    case y37 => (dsimp only at hSw; go_simp; all_goals with_reducible rfl)
    try simp only [List.setIfInBounds_toArray]
    try simp only [List.set]
    refine take_d (i := 11) (v := ?v38) 80 rfl rfl (by kernel_rfl) (by kernel_rfl) (by kernel_rfl) (fun _ _ _ h => h) (Or.inl ⟨by rfl, fun ww hSw => ?y38⟩) kSz35 ?r38
    case y38 => (dsimp only at hSw; go_simp; all_goals with_reducible rfl)
    try simp only [List.setIfInBounds_toArray]
    try simp only [List.set]
    refine wpAnyH_ready (rs := [13]) (by kernel_rfl) (by simp) ?_
    refine AllReadyH.cons rfl (fun K hK => ?_) AllReadyH.nil
    have r0 := cell_there HGz35.out (show 0 < 6 by omega)
    have r1 := cell_there HGz35.out (show 1 < 6 by omega)
    have r2 := cell_there HGz35.out (show 2 < 6 by omega)
    have r3 := cell_there HGz35.out (show 3 < 6 by omega)
    have r4 := cell_there HGz35.out (show 4 < 6 by omega)
    have r5 := cell_there HGz35.out (show 5 < 6 by omega)
    have rf : ∀ q, z35.frozen? ⟨G31, q, none⟩ = false := fun q => frozen_of_blk HGz35.out q
    go_wp2_with fail
    have hs := six_set (u0 := .int .i64 pa) (u1 := .int .i64 pn) (u2 := .int .i64 pb) (u3 := .int .i64 pm) (u4 := .string ph) (u5 := .slice a7 M c7) HGz35.out
    have hbS : Below wr.heap.size wr ((((((z35.setCell ⟨G31, 0, none⟩ (.int .i64 pa)).setCell ⟨G31, 1, none⟩ (.int .i64 pn)).setCell ⟨G31, 2, none⟩ (.int .i64 pb)).setCell ⟨G31, 3, none⟩ (.int .i64 pm)).setCell ⟨G31, 4, none⟩ (.string ph)).setCell ⟨G31, 5, none⟩ (.slice a7 M c7)) := six_below HCz35.out HL31.out
    have hXS := six_rdw (u0 := .int .i64 pa) (u1 := .int .i64 pn) (u2 := .int .i64 pb) (u3 := .int .i64 pm) (u4 := .string ph) (u5 := .slice a7 M c7) HXz35.out HGz35.out
    generalize ((((((z35.setCell ⟨G31, 0, none⟩ (.int .i64 pa)).setCell ⟨G31, 1, none⟩ (.int .i64 pn)).setCell ⟨G31, 2, none⟩ (.int .i64 pb)).setCell ⟨G31, 3, none⟩ (.int .i64 pm)).setCell ⟨G31, 4, none⟩ (.string ph)).setCell ⟨G31, 5, none⟩ (.slice a7 M c7)) = z39 at hs hbS hXS ⊢
    have HSz39 := hid hs
    have HCz39 := hid hbS
    have HXz39 : Hid (RdW z39 (.slice a7 M c7) pr) := hid (by rw [← HMX.out] at hXS; show RdX _ _ pr.length _; rw [← HMX.out]; exact hXS)
    have kSz39 : z39.cell? ⟨g, 1, none⟩ = some (.slice a1 an c1) := (hbS.cell (lt_of_cell k1)).trans k1
    clear hs hbS hXS rf r0 r1 r2 r3 r4 r5
    refine hK.out _ _ kSz39 (fun hHeld => ?_)
    clear hK K hHeld
    try simp only [Act.put]
    try simp only [List.setIfInBounds_toArray]
    try simp only [List.set]
    refine take_d (i := 14) (v := ?v40) 13 rfl rfl (by kernel_rfl) (by kernel_rfl) (by kernel_rfl) (fun _ _ _ h => h) (Or.inl ⟨by rfl, fun ww hSw => ?y40⟩) kSz39 ?r40
    case y40 => (dsimp only at hSw; go_simp; all_goals with_reducible rfl)
    try simp only [List.setIfInBounds_toArray]
    try simp only [List.set]
    refine wpAnyH_done (by kernel_rfl) ?_ _
    refine NoPanic.normal ?_
    exact h _ _ _ _ _ _ _ _ _ _ _ _ G31 a7 c7 _ HCz39.out HSz39.out HXz39.out HL31.out
end Go.Proofs.YtddmfdjkkikapaaGreatDoor
