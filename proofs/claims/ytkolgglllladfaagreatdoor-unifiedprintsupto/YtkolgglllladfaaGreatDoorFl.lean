/-
  Unified diffs: the program's readHunk.
-/
import Derived.Test.YtkolgglllladfaaGreatDoorFg
import Derived.Test.YtkolgglllladfaaGreatDoorFk
import Derived.Test.YtkolgglllladfaaGreatDoorGrC4
import Derived.Laws.Tables
namespace Go.Proofs.YtkolgglllladfaaGreatDoor
open Go.RowKit
open Hu (Rw Hk)

/-- a whole struct written: its block holds it, all else is as it was -/
theorem wpList_stA {ops : Array Oper} {rest : List Oper} {o : Oper} {a : Act} {W : World} {Q : Exit → Act → World → Prop} {x y : Operand} (T : TypeId) (cs : Array Value) (ho : o.op = .store T x y) (hgd : o.guard = none) {g : Nat} {old : Array Value} (hg : W.heap[g]? = some (.cells old T)) (hsz : (Tryz.prog.info? T).map (·.size) = some cs.size) (hs : old.size = cs.size) (hall : cs.toList.all (·.oneCell') = true) (hx : a.eval x = .pointer (some ⟨g, 0, none⟩)) (hy : a.eval y = .agg cs)
    (hh : ∀ W', W'.heap[g]? = some (.cells cs T) → Kept (fun j => j = g) W W' → wpList Tryz.prog ops Q rest (a.put o.dst undef) W') : wpList Tryz.prog ops Q (o :: rest) a W :=
  wpList_plain hgd fun _ hK => by
    unfold Oper.wp execOp
    have hst : (Instr.storeAt T (.pointer (some ⟨g, 0, none⟩)) (.agg cs)).run Tryz.prog W = .ok () (W.setRow g cs) := by
      simp only [Instr.storeAt, Instr.sureAddr, Sem.run_bind, Sem.run_pure, Result.andThen_ok, run_storeVar_row W g _ _ _ cs hg hsz hs (by rw [← Array.all_toList]; exact hall)]
    simp only [ho, hx, hy, Sem.run_bind, hst, Result.andThen_ok]
    exact hK _ _ (hh _ (setRow_heap W g _ _ _ hg) ⟨rfl, rfl, rfl, by rw [setRow_size]; exact Nat.le_refl _, fun j _ hj => setRow_other W _ hj⟩)
theorem Tryz.sizeHk : (Tryz.prog.info? 37).map (·.size) = some 6 := by kernel_rfl
theorem KeptR.new {R g : Nat} {w W W' : World} (h : KeptR R w W) (hk : Kept (fun j => j = g) W W') (hg : w.heap.size ≤ g) : KeptR R w W' :=
  ⟨hk.os.trans h.os, hk.tape.trans h.tape, hk.output.trans h.output, Nat.le_trans h.size hk.size, fun j hj hx => (hk.block j (Nat.lt_of_lt_of_le hj h.size) (by omega)).trans (h.block j hj hx)⟩
theorem KeptR.cellSet {R g : Nat} {w W : World} (h : KeptR R w W) (hg : w.heap.size ≤ g) (k : Nat) (u : Value) : KeptR R w (W.setCell ⟨g, k, none⟩ u) :=
  ⟨h.os, h.tape, h.output, by simp only [World.setCell, Array.size_modify]; exact h.size, fun j hj hx => by
    rw [← h.block j hj hx]
    have hne : g ≠ j := by omega
    simp [World.setCell, Array.getElem?_modify, hne]⟩
theorem RdrAt.setOther {w : World} {R c g k : Nat} {x : ByteArray} {u : Value} (h : RdrAt w R c x) (hne : g ≠ R) : RdrAt (w.setCell ⟨g, k, none⟩ u) R c x := by
  unfold RdrAt at h ⊢
  rw [← h]
  simp [World.setCell, Array.getElem?_modify, hne]
theorem LibV.kept {w w' : World} {R : Nat} (h : LibV w) (hk : KeptR R w w') (hR : 5 ≤ R) : LibV w' := by
  obtain ⟨⟨m, hm⟩, ⟨e1, h1, k1⟩, e2, h2, k2⟩ := h
  have hc : ∀ g, g < 5 → ∀ v, w.cell? ⟨g, 0, none⟩ = some v → w'.cell? ⟨g, 0, none⟩ = some v := fun g hg v hv => (Kept.cell hk (lt_of_cell hv) (by omega)).trans hv
  exact ⟨⟨m, hc 1 (by omega) _ hm⟩, ⟨e1, hc 3 (by omega) _ h1, k1⟩, e2, hc 4 (by omega) _ h2, k2⟩
theorem LibV.big {w : World} (h : LibV w) : 5 ≤ w.heap.size := by
  obtain ⟨e2, h2, _⟩ := h.rng
  have := lt_of_cell h2
  omega
/-- readPlace, by what it reads -/
theorem readPlace_two {w : World} {s : ByteArray} (hs : s.size < 4294967281) (hv : LibV w) :
    Calls Tryz.prog 58 #[.string s] w fun e w' => Below w.heap.size w w' ∧ ((Un.placeP s.data.toList = none ∧ ∃ (a n b m : Int) (h : ByteArray), e = .returned (.tuple #[.agg #[.int .i64 a, .int .i64 n, .int .i64 b, .int .i64 m, .string h, .slice none 0 0], .bool false])) ∨
      ∃ p, Un.placeP s.data.toList = some p ∧ e = .returned (.tuple #[.agg #[.int .i64 (p.a : Nat), .int .i64 (p.n : Nat), .int .i64 (p.b : Nat), .int .i64 (p.m : Nat), .string (bB p.head), .slice none 0 0], .bool true])) := by
  refine (readPlace_any hs hv).mono ?_
  rintro e w' ⟨rfl, hb⟩
  refine ⟨hb, ?_⟩
  rw [Un.place_P]
  cases h1 : Un.pB s.data.toList with
  | false => exact .inl ⟨rfl, _, _, _, _, _, rfl⟩
  | true =>
    cases h2 : (Un.rgB (Un.pO s.data.toList) && Un.rgB (Un.pF s.data.toList)) with
    | false => exact .inl ⟨by simp, _, _, _, _, _, rfl⟩
    | true => exact .inr ⟨_, rfl, rfl⟩
theorem numP_le {l : Un.Bs} {n : Nat} (h : Un.numP l = some n) : n ≤ 2147483647 := by
  unfold Un.numP at h
  split at h
  · rename_i hh; cases h; exact hh.2.2
  · cases h
theorem rngP_le {l : Un.Bs} {a n : Nat} (h : Un.rngP l = some (a, n)) : a ≤ 2147483647 ∧ n ≤ 2147483647 := by
  unfold Un.rngP at h
  split at h
  · split at h
    · rename_i p q hp hq
      simp only [Option.some.injEq, Prod.mk.injEq] at h
      obtain ⟨rfl, rfl⟩ := h
      exact ⟨numP_le hp, numP_le hq⟩
    · cases h
  · cases hp : Un.numP _ with
    | none => rw [hp] at h; cases h
    | some p =>
      rw [hp] at h
      simp only [Option.map_some, Option.some.injEq, Prod.mk.injEq] at h
      obtain ⟨rfl, rfl⟩ := h
      exact ⟨numP_le hp, by omega⟩
theorem placeP_le {l : Un.Bs} {p : Un.Plc} (h : Un.placeP l = some p) : p.a ≤ 2147483647 ∧ p.n ≤ 2147483647 ∧ p.b ≤ 2147483647 ∧ p.m ≤ 2147483647 := by
  unfold Un.placeP at h
  split at h
  · cases h
  · split at h
    · cases h
    · split at h
      · rename_i o q _ ho hq
        cases h
        have h1 := rngP_le ho
        have h2 := rngP_le hq
        exact ⟨h1.1, h1.2, h2.1, h2.2⟩
      · cases h
theorem wp_region_class {id : Nat} {C : World → Prop} {Q : Exit → Act → World → Prop} {a : Act} {w : World} {l : List Oper} (hm : Tryz.prog.follows .mixedOrders = true) (hB : Region.lexB .any l.toArray = true) (hC : C w.drew)
    (h : wpQuiet Tryz.prog l.toArray C (fun a' => ∀ w', C w' → Q .normal a' w') l a) : (Code.region id l.toArray true).wp Tryz.prog Q a w :=
  wp_region_quiet (C := C) hm hB hC (by simpa using h)
theorem setRow_same {W : World} {g : Nat} {cs : Array Value} {T : TypeId} (h : W.heap[g]? = some (.cells cs T)) : W.setRow g cs = W := by
  have hh : (W.setRow g cs).heap = W.heap := by
    apply Array.ext_getElem?
    intro j
    by_cases hj : j = g
    · rw [hj, setRow_heap W g _ _ _ h, h]
    · exact setRow_other W _ hj
  have hw : W.setRow g cs = { W with heap := (W.setRow g cs).heap } := rfl
  rw [hw, hh]
theorem own_ne {w : World} {B n size x : Nat} {e t : TypeId} {v : Value} {xs : List Value} {cs : Array Value} (h : w.ownsRow B e size v n xs) (hx : w.heap[x]? = some (.cells cs t)) (hne : e ≠ t) : v.ownBlock ≠ some x := by
  intro e9
  rcases h.2 with ⟨hv, _⟩ | ⟨g, cap, cur, hv, _, hh, _⟩
  · subst hv; cases e9
  · subst hv
    have e2 : g = x := Option.some.inj e9
    subst e2
    rw [hh] at hx
    injection hx with e3
    injection e3 with _ e4 _
    exact hne e4
theorem own_setOther {w : World} {B n sz V k : Nat} {e : TypeId} {v u : Value} {xs : List Value} (h : w.ownsRow B e sz v n xs) (hne : ∀ g, v.ownBlock = some g → g ≠ V) : (w.setCell ⟨V, k, none⟩ u).ownsRow B e sz v n xs :=
  own_far h fun g hg => by
    have := (hne g hg).symm
    simp [World.setCell, Array.getElem?_modify, this]
/-- a store of what is there already, within a quiet walk -/
theorem quiet_stA {C : World → Prop} {W : World} {o : Oper} {f : Operand → Value} {x y : Operand} (T : TypeId) (cs : Array Value) (ho : o.op = .store T x y) {g : Nat} (hg : W.heap[g]? = some (.cells cs T)) (hsz : (Tryz.prog.info? T).map (·.size) = some cs.size) (hall : cs.toList.all (·.oneCell') = true) (hx : f x = .pointer (some ⟨g, 0, none⟩)) (hy : f y = .agg cs) :
    Oper.quietUpon Tryz.prog C W undef ((execOp f o).run Tryz.prog W) := by
  have hst : (Instr.storeAt T (.pointer (some ⟨g, 0, none⟩)) (.agg cs)).run Tryz.prog W = .ok () (W.setRow g cs) := by
    simp only [Instr.storeAt, Instr.sureAddr, Sem.run_bind, Sem.run_pure, Result.andThen_ok, run_storeVar_row W g _ _ _ cs hg hsz rfl (by rw [← Array.all_toList]; exact hall)]
  unfold execOp
  simp only [ho, hx, hy, Sem.run_bind, hst, Result.andThen_ok]
  exact ⟨setRow_same hg, rfl⟩
/-- worlds in which the reader stands and the answer is empty -/
def ClsH (w : World) (R c G : Nat) (x : ByteArray) (w' : World) : Prop := RdrAt w' R c x ∧ Below w.heap.size w w' ∧ w'.heap[G]? = some (.cells #[.int .i64 0, .int .i64 0, .int .i64 0, .int .i64 0, .string ⟨#[]⟩, .slice none 0 0] 37)
def ClsK (w : World) (R c G : Nat) (x : ByteArray) (w' : World) : Prop := RdrAt w' R c x ∧ KeptR R w w' ∧ w'.heap[G]? = some (.cells #[.int .i64 0, .int .i64 0, .int .i64 0, .int .i64 0, .string ⟨#[]⟩, .slice none 0 0] 37)
/-- what readHunk answers -/
def HunkAns (w w' : World) (R c c' : Nat) (x x' : ByteArray) (e : Ending) : Prop :=
  RdrAt w' R c' x' ∧ KeptR R w w' ∧ c ≤ c' ∧ c' + x'.size ≤ c + x.size ∧ x'.size ≤ x.size ∧ x'.data.toList = Un.advN (c' - c) x.data.toList ∧
    ((Un.placeP (Un.bare (Un.nx x.data.toList)) = none ∧ c' = c ∧ e = .returned (.tuple #[.agg #[.int .i64 0, .int .i64 0, .int .i64 0, .int .i64 0, .string ⟨#[]⟩, .slice none 0 0], .int .i64 c, .iface 42 (.int .i64 100)])) ∨
     (∃ p, Un.placeP (Un.bare (Un.nx x.data.toList)) = some p ∧ Un.rowsP (Un.lns (Un.adv x.data.toList)) p.n p.m (c + 1) = .bad c' ∧ e = .returned (.tuple #[.agg #[.int .i64 0, .int .i64 0, .int .i64 0, .int .i64 0, .string ⟨#[]⟩, .slice none 0 0], .int .i64 c', .iface 42 (.int .i64 111)])) ∨
     ∃ p rows v, Un.placeP (Un.bare (Un.nx x.data.toList)) = some p ∧ Un.rowsP (Un.lns (Un.adv x.data.toList)) p.n p.m (c + 1) = .ok rows (Un.lns x'.data.toList) c' ∧ e = .returned (.tuple #[HkV (Un.mkHk p rows) v, .int .i64 0, .nilIface]) ∧ c < c' ∧ OwnW w' w.heap.size v (rows.map Un.toR))
set_option maxHeartbeats 8000000 in
set_option maxRecDepth 100000 in
theorem readHunk_any {w : World} {R c : Nat} {x : ByteArray} (h : RdrAt w R c x) (hv : LibV w) (hs : x.size ≤ 4194304) (hc : c + x.size ≤ 5000000) (hne : x.data.toList ≠ []) :
    Calls Tryz.prog 30 #[.pointer (some ⟨R, 0, none⟩)] w fun e w' => ∃ c' x', HunkAns w w' R c c' x x' e := by
  have hR := h.lt
  have hbA := (Below.refl w.heap.size w).alloc (Nat.le_refl _) (.cells #[.int .i64 0, .int .i64 0, .int .i64 0, .int .i64 0, .string ⟨#[]⟩, .slice none 0 0] 37)
  have hkA := heap_alloc_new w (.cells #[.int .i64 0, .int .i64 0, .int .i64 0, .int .i64 0, .string ⟨#[]⟩, .slice none 0 0] 37)
  have hsz := nxB_size x
  have HN := hid (fun w1 (h1 : RdrAt w1 R c x) => next_any h1 hs)
  have HBR := hid (fun w1 => Cx.bare_any (nxB x) w1 (by unfold maxLen; omega))
  rw [bareB_eq, nxB_data] at HBR
  have hbl : (bB (Un.bare (Un.nx x.data.toList))).size ≤ (nxB x).size := by
    rw [← dsize, bB_data, ← nxB_data, ← dsize (nxB x)]
    unfold Un.bare
    split
    · rw [List.length_dropLast]; omega
    · exact Nat.le_refl _
  have HPL := hid (fun w1 (h1 : LibV w1) => readPlace_two (w := w1) (s := bB (Un.bare (Un.nx x.data.toList))) (by omega) h1)
  rw [bB_data] at HPL
  have hadv := Un.adv_lt hne
  rw [← advB_data, dsize, dsize] at hadv
  have HPS := hid (fun w1 (h1 : RdrAt w1 R c x) => pass_any h1 hs (by omega))
  have HRO := hid (fun w1 (h1 : RdrAt w1 R (c + 1) (advB x)) n m hn hm => readRows_any (n := n) (m := m) h1 (by omega) (by omega) hn hm)
  have HV := hid hv
  have HR0 := hid (h.below hbA)
  have HBA := hid hbA
  have HKA := hid hkA
  have hcA : (c : Int) ≤ 5000000 := by omega
  generalize hU : bB (Un.bare (Un.nx x.data.toList)) = U at HBR HPL
  clear h hv hbA hkA hbl hU
  obtain ⟨G, hG⟩ : ∃ G, G = w.heap.size := ⟨_, rfl⟩
  have HGW := hid hG
  go_enter Tryz.func30, Tryz.ntmps30
  go_wp2_with fail
  rw [← hG] at HKA ⊢
  clear hG
  generalize w.alloc (.cells #[.int .i64 0, .int .i64 0, .int .i64 0, .int .i64 0, .string ⟨#[]⟩, .slice none 0 0] 37) = w0 at HR0 HBA HKA ⊢
  refine (HN.out w0 HR0.out).mono ?_
  rintro e w1 ⟨rfl, rfl⟩
  go_wp2_with fail
  refine (HBR.out _).mono ?_
  rintro e w2 ⟨rfl, rfl⟩
  go_wp2_with fail
  refine (HPL.out _ (HV.out.below HBA.out)).mono ?_
  rintro e w3 ⟨hb3, hcase⟩
  have HB3 := hid (HBA.out.trans (hb3.mono HBA.out.size))
  have HR3 := hid (HR0.out.below hb3)
  have HK3 := hid ((hb3.block G (lt_of_heap HKA.out)).trans HKA.out)
  clear hb3 HN HBR HPL HBA HR0 HKA
  rcases hcase with ⟨hp, a1, n1, b1, m1, h1, rfl⟩ | ⟨p, hp, rfl⟩
  · have HP := hid hp
    have HBN := hid ((Below.refl w3.heap.size w3).alloc (Nat.le_refl _) (.cells #[.int .i64 a1, .int .i64 n1, .int .i64 b1, .int .i64 m1, .string h1, .slice none 0 0] 37))
    clear hp
    go_wp2_with fail
    have HB4 := hid (HB3.out.trans (HBN.out.mono HB3.out.size))
    have HR4 := hid (HR3.out.below HBN.out)
    have HK4 := hid ((HBN.out.block G (lt_of_heap HK3.out)).trans HK3.out)
    generalize w3.alloc (.cells #[.int .i64 a1, .int .i64 n1, .int .i64 b1, .int .i64 m1, .string h1, .slice none 0 0] 37) = w4 at HB4 HR4 HK4 ⊢
    clear HB3 HR3 HK3 HBN
    have d0 : w4.cell? ⟨R, 0, none⟩ = some (.int .i64 c) := cell_of_blk HR4.out 0
    have hGR : R ≠ G := by have := HGW.out; omega
    clear d0
    refine wp_region_class (C := ClsH w R c G x) (by kernel_rfl) (by kernel_rfl) ⟨HR4.out, HB4.out.drew, HK4.out⟩ ?_
    refine wpQuiet_step (fun K hK => ?_)
    go_simp
    refine ⟨_, fun _ _ => rfl, hK _ ?_⟩
    clear hK K
    refine wpQuiet_step (fun K hK => ?_)
    go_simp
    refine ⟨_, fun _ _ => rfl, hK _ ?_⟩
    clear hK K
    refine wpQuiet_step (fun K hK => ?_)
    go_simp
    refine ⟨_, fun _ _ => rfl, hK _ ?_⟩
    clear hK K
    refine wpQuiet_step (fun K hK => ?_)
    go_simp
    refine ⟨_, fun _ _ => rfl, hK _ ?_⟩
    clear hK K
    refine wpQuiet_step (fun K hK => ?_)
    rw [if_pos (by rfl)]
    refine ⟨.int .i64 c, fun w' hw' => ?_, hK _ ?_⟩
    · have c1 : w'.cell? ⟨R, 0, none⟩ = some (.int .i64 c) := cell_of_blk hw'.1 0
      go_simp
    clear hK K
    refine wpQuiet_step (fun K hK => ?_)
    go_simp
    refine ⟨_, fun _ _ => rfl, hK _ ?_⟩
    clear hK K
    refine wpQuiet_step (fun K hK => ?_)
    rw [if_pos (by rfl)]
    refine ⟨undef, fun w' hw' => ?_, hK _ ?_⟩
    · unfold Oper.quietAt
      exact quiet_stA 37 #[.int .i64 0, .int .i64 0, .int .i64 0, .int .i64 0, .string ⟨#[]⟩, .slice none 0 0] rfl hw'.2.2 Tryz.sizeHk rfl rfl rfl
    clear hK K
    refine wpQuiet_step (fun K hK => ?_)
    go_simp
    refine ⟨_, fun _ _ => rfl, hK _ ?_⟩
    clear hK K
    refine wpQuiet_step (fun K hK => ?_)
    go_simp
    refine ⟨_, fun _ _ => rfl, hK _ ?_⟩
    clear hK K
    refine wpQuiet_nil ?_
    rintro w6 ⟨hr6, hb6, hk6⟩
    have y0 : w6.cell? ⟨G, 0, none⟩ = some (.int .i64 0) := cell_of_blk hk6 0
    have y1 : w6.cell? ⟨G, 1, none⟩ = some (.int .i64 0) := cell_of_blk hk6 1
    have y2 : w6.cell? ⟨G, 2, none⟩ = some (.int .i64 0) := cell_of_blk hk6 2
    have y3 : w6.cell? ⟨G, 3, none⟩ = some (.int .i64 0) := cell_of_blk hk6 3
    have y4 : w6.cell? ⟨G, 4, none⟩ = some (.string ⟨#[]⟩) := cell_of_blk hk6 4
    have y5 : w6.cell? ⟨G, 5, none⟩ = some (.slice none 0 0) := cell_of_blk hk6 5
    have HR6 := hid hr6
    have HB6 := hid hb6
    clear hr6 hb6 hk6
    go_wp2_with fail
    exact bodyPost_ret (v := .tuple #[.agg #[.int .i64 0, .int .i64 0, .int .i64 0, .int .i64 0, .string ⟨#[]⟩, .slice none 0 0], .int .i64 c, .iface 42 (.int .i64 100)]) (by simp [results, Tryz.results30, go_sem, y0, y1, y2, y3, y4, y5]) rfl ⟨c, x, HR6.out, KeptR.of HB6.out, Nat.le_refl _, Nat.le_refl _, Nat.le_refl _, by rw [Nat.sub_self]; rfl, .inl ⟨HP.out, rfl, rfl⟩⟩
  · have HP := hid hp
    have hpl := placeP_le hp
    have HBN := hid ((Below.refl w3.heap.size w3).alloc (Nat.le_refl _) (.cells #[.int .i64 (p.a : Nat), .int .i64 (p.n : Nat), .int .i64 (p.b : Nat), .int .i64 (p.m : Nat), .string (bB p.head), .slice none 0 0] 37))
    have HKN := hid (heap_alloc_new w3 (.cells #[.int .i64 (p.a : Nat), .int .i64 (p.n : Nat), .int .i64 (p.b : Nat), .int .i64 (p.m : Nat), .string (bB p.head), .slice none 0 0] 37))
    obtain ⟨V, hV⟩ : ∃ V, V = w3.heap.size := ⟨_, rfl⟩
    clear hp
    go_wp2_with fail
    rw [← hV] at HKN ⊢
    have HVG : Hid (w.heap.size ≤ V ∧ V ≠ G ∧ V ≠ R) := hid (by
      have h1 := lt_of_heap HK3.out
      have h2 := HGW.out
      exact ⟨by omega, by omega, by omega⟩)
    have HB4 := hid (HB3.out.trans (HBN.out.mono HB3.out.size))
    have HR4 := hid (HR3.out.below HBN.out)
    have HK4 := hid ((HBN.out.block G (lt_of_heap HK3.out)).trans HK3.out)
    have HC4 : Hid (KeptR R w (w3.alloc (.cells #[.int .i64 (p.a : Nat), .int .i64 (p.n : Nat), .int .i64 (p.b : Nat), .int .i64 (p.m : Nat), .string (bB p.head), .slice none 0 0] 37))) := hid (KeptR.of HB4.out)
    generalize w3.alloc (.cells #[.int .i64 (p.a : Nat), .int .i64 (p.n : Nat), .int .i64 (p.b : Nat), .int .i64 (p.m : Nat), .string (bB p.head), .slice none 0 0] 37) = w4 at HB4 HR4 HK4 HKN HC4 ⊢
    clear HB3 HR3 HK3 HBN hV HB4
    refine (HPS.out w4 HR4.out).mono ?_
    rintro e w5 ⟨rfl, hr5, hk5⟩
    have HR5 := hid hr5
    have HK5 := hid ((hk5.block G (lt_of_heap HK4.out) (by have := HGW.out; omega)).trans HK4.out)
    have HN5 := hid ((hk5.block V (lt_of_heap HKN.out) HVG.out.2.2).trans HKN.out)
    have HC5 := hid (HC4.out.trans hk5)
    clear hr5 hk5 HR4 HK4 HKN HC4 HPS
    have v1 : w5.cell? ⟨V, 1, none⟩ = some (.int .i64 (p.n : Nat)) := cell_of_blk HN5.out 1
    have v3 : w5.cell? ⟨V, 3, none⟩ = some (.int .i64 (p.m : Nat)) := cell_of_blk HN5.out 3
    go_wp2_with fail
    refine (HRO.out w5 HR5.out p.n p.m hpl.2.1 hpl.2.2.2).mono ?_
    rintro e w6 ⟨c', x', hr6, hk6, hc1, hc2, hc3, hc4, hcase⟩
    have HR6 := hid hr6
    have HK6 := hid ((hk6.block G (lt_of_heap HK5.out) (by have := HGW.out; omega)).trans HK5.out)
    have HN6 := hid ((hk6.block V (lt_of_heap HN5.out) HVG.out.2.2).trans HN5.out)
    have HC6 := hid (HC5.out.trans hk6)
    have HS6 : Hid (w.heap.size ≤ w5.heap.size) := hid HC5.out.size
    have HA6 : Hid (c < c' ∧ c' + x'.size ≤ c + x.size ∧ x'.size ≤ x.size ∧ x'.data.toList = Un.advN (c' - c) x.data.toList) := hid ⟨by omega, by omega, by omega, by
      rw [hc4, advB_data, show c' - c = 1 + (c' - (c + 1)) by omega, Un.advN_add]
      rfl⟩
    clear hr6 hk6 hc1 hc2 hc3 hc4 HR5 HK5 HN5 HC5 HRO v1 v3
    have vf : w6.frozen? ⟨V, 5, none⟩ = false := frozR HN6.out 5
    have v5 : w6.cell? ⟨V, 5, none⟩ = some (.slice none 0 0) := cell_of_blk HN6.out 5
    rcases hcase with ⟨hbad, a, k, q, rfl⟩ | ⟨rows, hok, v, rfl, hO6⟩
    · have HBAD := hid hbad
      rw [advB_data] at HBAD
      clear hbad
      go_wp2_with fail
      have HR7 := hid (HR6.out.setOther (k := 5) (u := .slice a k q) HVG.out.2.2)
      have HK7 : Hid ((w6.setCell ⟨V, 5, none⟩ (.slice a k q)).heap[G]? = some (.cells #[.int .i64 0, .int .i64 0, .int .i64 0, .int .i64 0, .string ⟨#[]⟩, .slice none 0 0] 37)) := hid (by
        rw [← HK6.out]
        have hne := HVG.out.2.1
        simp [World.setCell, Array.getElem?_modify, hne])
      have HC7 := hid (HC6.out.cellSet HVG.out.1 5 (.slice a k q))
      generalize w6.setCell ⟨V, 5, none⟩ (.slice a k q) = w7 at HR7 HK7 HC7 ⊢
      clear HR6 HK6 HN6 HC6 vf v5
      refine wp_region_class (C := ClsK w R c' G x') (by kernel_rfl) (by kernel_rfl) ⟨HR7.out, HC7.out.drewN 1, HK7.out⟩ ?_
      refine wpQuiet_step (fun K hK => ?_)
      go_simp
      refine ⟨_, fun _ _ => rfl, hK _ ?_⟩
      clear hK K
      refine wpQuiet_step (fun K hK => ?_)
      go_simp
      refine ⟨_, fun _ _ => rfl, hK _ ?_⟩
      clear hK K
      refine wpQuiet_step (fun K hK => ?_)
      go_simp
      refine ⟨_, fun _ _ => rfl, hK _ ?_⟩
      clear hK K
      refine wpQuiet_step (fun K hK => ?_)
      go_simp
      refine ⟨_, fun _ _ => rfl, hK _ ?_⟩
      clear hK K
      refine wpQuiet_step (fun K hK => ?_)
      rw [if_pos (by rfl)]
      refine ⟨.int .i64 c', fun w' hw' => ?_, hK _ ?_⟩
      · have c1 : w'.cell? ⟨R, 0, none⟩ = some (.int .i64 c') := cell_of_blk hw'.1 0
        go_simp
      clear hK K
      refine wpQuiet_step (fun K hK => ?_)
      go_simp
      refine ⟨_, fun _ _ => rfl, hK _ ?_⟩
      clear hK K
      refine wpQuiet_step (fun K hK => ?_)
      rw [if_pos (by rfl)]
      refine ⟨undef, fun w' hw' => ?_, hK _ ?_⟩
      · unfold Oper.quietAt
        exact quiet_stA 37 #[.int .i64 0, .int .i64 0, .int .i64 0, .int .i64 0, .string ⟨#[]⟩, .slice none 0 0] rfl hw'.2.2 Tryz.sizeHk rfl rfl rfl
      clear hK K
      refine wpQuiet_step (fun K hK => ?_)
      go_simp
      refine ⟨_, fun _ _ => rfl, hK _ ?_⟩
      clear hK K
      refine wpQuiet_step (fun K hK => ?_)
      go_simp
      refine ⟨_, fun _ _ => rfl, hK _ ?_⟩
      clear hK K
      refine wpQuiet_nil ?_
      rintro w9 ⟨hr9, hb9, hk9⟩
      have y0 : w9.cell? ⟨G, 0, none⟩ = some (.int .i64 0) := cell_of_blk hk9 0
      have y1 : w9.cell? ⟨G, 1, none⟩ = some (.int .i64 0) := cell_of_blk hk9 1
      have y2 : w9.cell? ⟨G, 2, none⟩ = some (.int .i64 0) := cell_of_blk hk9 2
      have y3 : w9.cell? ⟨G, 3, none⟩ = some (.int .i64 0) := cell_of_blk hk9 3
      have y4 : w9.cell? ⟨G, 4, none⟩ = some (.string ⟨#[]⟩) := cell_of_blk hk9 4
      have y5 : w9.cell? ⟨G, 5, none⟩ = some (.slice none 0 0) := cell_of_blk hk9 5
      have HR9 := hid hr9
      have HB9 := hid hb9
      clear hr9 hb9 hk9
      go_wp2_with fail
      exact bodyPost_ret (v := .tuple #[.agg #[.int .i64 0, .int .i64 0, .int .i64 0, .int .i64 0, .string ⟨#[]⟩, .slice none 0 0], .int .i64 c', .iface 42 (.int .i64 111)]) (by simp [results, Tryz.results30, go_sem, y0, y1, y2, y3, y4, y5]) rfl ⟨c', x', HR9.out, HB9.out, Nat.le_of_lt HA6.out.1, HA6.out.2.1, HA6.out.2.2.1, HA6.out.2.2.2, .inr (.inl ⟨p, HP.out, HBAD.out, rfl⟩)⟩
    · have HOK := hid hok
      rw [advB_data] at HOK
      obtain ⟨av, cv, rfl⟩ := own_shape hO6
      have hBo : Hid (OwnW w6 w5.heap.size (.slice av (rows.map Un.toR).length cv) (rows.map Un.toR)) := hid hO6
      obtain ⟨RL, hRL⟩ : ∃ RL, RL = (rows.map Un.toR).length := ⟨_, rfl⟩
      rw [← hRL]
      have HR7 := hid (HR6.out.setOther (k := 5) (u := .slice av RL cv) HVG.out.2.2)
      have HK7 : Hid ((w6.setCell ⟨V, 5, none⟩ (.slice av RL cv)).heap[G]? = some (.cells #[.int .i64 0, .int .i64 0, .int .i64 0, .int .i64 0, .string ⟨#[]⟩, .slice none 0 0] 37)) := hid (by
        rw [← HK6.out]
        have hne := HVG.out.2.1
        simp [World.setCell, Array.getElem?_modify, hne])
      have HC7 := hid (HC6.out.cellSet HVG.out.1 5 (.slice av RL cv))
      have hN7 := setR w6 V 5 _ _ (.slice av RL cv) HN6.out
      have HO7 : Hid (OwnW (w6.setCell ⟨V, 5, none⟩ (.slice av RL cv)) w5.heap.size (.slice av (rows.map Un.toR).length cv) (rows.map Un.toR)) := hid (own_setOther hBo.out (by
        intro g hg e
        have h1 := own_ne hBo.out HN6.out (by decide)
        exact h1 (by rw [← e]; exact hg)))
      have t0 : (w6.setCell ⟨V, 5, none⟩ (.slice av RL cv)).cell? ⟨V, 0, none⟩ = some (.int .i64 (p.a : Nat)) := cell_of_blk hN7 0
      have t1 : (w6.setCell ⟨V, 5, none⟩ (.slice av RL cv)).cell? ⟨V, 1, none⟩ = some (.int .i64 (p.n : Nat)) := cell_of_blk hN7 1
      have t2 : (w6.setCell ⟨V, 5, none⟩ (.slice av RL cv)).cell? ⟨V, 2, none⟩ = some (.int .i64 (p.b : Nat)) := cell_of_blk hN7 2
      have t3 : (w6.setCell ⟨V, 5, none⟩ (.slice av RL cv)).cell? ⟨V, 3, none⟩ = some (.int .i64 (p.m : Nat)) := cell_of_blk hN7 3
      have t4 : (w6.setCell ⟨V, 5, none⟩ (.slice av RL cv)).cell? ⟨V, 4, none⟩ = some (.string (bB p.head)) := cell_of_blk hN7 4
      have t5 : (w6.setCell ⟨V, 5, none⟩ (.slice av RL cv)).cell? ⟨V, 5, none⟩ = some (.slice av RL cv) := cell_of_blk hN7 5
      clear hok hO6 hN7
      have HRL := hid hRL
      clear hRL HR6 HK6 HN6 HC6 hBo
      go_wp2_with (guard_target =~ wpList _ _ _ (_ :: _) _ _; refine wpList_stA 37 #[.int .i64 (p.a : Nat), .int .i64 (p.n : Nat), .int .i64 (p.b : Nat), .int .i64 (p.m : Nat), .string (bB p.head), .slice av RL cv] rfl rfl HK7.out Tryz.sizeHk rfl rfl rfl rfl ?_; intro w8 hk8 hkp8; have y0 : w8.cell? ⟨G, 0, none⟩ = some (.int .i64 (p.a : Nat)) := cell_of_blk hk8 0; have y1 : w8.cell? ⟨G, 1, none⟩ = some (.int .i64 (p.n : Nat)) := cell_of_blk hk8 1; have y2 : w8.cell? ⟨G, 2, none⟩ = some (.int .i64 (p.b : Nat)) := cell_of_blk hk8 2; have y3 : w8.cell? ⟨G, 3, none⟩ = some (.int .i64 (p.m : Nat)) := cell_of_blk hk8 3; have y4 : w8.cell? ⟨G, 4, none⟩ = some (.string (bB p.head)) := cell_of_blk hk8 4; have y5 : w8.cell? ⟨G, 5, none⟩ = some (.slice av RL cv) := cell_of_blk hk8 5; have HKP := hid hkp8; clear hk8 hkp8)
      have hGR : R ≠ G := by have := HGW.out; omega
      exact bodyPost_ret (v := .tuple #[.agg #[.int .i64 (p.a : Nat), .int .i64 (p.n : Nat), .int .i64 (p.b : Nat), .int .i64 (p.m : Nat), .string (bB p.head), .slice av RL cv], .int .i64 0, .nilIface]) (by simp [results, Tryz.results30, go_sem, y0, y1, y2, y3, y4, y5]) rfl ⟨c', x', (HKP.out.block R HR7.out.lt hGR).trans HR7.out, KeptR.new HC7.out HKP.out (Nat.le_of_eq HGW.out.symm), Nat.le_of_lt HA6.out.1, HA6.out.2.1, HA6.out.2.2.1, HA6.out.2.2.2, .inr (.inr ⟨p, rows, .slice av RL cv, HP.out, HOK.out, rfl, HA6.out.1, by
        rw [HRL.out]
        refine own_mono (own_far HO7.out (fun i hi => HKP.out.block i (own_lt HO7.out i hi) (fun e => ?_))) HS6.out
        exact own_ne HO7.out HK7.out (by decide) (by rw [← e]; exact hi)⟩)⟩
end Go.Proofs.YtkolgglllladfaaGreatDoor
