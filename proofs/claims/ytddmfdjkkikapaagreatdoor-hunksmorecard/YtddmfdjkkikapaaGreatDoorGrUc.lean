/-
  Several texts in one: Uc, Ud.
-/
import Derived.Test.YtddmfdjkkikapaaGreatDoorGrAs
import Derived.Test.YtddmfdjkkikapaaGreatDoorLd
import Derived.Test.YtddmfdjkkikapaaGreatDoorGrMa
/-
  errors.Is at the target api.ErrArg, walked through the library's own text: of an api.Errno whether it is that one.
-/
namespace Go.Proofs.YtddmfdjkkikapaaGreatDoor
open Go.RowKit Go.Extern.Stop Go.Stop Go.Extern

def cmpF : Array Value → Sem Value := ReflectliteType.method fun t => do Rtype.noPackHeld "Comparable" t; pure (.bool (← typeInfo t).comparable)
theorem Tryz.isComparable (w : World) : (cmpF #[.agg #[.pointer (some ⟨4, 63, none⟩)]]).run Tryz.prog w = .ok (.bool true) w := by kernel_rfl
theorem Tryz.isMethodComparable (v : Value) (w : World) : (Go.method 332 157 v "Comparable").run Tryz.prog w = .ok (170, v) w := by kernel_rfl
theorem Tryz.noIsE (v : Value) (xT : TypeId) (w : World) : (Instr.typeAssert (.iface 63 v) xT 159 true).run Tryz.prog w = .ok (.tuple #[.nilIface, .bool false]) w := run_typeAssert_lacksB Tryz.underlying159 (by kernel_rfl) (by kernel_rfl) v xT w
theorem Tryz.noUnwrapE (v : Value) (xT : TypeId) (w : World) : (Instr.typeAssert (.iface 63 v) xT 162 true).run Tryz.prog w = .ok (.tuple #[.nilIface, .bool false]) w := run_typeAssert_lacksB Tryz.underlying162 (by kernel_rfl) (by kernel_rfl) v xT w
theorem Tryz.noUnwrapsE (v : Value) (xT : TypeId) (w : World) : (Instr.typeAssert (.iface 63 v) xT 164 true).run Tryz.prog w = .ok (.tuple #[.nilIface, .bool false]) w := run_typeAssert_lacksB Tryz.underlying164 (by kernel_rfl) (by kernel_rfl) v xT w
set_option maxHeartbeats 1000000 in
set_option maxRecDepth 100000 in
theorem errIs_one (w : World) : Calls Tryz.prog 40 #[.iface 63 (.int .i64 1), .iface 63 (.int .i64 1)] w fun e w' => e = .returned (.bool true) ∧ w' = w := by
  have h8 := @run_callFunc_extern Tryz.prog 84 _ Extern.ReflectliteType.typeOf Tryz.func84 (by kernel_rfl) (by kernel_rfl) (by kernel_rfl) (by kernel_rfl)
  have h32 := @run_callFunc_extern Tryz.prog 170 _ cmpF Tryz.func170 (by kernel_rfl) (by kernel_rfl) (by kernel_rfl) (by kernel_rfl)
  have tT := Tryz.typeOfE
  have cT := Tryz.isComparable
  have mR := Tryz.isMethodComparable
  have heq : (binOp .eql 28 (.iface 63 (.int .i64 1)) (.iface 63 (.int .i64 1))).run Tryz.prog w = .ok (.bool true) w := by kernel_rfl
  go_enter Tryz.func40, Tryz.ntmps40
  go_wp2
  refine wp_loop_rounds 1 ?_
  rw [rounds_succ]
  go_wp2
  go_ret
  exact ⟨rfl, rfl⟩
set_option maxHeartbeats 1000000 in
set_option maxRecDepth 100000 in
theorem errIs_other (w : World) : Calls Tryz.prog 40 #[.iface 63 (.int .i64 60), .iface 63 (.int .i64 1)] w fun e w' => e = .returned (.bool false) ∧ w' = w := by
  have h8 := @run_callFunc_extern Tryz.prog 84 _ Extern.ReflectliteType.typeOf Tryz.func84 (by kernel_rfl) (by kernel_rfl) (by kernel_rfl) (by kernel_rfl)
  have h32 := @run_callFunc_extern Tryz.prog 170 _ cmpF Tryz.func170 (by kernel_rfl) (by kernel_rfl) (by kernel_rfl) (by kernel_rfl)
  have tT := Tryz.typeOfE
  have cT := Tryz.isComparable
  have mR := Tryz.isMethodComparable
  have nE := Tryz.noIsE
  have uE := Tryz.noUnwrapE
  have vE := Tryz.noUnwrapsE
  have heq : (binOp .eql 28 (.iface 63 (.int .i64 60)) (.iface 63 (.int .i64 1))).run Tryz.prog w = .ok (.bool false) w := by kernel_rfl
  go_enter Tryz.func40, Tryz.ntmps40
  go_wp2
  refine wp_loop_rounds 1 ?_
  rw [rounds_succ]
  go_wp2
  go_ret
  exact ⟨rfl, rfl⟩
end Go.Proofs.YtddmfdjkkikapaaGreatDoor
/-
  The program's Script, with its errors (made by wip/genud.py).
-/
namespace Go.Proofs.YtddmfdjkkikapaaGreatDoor.Hu
open Ed (Ch)
theorem runs_cnt : ∀ (l : List Rw) (i f : Nat), (runsR l i f).length ≤ (l.filter isC).length + (if f < i then 1 else 0)
  | [], i, f => by rw [runsR, run1]; split <;> simp
  | r :: l, i, f => by
    rw [runsR]
    by_cases h : isC r = true
    · rw [if_pos h, List.filter_cons_of_pos h, List.length_cons]
      have := runs_cnt l (i + 1) f
      split at this <;> split <;> omega
    · rw [if_neg h, List.filter_cons_of_neg h, List.length_append, run1]
      have := runs_cnt l (i + 1) (i + 1)
      rw [if_neg (Nat.lt_irrefl _)] at this
      split <;> simp <;> omega
theorem cnt_sides : ∀ l : List Rw, (l.filter isC).length ≤ (olds l).length + (fres l).length
  | [] => Nat.zero_le _
  | r :: l => by
    have ih := cnt_sides l
    rw [olds_cons, fres_cons]
    rcases kinds r with ⟨h1, h2, h3, _⟩ | ⟨h1, h2, h3, _⟩ | ⟨h1, h2, h3, _⟩ | ⟨h1, h2, h3, _⟩ <;> rw [h1, h2, List.filter_cons, h3] <;> simp <;> omega
theorem scr_le {l : List Hk} : ∀ {X Y : Int} {e o : Bool}, l.all vld = true → ordP l X Y e o = true → 0 ≤ X → 0 ≤ Y → X ≤ 2147483647 → Y ≤ 2147483647 → ((scr l).length : Int) + X + Y ≤ 4294967294 := by
  induction l with
  | nil => intro X Y e o _ _ _ _ _ _; simp [scr]; omega
  | cons h l ih =>
    intro X Y e o hv ho hX hY hX2 hY2
    rw [List.all_cons, Bool.and_eq_true] at hv
    obtain ⟨y1, y2, y3, y4, _, y5, y6, y7, _, _⟩ := vld_parts hv.1
    rw [ordP] at ho
    split at ho
    · cases ho
    · rename_i hn
      have hpx : 0 ≤ plc h.a h.n ∧ plc h.a h.n + h.n ≤ 2147483647 ∧ 0 ≤ plc h.b h.m ∧ plc h.b h.m + h.m ≤ 2147483647 := by
        unfold plc
        split <;> split <;> omega
      have h1 : X ≤ plc h.a h.n := by
        refine Int.not_lt.1 (fun hlt => hn (.inl hlt))
      have h2 : plc h.a h.n - X = plc h.b h.m - Y := by
        by_cases h : plc h.a h.n - X = plc h.b h.m - Y
        · exact h
        · exact absurd (.inr (.inl h)) hn
      have := ih hv.2 ho (by omega) (by omega) hpx.2.1 hpx.2.2.2
      have e1 : (scr (h :: l)).length = (runsR h.rows 0 0).length + (scr l).length := by
        show (scrH h ++ scr l).length = _
        rw [List.length_append]
        unfold scrH
        rw [List.length_map]
      have e2 := runs_cnt h.rows 0 0
      have e3 := cnt_sides h.rows
      rw [if_neg (Nat.lt_irrefl _)] at e2
      rw [e1]
      push_cast
      omega
theorem scr_small {l : List Hk} (h : orderN l = 0) : (scr l).length ≤ 4294967294 := by
  unfold orderN at h
  split at h
  · rename_i hv
    split at h
    · rename_i ho
      have := scr_le hv ho (Int.le_refl 0) (Int.le_refl 0) (by omega) (by omega)
      omega
    · cases h
  · cases h
def scrN (l : List Hk) (n m : Int) : Nat := if orderN l = 0 then (if Ed.validN (scr l) n m = 0 then 0 else 60) else orderN l
def scrA (l : List Hk) (n m : Int) : List Ch := if scrN l n m = 0 then Ed.normal (scr l) n m else []
end Go.Proofs.YtddmfdjkkikapaaGreatDoor.Hu
namespace Go.Proofs.YtddmfdjkkikapaaGreatDoor
open Go.RowKit
open Hu (Rw Hk)
open Ed (Ch)
theorem take_sides (l : List Rw) (k : Nat) : (Hu.olds (l.take k)).length ≤ l.length ∧ (Hu.fres (l.take k)).length ≤ l.length := by
  have h1 := Hu.olds_len (l.take k)
  have h2 := Hu.fres_len (l.take k)
  have h3 : (l.take k).length ≤ l.length := List.length_take_le' _ _
  omega
theorem scr_wf {l : List Hk} (h : ∀ x ∈ l, Hu.vld x = true) : ∀ c ∈ Hu.scr l, WfC c := by
  intro c hc
  unfold Hu.scr at hc
  obtain ⟨x, hx, hc⟩ := List.mem_flatMap.1 hc
  unfold Hu.scrH at hc
  obtain ⟨s, _, rfl⟩ := List.mem_map.1 hc
  obtain ⟨h1, _, h3⟩ := vld_small (h x hx)
  have h4 := take_sides x.rows s.1
  have h5 := Hu.olds_len (Hu.sub x.rows s.1 s.2)
  have h6 := Hu.fres_len (Hu.sub x.rows s.1 s.2)
  have h7 := sub_len x.rows s.1 s.2
  unfold Hu.chOf WfC I64
  dsimp only
  omega
set_option maxHeartbeats 1000000 in
set_option maxRecDepth 100000 in
theorem script_ord {w : World} {v : Value} {l : List Hk} {n m : Int} (hv : RdH w v l) (hl : l.length < 1954687338260) (hz : ∀ h ∈ l, SzH h) (ho : Hu.orderN l = 0) (EK : Nat) (hEK : EK = if Ed.validN (Hu.scr l) n m = 0 then 0 else 60) :
    Calls Tryz.prog 13 #[v, .int .i64 n, .int .i64 m] w fun e w' => ∃ v', e = .returned (.tuple #[v', errV EK]) ∧ OwnC w' w.heap.size v' (nrmA (Hu.scr l) n m) ∧ Below w.heap.size w w' := by
  have hs : (Hu.scr l).length ≤ 4300000000 := by have := Hu.scr_small ho; omega
  have HEK := hid hEK
  clear hEK
  have HOR := hid (fun w1 (hb : Below w.heap.size w w1) => order_any (hv.below hb) hl hz)
  rw [ho, errV_zero] at HOR
  have hall : ∀ h ∈ l, Hu.vld h = true := by
    unfold Hu.orderN at ho
    split at ho
    · next h => exact List.all_eq_true.1 h
    · cases ho
  obtain ⟨av, cv, rfl⟩ := hv.shape
  have HV := hid hv
  have HZ := hid hz
  have HALL := hid hall
  have HS := hid hs
  obtain ⟨N, hn⟩ : ∃ N, N = l.length := ⟨_, rfl⟩
  have HL := hid hn
  rw [← hn] at HV hl HOR ⊢
  clear hv hz hall hn ho hs
  have hkc := heap_alloc_new w (.cells #[.slice none 0 0] 22)
  have hbc := (Below.refl w.heap.size w).alloc (Nat.le_refl _) (.cells #[.slice none 0 0] 22)
  go_enter Tryz.func13, Tryz.ntmps13
  go_wp2_with fail
  refine (HOR.out _ (Below.refl _ _)).mono ?_
  rintro e w1 ⟨rfl, hb1⟩
  have HB1 := hid hb1
  clear hb1 HOR hkc hbc
  have hkc := heap_alloc_new w1 (.cells #[.slice none 0 0] 22)
  have hbc := (Below.refl w1.heap.size w1).alloc (Nat.le_refl _) (.cells #[.slice none 0 0] 22)
  have hsc : (w1.alloc (.cells #[.slice none 0 0] 22)).heap.size = w1.heap.size + 1 := by simp
  go_wp2_with fail
  obtain ⟨cb, hcb⟩ : ∃ cb, cb = w1.heap.size := ⟨_, rfl⟩
  rw [← hcb] at hkc hsc ⊢
  have HCB := hid hcb
  generalize w1.alloc (.cells #[.slice none 0 0] 22) = w2 at hkc hbc hsc ⊢
  have HB2 := hid (HB1.out.trans (hbc.mono HB1.out.size))
  have HKC := hid hkc
  have HSC := hid hsc
  have HCW : Hid (w.heap.size ≤ cb) := hid (by rw [hcb]; exact HB1.out.size)
  clear hkc hbc hsc hcb HB1
  go_loopw [23] (fun ii wr => ∃ (k : Nat) (vc : Value), k ≤ N ∧ ii = .int .i64 k ∧ Hid (wr.heap[cb]? = some (.cells #[vc] 22) ∧ OwnC wr w2.heap.size vc (Hu.scr (l.take k))) ∧ Hid (Below w.heap.size w wr) ∧ Hid (w2.heap.size ≤ wr.heap.size)) (fun ii _ => N - (intOf ii).toNat)
  case atStart => exact ⟨0, _, Nat.zero_le _, rfl, hid ⟨HKC.out, World.ownsRow_nil _ _ _ _⟩, HB2, hid (Nat.le_refl _)⟩
  case round =>
    obtain ⟨k, vc, hk, rfl, HC, HB, HS2⟩ := hrel
    by_cases hlt : k < N
    · obtain ⟨x, hx⟩ : ∃ x, l[k]? = some x := ⟨_, List.getElem?_eq_getElem (by have := HL.out; omega)⟩
      obtain ⟨b1, o1, u, e1, hb1, d0, d1, d2, d3, d4, d5, hu⟩ := rdH_at HV.out hx
      replace d0 := (HB.out.cell (p := ⟨b1, _, none⟩) hb1).trans d0
      replace d1 := (HB.out.cell (p := ⟨b1, _, none⟩) hb1).trans d1
      replace d2 := (HB.out.cell (p := ⟨b1, _, none⟩) hb1).trans d2
      replace d3 := (HB.out.cell (p := ⟨b1, _, none⟩) hb1).trans d3
      replace d4 := (HB.out.cell (p := ⟨b1, _, none⟩) hb1).trans d4
      replace d5 := (HB.out.cell (p := ⟨b1, _, none⟩) hb1).trans d5
      subst e1
      have hmem := List.mem_of_getElem? hx
      have hvx := HALL.out x hmem
      have HPB := hid (fun w3 => begin_any (v := u) w3 (vld_pl hvx))
      have HSX := hid (HZ.out x hmem)
      have HVP := hid (Hu.vld_parts hvx)
      have HTK := hid (takeH hx)
      have HSL := hid (Nat.le_trans (scr_len hx) HS.out)
      obtain ⟨xa, xn, xb, xm, xh, xr⟩ := x
      dsimp only at d0 d1 d2 d3 d4 d5 hu HPB HVP
      obtain ⟨ua, uc, rfl⟩ := hu.shape
      unfold HkV SpV at HPB
      dsimp only at HPB
      have i1 : (0 : Int) ≤ (k : Int) := by omega
      have i2 : (k : Int) < (N : Int) := by omega
      have HUN := hid hu.under
      have HRU := hid (hu.below HB.out)
      clear hx hb1 hmem hvx hu
      have hbn := (Below.refl wr.heap.size wr).alloc (Nat.le_refl _) (.cells #[.int .i64 xa, .int .i64 xn, .int .i64 xb, .int .i64 xm, .string xh, .slice ua xr.length uc] 37)
      have hkn := heap_alloc_new wr (.cells #[.int .i64 xa, .int .i64 xn, .int .i64 xb, .int .i64 xm, .string xh, .slice ua xr.length uc] 37)
      go_wp2_with fail
      obtain ⟨hb, hhb⟩ : ∃ hb, hb = wr.heap.size := ⟨_, rfl⟩
      rw [← hhb] at hkn ⊢
      generalize wr.alloc (.cells #[.int .i64 xa, .int .i64 xn, .int .i64 xb, .int .i64 xm, .string xh, .slice ua xr.length uc] 37) = w4 at hbn hkn ⊢
      refine (HPB.out w4).mono ?_
      rintro e w5 ⟨rfl, hb5⟩
      have HH5 := hid ((hb5.block hb (lt_of_heap hkn)).trans hkn)
      have HB5 := hid (hbn.trans (hb5.mono hbn.size))
      have HHB := hid hhb
      clear hbn hkn hb5 hhb HPB d0 d1 d2 d3 d4 d5
      generalize hP : Hu.plc xa xn = P at HVP
      generalize hQ : Hu.plc xb xm = Q at HVP
      obtain ⟨t1, t2, t3, t4⟩ := two' w5 (.cells #[.int .i64 P, .int .i64 Q] 78) (.cells #[.int .i64 0] 3)
      have H6 := hid (And.intro ((t1.block hb (lt_of_heap HH5.out)).trans HH5.out) (And.intro t2 (And.intro t3 (And.intro t4 t1))))
      have b5 : ((w5.alloc (.cells #[.int .i64 P, .int .i64 Q] 78)).alloc (.cells #[.int .i64 0] 3)).cell? ⟨hb, 5, none⟩ = some (.slice ua xr.length uc) := cell_of_blk H6.out.1 5
      clear t1 t2 t3 t4
      go_wp2_with fail
      generalize (w5.alloc (.cells #[.int .i64 P, .int .i64 Q] 78)).alloc (.cells #[.int .i64 0] 3) = w6 at H6 b5 ⊢
      obtain ⟨q1, q2, q3, q4, q5⟩ := H6.out
      have HB6 := hid (HB5.out.trans (q5.mono HB5.out.size))
      have HBW := hid (HB.out.trans (HB6.out.mono HB.out.size))
      obtain ⟨c1, c2⟩ := HC.out
      have c1' := (HB6.out.block cb (lt_of_heap c1)).trans c1
      have c2' := own_stays c2 HB6.out
      have hkd : Kd xr := by
        have := HVP.out.1
        unfold Hu.areR at this
        rw [Bool.and_eq_true] at this
        intro r hr
        have h3 := List.all_eq_true.1 this.1 r hr
        unfold Hu.isC at h3
        simp only [Bool.or_eq_true, beq_iff_eq] at h3
        exact h3
      have hPQ : 0 ≤ P ∧ P ≤ 4294967296 ∧ 0 ≤ Q ∧ Q ≤ 4294967296 := by
        obtain ⟨_, v1, v2, v3, _, v4, v5, v6, _, _⟩ := HVP.out
        unfold Hu.plc at hP hQ
        split at hP <;> split at hQ <;> omega
      have hsz6 : w5.heap.size + 2 = w6.heap.size := q4.symm
      have hs56 : w.heap.size ≤ w5.heap.size := Nat.le_trans HB.out.size HB5.out.size
      have hs2 : w2.heap.size ≤ w6.heap.size := Nat.le_trans HS2.out HB6.out.size
      have hT := scr_takes (h := ⟨xa, xn, xb, xm, xh, xr⟩) (vr := .slice ua xr.length uc) (p := P) (q := Q) (C0 := Hu.scr (l.take k)) (Bc := w2.heap.size) (ab := w5.heap.size) (hb := hb) (db := w5.heap.size + 1) (cb := cb) (B := w.heap.size) (HRU.out.below HB6.out) HUN.out HSX.out.1 hkd hPQ.1 hPQ.2.1 hPQ.2.2.1 hPQ.2.2.2 ⟨by omega, by omega, HCW.out, HB2.out.size⟩ hs2 HSL.out (by omega) (lt_of_heap q1) (by omega) (lt_of_heap c1')
      have h0 : ScI ⟨xa, xn, xb, xm, xh, xr⟩ (.slice ua xr.length uc) P Q (Hu.scr (l.take k)) w2.heap.size w5.heap.size hb (w5.heap.size + 1) cb [] (fun g => g = w5.heap.size ∨ g = w5.heap.size + 1 ∨ g = cb ∨ vc.ownBlock = some g) w6 := by
        refine ⟨?_, q1, q3, vc, c1', ?_, fun g => Iff.rfl⟩
        · rw [q2]; simp [Hu.dnOf, Hu.olds, Hu.fres]
        · rw [List.map_nil, List.append_nil]; exact c2'
      have HER := hid (hEachRun_any (HRU.out.below HB6.out) (B := w.heap.size) HUN.out HBW.out.size HSX.out.1 hT h0 (fun g hg => by
        rcases hg with rfl | rfl | rfl | hg
        · omega
        · omega
        · exact lt_of_heap c1'
        · exact own_lt c2' g hg))
      have HSH : Hid (Hu.scr (l.take k) ++ (Hu.runsR xr 0 0).map (Hu.chOf P Q xr) = Hu.scr (l.take (k + 1))) := hid (by
        rw [HTK.out]
        unfold Hu.scrH
        rw [hP, hQ])
      have hS6 : w2.heap.size ≤ w6.heap.size := hs2
      clear hT h0 hkd hPQ hsz6 hs56 hs2 c1 c2 c1' c2' q1 q2 q3 q4 q5 b5 H6 hP hQ HVP HTK
      refine HER.out.mono ?_
      rintro e w7 ⟨rfl, hb7, X7, hI7⟩
      obtain ⟨_, _, _, v7, r4, r5, _⟩ := hI7
      dsimp only at r5
      rw [HSH.out] at r5
      have HR7 := hid (And.intro r4 r5)
      have HB7 := hid (HBW.out.trans hb7)
      have HS7 := hid (Nat.le_trans hS6 hb7.size)
      clear r4 r5 hb7
      go_wp2_with fail
      go_roundw
      case rel => exact ⟨k + 1, v7, by omega, by go_num, HR7, HB7, HS7⟩
      case measure => simp [intOf]; omega
    · obtain rfl : k = N := by omega
      have htk : l.take k = l := List.take_of_length_le (by have := HL.out; omega)
      rw [htk] at HC
      have HWF : Hid (∀ c ∈ Hu.scr l, WfC c) := hid (scr_wf HALL.out)
      have HNO := hid (normal_all (n := n) (m := m) (own_rd HC.out.2) HWF.out (by have := HS.out; omega))
      have hcase : Ed.validN (Hu.scr l) n m = 0 ∨ Ed.validN (Hu.scr l) n m = 1 ∨ Ed.validN (Hu.scr l) n m = 60 := by
        unfold Ed.validN
        split
        · split <;> simp
        · simp
      have HRN : Hid (Ed.validN (Hu.scr l) n m ≠ 0 → nrmA (Hu.scr l) n m = []) := hid (fun h => by unfold nrmA; rw [if_neg h])
      obtain ⟨R, hR⟩ : ∃ R, R = nrmA (Hu.scr l) n m := ⟨_, rfl⟩
      rw [← hR] at HNO HRN
      have HRE := hid hR
      clear hR
      obtain ⟨ac, cc, e9⟩ := own_shape HC.out.2
      subst e9
      obtain ⟨SL, hSL⟩ : ∃ SL, SL = (Hu.scr l).length := ⟨_, rfl⟩
      rw [← hSL] at HNO HC
      have c0 : wr.cell? ⟨cb, 0, none⟩ = some (.slice ac SL cc) := cell_of_blk HC.out.1 0
      clear htk hSL HC
      rcases hcase with h0 | h1 | h60
      · rw [h0, errV_zero] at HNO
        have HN0 : Hid (Ed.validN (Hu.scr l) n m = 0) := hid h0
        have HE0 : Hid (EK = 0) := hid (by rw [HEK.out, h0]; rfl)
        clear h0
        go_wp2_with fail
        refine HNO.out.mono ?_
        rintro e w7 ⟨v7, rfl, hO7, hb7⟩
        have HO7 : Hid (OwnC w7 w.heap.size v7 R) := hid (own_mono hO7 HB.out.size)
        have HB7 := hid (HB.out.trans (hb7.mono HB.out.size))
        obtain ⟨a7, k7, e7⟩ := own_shape hO7
        subst e7
        obtain ⟨RL, hRL⟩ : ∃ RL, RL = R.length := ⟨_, rfl⟩
        clear hO7 hb7 c0
        rw [← hRL] at HO7 ⊢
        clear hRL
        go_wp2_with fail
        refine (errIs_nil w7).mono ?_
        rintro e w8 ⟨rfl, hb8⟩
        have HO8 := hid (own_stays HO7.out hb8)
        have HB8 := hid (HB7.out.trans (hb8.mono HB7.out.size))
        clear hb8
        go_wp2_with fail
        go_ret2
        exact ⟨_, by rw [HE0.out, errV_zero]; rfl, by rw [← HRE.out]; exact HO8.out, HB8.out⟩
      · rw [h1, errV_pos (by decide)] at HNO
        have HN0 : Hid (Ed.validN (Hu.scr l) n m = 1) := hid h1
        have HE0 : Hid (EK = 60) := hid (by rw [HEK.out, h1]; rfl)
        clear h1
        go_wp2_with fail
        refine HNO.out.mono ?_
        rintro e w7 ⟨v7, rfl, hO7, hb7⟩
        have HO7 : Hid (OwnC w7 w.heap.size v7 R) := hid (own_mono hO7 HB.out.size)
        have HB7 := hid (HB.out.trans (hb7.mono HB.out.size))
        obtain ⟨a7, k7, e7⟩ := own_shape hO7
        subst e7
        obtain ⟨RL, hRL⟩ : ∃ RL, RL = R.length := ⟨_, rfl⟩
        clear hO7 hb7 c0
        rw [← hRL] at HO7 ⊢
        clear hRL
        go_wp2_with fail
        refine (errIs_one w7).mono ?_
        rintro e w8 ⟨rfl, h8⟩
        rw [h8]
        clear h8
        go_wp2_with fail
        go_ret2
        refine ⟨_, by rw [HE0.out, errV_pos (by decide)]; rfl, ?_, HB7.out⟩
        rw [← HRE.out, HRN.out (by rw [HN0.out]; decide)]
        exact World.ownsRow_nil _ _ _ _
      · rw [h60, errV_pos (by decide)] at HNO
        have HN0 : Hid (Ed.validN (Hu.scr l) n m = 60) := hid h60
        have HE0 : Hid (EK = 60) := hid (by rw [HEK.out, h60]; rfl)
        clear h60
        go_wp2_with fail
        refine HNO.out.mono ?_
        rintro e w7 ⟨v7, rfl, hO7, hb7⟩
        have HO7 : Hid (OwnC w7 w.heap.size v7 R) := hid (own_mono hO7 HB.out.size)
        have HB7 := hid (HB.out.trans (hb7.mono HB.out.size))
        obtain ⟨a7, k7, e7⟩ := own_shape hO7
        subst e7
        obtain ⟨RL, hRL⟩ : ∃ RL, RL = R.length := ⟨_, rfl⟩
        clear hO7 hb7 c0
        rw [← hRL] at HO7 ⊢
        clear hRL
        go_wp2_with fail
        refine (errIs_other w7).mono ?_
        rintro e w8 ⟨rfl, h8⟩
        rw [h8]
        clear h8
        go_wp2_with fail
        go_ret2
        exact ⟨_, by rw [HE0.out, errV_pos (by decide)]; rfl, by rw [← HRE.out]; exact HO7.out, HB7.out⟩
set_option maxHeartbeats 1000000 in
set_option maxRecDepth 100000 in
theorem script_any {w : World} {v : Value} {l : List Hk} {n m : Int} (hv : RdH w v l) (hl : l.length < 1954687338260) (hz : ∀ h ∈ l, SzH h) :
    Calls Tryz.prog 13 #[v, .int .i64 n, .int .i64 m] w fun e w' => ∃ v', e = .returned (.tuple #[v', errV (Hu.scrN l n m)]) ∧ OwnC w' w.heap.size v' (Hu.scrA l n m) ∧ Below w.heap.size w w' := by
  by_cases ho : Hu.orderN l = 0
  · have h1 := script_ord (n := n) (m := m) hv hl hz ho _ rfl
    have e1 : Hu.scrN l n m = if Ed.validN (Hu.scr l) n m = 0 then 0 else 60 := by unfold Hu.scrN; rw [if_pos ho]
    have e2 : Hu.scrA l n m = nrmA (Hu.scr l) n m := by
      unfold Hu.scrA
      rw [e1]
      unfold nrmA
      by_cases h : Ed.validN (Hu.scr l) n m = 0
      · rw [if_pos h, if_pos h]; rfl
      · rw [if_neg h, if_neg h]; rfl
    rw [e1, e2]
    exact h1
  · have e1 : Hu.scrN l n m = Hu.orderN l := by unfold Hu.scrN; rw [if_neg ho]
    have e2 : Hu.scrA l n m = [] := by unfold Hu.scrA; rw [e1, if_neg ho]
    rw [e1, e2]
    have HOR := hid (fun w1 (hb : Below w.heap.size w w1) => order_any (hv.below hb) hl hz)
    obtain ⟨K, hK⟩ : ∃ K, K = Hu.orderN l := ⟨_, rfl⟩
    rw [← hK] at HOR ho ⊢
    rw [errV_pos ho] at HOR ⊢
    obtain ⟨av, cv, rfl⟩ := hv.shape
    obtain ⟨N, hN⟩ : ∃ N, N = l.length := ⟨_, rfl⟩
    rw [← hN] at HOR ⊢
    clear hv hl hz hN hK ho e1 e2
    go_enter Tryz.func13, Tryz.ntmps13
    go_wp2_with fail
    refine (HOR.out _ (Below.refl _ _)).mono ?_
    rintro e w1 ⟨rfl, hb1⟩
    have HB1 := hid hb1
    clear hb1 HOR
    go_wp2_with fail
    go_ret2
    exact ⟨_, rfl, World.ownsRow_nil _ _ _ _, HB1.out⟩
end Go.Proofs.YtddmfdjkkikapaaGreatDoor
