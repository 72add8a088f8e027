/-
  The numbers of all counts, plain, and the document's Numbers (ST7).
-/
import Derived.Test.YtnbonghlmdnabaaDoorBe
import Derived.Test.YtnbonghlmdnabaaDoorBm
import Derived.Lib.AppendStr
import Derived.Deep.RegionHeld3
namespace Go.Proofs.YtnbonghlmdnabaaDoor.Sx
open Go.RowKit

def numR (c : Ct) : Bs := dec c.a ++ [9] ++ dec c.d ++ [9] ++ q c ++ [10]
def numL (l : List Ct) : Bs := l.flatMap numR
theorem numL_take {l : List Ct} {k : Nat} {c : Ct} (h : l[k]? = some c) : numL (l.take (k + 1)) = numL (l.take k) ++ numR c := by
  unfold numL
  rw [List.take_add_one, h, List.flatMap_append]
  simp
theorem decI_len {n : Int} (h : okN n = true) : (dec n).length ≤ 21 := by
  obtain ⟨h0, h1⟩ := okN_iff.1 h
  obtain ⟨m, rfl⟩ := Int.eq_ofNat_of_zero_le h0
  rw [dec_nat]
  exact decD_len m (by omega)
theorem numR_len {c : Ct} {W : Nat} (h : okC c = true) (hq : (q c).length ≤ W) : (numR c).length ≤ W + 50 := by
  unfold okC at h
  rw [Bool.and_eq_true] at h
  have h1 := decI_len h.1
  have h2 := decI_len h.2
  unfold numR
  simp only [List.length_append, List.length_singleton]
  omega
theorem numL_len {W : Nat} : ∀ {l : List Ct}, (∀ c ∈ l, (numR c).length ≤ W) → (numL l).length ≤ l.length * W
  | [], _ => by show 0 ≤ _; omega
  | c :: l, h => by
    have h1 := h c (List.mem_cons_self ..)
    have h2 := numL_len (l := l) (fun x hx => h x (List.mem_cons_of_mem _ hx))
    show (numR c ++ numL l).length ≤ (l.length + 1) * W
    rw [List.length_append, Nat.add_mul]
    omega
def nmS (l : List Ct) : ByteArray := if okL l = true then bB (numL l) else ⟨#[]⟩
def nmN (l : List Ct) : Int := if okL l = true then 0 else 1
theorem digI_any (n : Int) (w : World) (h : okN n = true) : Calls Tryd.prog 18 #[.int .i64 n] w fun e w' => e = .returned (.string (bB (dec n))) ∧ Below w.heap.size w w' := by
  obtain ⟨h0, h1⟩ := okN_iff.1 h
  obtain ⟨m, rfl⟩ := Int.eq_ofNat_of_zero_le h0
  rw [dec_nat]
  exact digits_any m m (Nat.le_refl _) (by omega) w
theorem str_ownN {w : World} {B : Nat} {v : Value} {l : Bs} {s : ByteArray} (h : w.ownsRow B 5 1 v (l.length + s.size) (Lib.byteCells l ++ Lib.strCells s)) : OwB w B v (l ++ s.data.toList) := by
  have e1 : Lib.strCells s = Lib.byteCells s.data.toList := rfl
  have e2 : s.size = s.data.toList.length := (dsize s).symm
  rw [e1, e2] at h
  show w.ownsRow _ _ _ _ _ _
  rw [Lib.byteCells_append, List.length_append]
  exact h
theorem wp_append_strN {P : Program} {w : World} {o : Oper} {a : Act} {K : Act → World → Prop} {Q : Exit → Act → World → Prop} (sl x : Operand) (t u : TypeId)
    (ho : o.op = .call { callee := .builtin .append, args := #[sl, x], argTypes := #[t, u] })
    (base : Nat) (e : TypeId) (i : TypeInfo) (ht : P.underlying t = some (.slice e)) (hu : P.underlying u = some .string) (hi : P.info? e = some i) (hz : i.zero = some (.int .u8 0))
    (hsize : i.size = 1) (hby : i.bytes = 1)
    (v : Value) (n : Nat) (xs : List Value) (hs : a.eval sl = v) (hown : w.ownsRow base e 1 v n xs) (s : ByteArray) (hx : a.eval x = .string s)
    (h63 : n + s.size ≤ maxLen) (hbytes : n + s.size ≤ 140737488355328) (hbase : base ≤ w.heap.size)
    (h : ∀ v' w', w'.ownsRow base e 1 v' (n + s.size) (xs ++ Lib.strCells s) → w.grownBy w' v.ownBlock → (v' = .slice none 0 0 ↔ v = .slice none 0 0 ∧ s.size = 0) → K (a.put o.dst v') w') : o.wp P a w K Q := by
  obtain ⟨v', w', hr, h2, h3, h4⟩ := Lib.run_append_own_string (P := P) w base t u o.type e i ht hu hi hz hsize hby v n xs hown s h63 hbytes hbase
  unfold Oper.wp execOp
  simp only [ho, resolve, invoke, builtin, Sem.run_bind, Sem.run_pure, Result.andThen_ok, List.map_toArray, List.map_cons, List.map_nil, hs, hx, hr]
  exact h v' w' h2 h3 h4
set_option maxHeartbeats 4000000 in
set_option maxRecDepth 100000 in
theorem rNumbers_any {w : World} {v : Value} {l : List Ct} (hr : RdK w v l) (hn : l.length ≤ 1099511627776) (hs : ∀ x ∈ l, x.nm.size ≤ 35184371999999) (hz : okL l = true → l.length * (nameW l + 2100) + nameW l ≤ 70368744177664) :
    Calls Tryd.prog 8 #[v] w fun e w' => e = .returned (.tuple #[.string (nmS l), .int .i64 (nmN l)]) ∧ Below w.heap.size w w' := by
  have HT := hid (rSums_any hr hn)
  have HR0 := hid hr
  obtain ⟨i0, hi, hz0, hz1, hz2⟩ := info_parts Cx.Tryd.infoByteX
  obtain ⟨a, c, rfl⟩ := hr.shape
  unfold nmS nmN
  cases hok : okL l with
  | false =>
    rw [sm_no hok] at HT
    obtain ⟨n, hnn⟩ : ∃ n, n = l.length := ⟨_, rfl⟩
    rw [← hnn] at HT ⊢
    clear hok hr hnn HR0 hs hz
    go_enter Tryd.func8, Tryd.ntmps8
    go_wp2_with fail
    refine HT.out.mono ?_
    rintro e w1 ⟨rfl, rfl⟩
    go_wp2_with fail
    go_ret2
    exact ⟨rfl, Below.refl _ _⟩
  | true =>
    rw [sm_yes hok] at HT
    rw [if_pos rfl, if_pos rfl]
    have hz' := hz hok
    have HALL := hid (okL_iff.1 hok).2.1
    have hlen := (okL_iff.1 hok).1
    have HSN := hid hs
    have HW := hid (show ∀ c ∈ l, (numR c).length ≤ nameW l + 50 from fun c hc => numR_len (List.all_eq_true.1 (okL_iff.1 hok).2.1 c hc) (nameW_mem hc))
    obtain ⟨n, hnn⟩ : ∃ n, n = l.length := ⟨_, rfl⟩
    have HN := hid hnn
    rw [← hnn] at HT hlen hz' ⊢
    have HZ := hid hz'
    obtain ⟨Z, hZZ⟩ : ∃ Z, Z = numL l := ⟨_, rfl⟩
    have HZZ := hid hZZ
    rw [← hZZ]
    generalize sumA l = sa at HT
    generalize sumD l = sd at HT
    clear hok hr hnn hs hz hz' hn hZZ
    go_enter Tryd.func8, Tryd.ntmps8
    go_wp2_with fail
    refine HT.out.mono ?_
    rintro e w1 ⟨rfl, hw1⟩
    rw [hw1]
    clear hw1 w1
    have HB1 := hid (Below.refl w.heap.size w)
    clear HT
    go_wp2_with fail
    go_loopw [7, 8] (fun o i wr => ∃ k : Nat, k ≤ n ∧ i = .int .i64 k ∧ Hid (OwB wr w.heap.size o (numL (l.take k))) ∧ Hid (Below w.heap.size w wr)) (fun _ i _ => n - (intOf i).toNat)
    case atStart => exact ⟨0, Nat.zero_le _, rfl, hid (World.ownsRow_nil _ _ _ _), HB1⟩
    case round =>
      obtain ⟨k, hk, rfl, HO, HB⟩ := hrel
      clear HB1
      have HLEN : Hid ((numL (l.take k)).length ≤ 70368744177664) := hid (by
        have h1 : (numL (l.take k)).length ≤ (l.take k).length * (nameW l + 50) := numL_len fun c hc => HW.out c (List.mem_of_mem_take hc)
        have h2 : (l.take k).length * (nameW l + 50) ≤ n * (nameW l + 2100) := Nat.mul_le_mul (by rw [List.length_take]; omega) (by omega)
        have h3 := HZ.out
        omega)
      by_cases hlt : k < n
      · obtain ⟨x, hx⟩ : ∃ x, l[k]? = some x := ⟨_, List.getElem?_eq_getElem (by have := HN.out; omega)⟩
        have hxl := List.mem_of_getElem? hx
        obtain ⟨b1, o1, e1, hb1, g0, g1, g2⟩ := rdK_at HR0.out hx
        subst e1
        have HKE : Hid (∀ w', Below w.heap.size w w' → w'.cell? ⟨b1, o1 + k * 3, none⟩ = some (.string x.nm) ∧ w'.cell? ⟨b1, o1 + k * 3 + 1, none⟩ = some (.int .i64 x.a) ∧ w'.cell? ⟨b1, o1 + k * 3 + 2, none⟩ = some (.int .i64 x.d)) := hid (fun w' h => ⟨(h.cell (p := ⟨b1, _, none⟩) hb1).trans g0, (h.cell (p := ⟨b1, _, none⟩) hb1).trans g1, (h.cell (p := ⟨b1, _, none⟩) hb1).trans g2⟩)
        have HT1 := hid (numL_take hx)
        have hxo := List.all_eq_true.1 HALL.out x hxl
        have hxw := HW.out x hxl
        have hxo2 := hxo
        unfold okC at hxo2
        rw [Bool.and_eq_true] at hxo2
        have HXA := hid hxo2.1
        have HXD := hid hxo2.2
        have HQ := hid (fun w' => Cx.refQuote_any x.nm w' (HSN.out x hxl))
        have HQB : Hid ((⟨(Pq.quote x.nm.data.toList).toArray⟩ : ByteArray) = qB x) := hid rfl
        rw [HQB.out] at HQ
        have l1 := decI_len hxo2.1
        have l2 := decI_len hxo2.2
        have l3 : (qB x).size ≤ 70368744177664 := by unfold qB; rw [bB_size]; exact Nat.le_trans (nameW_mem hxl) (by have := HZ.out; omega)
        obtain ⟨RW, hRW⟩ : ∃ RW, RW = bB (dec x.a) ++ ByteArray.mk #[9] ++ bB (dec x.d) ++ ByteArray.mk #[9] ++ qB x ++ ByteArray.mk #[10] := ⟨_, rfl⟩
        have HRW : Hid (RW.data.toList = numR x) := hid (by
          rw [hRW]
          simp only [add_data, bB_data]
          unfold numR qB
          rw [bB_data])
        have HRE := hid hRW
        have hRz : RW.size ≤ 70368744177664 := by
          rw [← dsize, HRW.out]
          have := HZ.out
          have : nameW l + 2100 ≤ n * (nameW l + 2100) := Nat.le_mul_of_pos_left _ (by omega)
          omega
        have hnm := HLEN.out
        obtain ⟨PA, hPA⟩ : ∃ PA, PA = numL (l.take k) := ⟨_, rfl⟩
        rw [← hPA] at HO HT1 hnm
        have HAL1 : Hid (PA.length + RW.size ≤ maxLen) := hid (by unfold maxLen; omega)
        have HAL2 : Hid (PA.length + RW.size ≤ 140737488355328) := hid (by omega)
        obtain ⟨DA, hDA⟩ : ∃ DA, DA = bB (dec x.a) := ⟨_, rfl⟩
        obtain ⟨DD, hDD⟩ : ∃ DD, DD = bB (dec x.d) := ⟨_, rfl⟩
        have z1 : DA.size ≤ 21 := by rw [hDA, bB_size]; exact l1
        have z2 : DD.size ≤ 21 := by rw [hDD, bB_size]; exact l2
        rw [← hDA] at HRE
        rw [← hDD] at HRE
        have HDA : Hid (bB (dec x.a) = DA) := hid hDA.symm
        have HDD : Hid (bB (dec x.d) = DD) := hid hDD.symm
        clear hDA hDD hRW l1 l2 hxo hxo2 hxw hx hxl HQB hb1 g0 g1 g2 hPA hnm
        generalize qB x = Q at HQ HRE l3
        obtain ⟨nm, xa, xd⟩ := x
        dsimp only at HXA HXD HDA HDD HQ HKE
        have i1 : (0 : Int) ≤ (k : Int) := by omega
        have i2 : (k : Int) < (n : Int) := by omega
        have k1 : ¬ 9223372036854775807 < DA.size + 1 := by omega
        have k2 : ¬ 9223372036854775807 < DA.size + 1 + DD.size := by omega
        have k3 : ¬ 9223372036854775807 < DA.size + 1 + DD.size + 1 := by omega
        have k4 : ¬ 9223372036854775807 < DA.size + 1 + DD.size + 1 + Q.size := by omega
        have k5 : ¬ 9223372036854775807 < DA.size + 1 + DD.size + 1 + Q.size + 1 := by omega
        clear z1 z2 l3 hRz
        go_wp2_with fail
        have HBd : Hid (Below w.heap.size w wr.drew) := hid (below_drewN HB.out 1)
        have HOd : Hid (wr.drew.ownsRow w.heap.size 5 1 _ PA.length (Lib.byteCells PA)) := hid (Cx.own_stays HO.out (below_drewN (Below.refl wr.heap.size wr) 1))
        clear HB HO
        obtain ⟨t0, t1, t2⟩ := HKE.out _ HBd.out
        go_region_held3? (fun w' => w'.cell? ⟨b1, o1 + k * 3, none⟩ = some (.string nm) ∧ w'.cell? ⟨b1, o1 + k * 3 + 1, none⟩ = some (.int .i64 xa) ∧ w'.cell? ⟨b1, o1 + k * 3 + 2, none⟩ = some (.int .i64 xd))
          (first
            | go_keep
            | ((try dsimp only); exact HKE.out _ (by first | exact HB9.out | exact HB8.out | exact HB7.out | exact HB6.out | exact HBd.out)))
          (first
            | (rw [if_pos (by rfl)]; refine wp_append_strN _ _ _ _ rfl w.heap.size 5 i0 Tryd.underlying49 Tryd.underlying9 hi hz0 hz1 hz2 _ _ _ rfl HO8.out RW (by rw [HRE.out]; rfl) HAL1.out HAL2.out HB8.out.size ?_; intro v9 w9 ho9 hg9 _; have HO9 := hid (str_ownN (l := PA) (s := RW) ho9); have HB9 := hid (HB8.out.grown hg9 HB8.out.size (Cx.own_ge HO8.out)); clear ho9 hg9)
            | (go_at_call 19; refine (HQ.out _).mono ?_; rintro e w8 ⟨rfl, hb8⟩; have HB8 := hid (HB7.out.trans (hb8.mono HB7.out.size)); have HO8 := hid (Cx.own_stays HO7.out hb8); clear hb8)
            | (go_at_call 18; refine (digI_any _ _ (by first | exact HXA.out | exact HXD.out)).mono ?_; rintro e w6 ⟨rfl, hb6⟩; (first | rw [HDA.out] | rw [HDD.out]); (first | (have HB7 := hid (HB6.out.trans (hb6.mono HB6.out.size)); have HO7 := hid (Cx.own_stays HO6.out hb6)) | (have HB6 := hid (HBd.out.trans (hb6.mono HBd.out.size)); have HO6 := hid (Cx.own_stays HOd.out hb6))); clear hb6))
        clear t0 t1 t2
        go_wp2_with fail
        go_roundw
        case rel => exact ⟨k + 1, by omega, by go_num, hid (by rw [HT1.out, ← HRW.out]; exact HO9.out), HB9⟩
        case measure => simp [intOf]; omega
      · have hke : k = n := by omega
        subst hke
        have i2 : ¬ ((k : Int) < (k : Int)) := by omega
        have HE : Hid (numL (l.take k) = Z) := hid (by rw [HZZ.out, List.take_of_length_le (Nat.le_of_eq HN.out.symm)])
        rw [HE.out] at HO
        have hcv := Cx.conv_own HO.out
        go_wp2_with fail
        go_ret2
        exact ⟨rfl, HB.out⟩
end Go.Proofs.YtnbonghlmdnabaaDoor.Sx
