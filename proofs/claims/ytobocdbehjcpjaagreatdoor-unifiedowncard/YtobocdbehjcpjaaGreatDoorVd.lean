/-
  The document's Parse (layer 11). (Made by wip/genvd.py.)
-/
import Derived.Test.YtobocdbehjcpjaaGreatDoorGrVa
import Derived.Test.YtobocdbehjcpjaaGreatDoorGrKK
import Derived.Deep.RegionHeld3
namespace Go.Proofs.YtobocdbehjcpjaaGreatDoor
open Go.RowKit
open Hu (Rw Hk)

theorem sv_stC (l : List Un.Bs) : Cx.SV l = stC (l.map bB) := by
  unfold Cx.SV stC
  rw [List.map_map]
  rfl
theorem rd_lns {w : World} {v : Value} {l : List Un.Bs} (h : RdX w v l.length (Cx.SV l)) : RdT w v (l.map bB) := by
  show RdX _ _ _ _
  rw [List.length_map, ← sv_stC]
  exact h
/-- what the document's Parse answers -/
def DocAns (B : Nat) (w' : World) (e : Ending) : Un.Ps → Prop
  | .bad c er => e = .returned (.tuple #[.agg #[.string ⟨#[]⟩, .string ⟨#[]⟩], .agg #[.string ⟨#[]⟩, .string ⟨#[]⟩], .slice none 0 0, .string ⟨#[]⟩, .int .i64 (c : Nat), .int .i64 (er : Nat)])
  | .ok o q hs rest => ∃ v, e = .returned (.tuple #[.agg #[.string (bB o.1), .string (bB o.2)], .agg #[.string (bB q.1), .string (bB q.2)], v, .string (bB rest), .int .i64 0, .int .i64 0]) ∧ OwnH w' B v hs ∧ (∀ h ∈ hs, SzH h) ∧ hs.length ≤ 5000000
def ClsD (w : World) (B : Nat) (w' : World) : Prop := Below w.heap.size w w' ∧ w'.heap[B]? = some (.cells #[.string ⟨#[]⟩, .string ⟨#[]⟩] 23) ∧ w'.heap[B + 1]? = some (.cells #[.string ⟨#[]⟩, .string ⟨#[]⟩] 23) ∧ w'.heap[B + 2]? = some (.cells #[.string ⟨#[]⟩, .string ⟨#[]⟩] 23)
def flN (l : List Un.Bs) (i : Nat) : Nat := (l.take i).flatten.length
theorem flN_next {l : List Un.Bs} {i : Nat} {x : Un.Bs} (h : l[i]? = some x) : flN l (i + 1) = flN l i + x.length := by
  unfold flN
  rw [List.take_add_one, h]
  simp
theorem rows_sz {s x : Un.Bs} {k c : Nat} {p : Un.Plc} {rows : List (Int × Un.Bs)} {ls' : List Un.Bs} (hs : s.length ≤ 4194304) (hx : x ∈ Un.lns s) (hp : Un.placeD (Un.bare x) = some p) (hr : Un.rowsD ((Un.lns s).drop k) p.n p.m false [] k = .ok rows ls' c) : SzH (Un.mkHk p rows) := by
  rw [← Un.place_eq] at hp
  have h1 := place_head hp
  have h2 := bare_le x
  have h3 := (Un.lns_ok hx).2
  have e : Un.rowsP ((Un.lns s).drop k) p.n p.m (k + 1) = .ok rows ls' (c + 1) := by rw [Un.rowsP_D, hr]; rfl
  have h5 := Un.lns_le s
  have h6 := rows_le _ _ _ _ _ _ _ _ (s.length + 1) (Nat.le_refl _) (fun z hz => (Un.lns_ok (List.mem_of_mem_drop hz)).2) e
  rw [List.length_drop] at h6
  unfold SzH Un.mkHk
  refine ⟨?_, ?_, ?_⟩
  · show (rows.map Un.toR).length < _
    rw [List.length_map]
    omega
  · intro r hr'
    obtain ⟨q, hq, rfl⟩ := List.mem_map.1 hr'
    have := h6.2 q hq
    show (bB q.2).size ≤ _
    rw [← dsize, bB_data]
    unfold maxLen
    omega
  · show (bB p.head).size ≤ _
    rw [← dsize, bB_data]
    unfold maxLen
    omega
/-- the document's rows, by what they are -/
theorem rRowsH {w : World} {lv : Value} {ls : List Un.Bs} {k0 : Nat} {p : Un.Plc} (hr : RdT w lv (ls.map bB)) (hls : ∀ x ∈ ls, (∃ p, x = p ++ [10] ∧ (10 : UInt8) ∉ p) ∧ x.length ≤ 4194305) (hL : ls.length ≤ 4194305) (hk0 : k0 ≤ ls.length) (hN : p.n ≤ 2147483647) (hM : p.m ≤ 2147483647) :
    Calls Tryz.prog 35 #[lv, .int .i64 k0, .agg #[.int .i64 (p.a : Nat), .int .i64 (p.n : Nat), .int .i64 (p.b : Nat), .int .i64 (p.m : Nat), .string (bB p.head), .slice none 0 0]] w fun e w' => Below w.heap.size w w' ∧
      ((∃ c va n vc, Un.rowsD (ls.drop k0) p.n p.m false [] k0 = .bad c ∧ e = .returned (.tuple #[.agg #[.int .i64 (p.a : Nat), .int .i64 (p.n : Nat), .int .i64 (p.b : Nat), .int .i64 (p.m : Nat), .string (bB p.head), .slice va n vc], .int .i64 (c : Nat), .int .i64 111])) ∨
       ∃ rows ls' c v, Un.rowsD (ls.drop k0) p.n p.m false [] k0 = .ok rows ls' c ∧ e = .returned (.tuple #[HkV (Un.mkHk p rows) v, .int .i64 (c : Nat), .int .i64 0]) ∧ OwnW w' (w.heap.size + 2) v (Un.mkHk p rows).rows ∧ c ≤ ls.length) := by
  refine (rRows11_any hr hls hL hk0 hN hM).mono ?_
  rintro e w' ⟨hb, ha⟩
  refine ⟨hb, ?_⟩
  unfold RwAns at ha
  cases h : Un.rowsD (ls.drop k0) p.n p.m false [] k0 with
  | bad c =>
    rw [h] at ha
    obtain ⟨va, n, vc, rfl⟩ := ha
    exact .inl ⟨c, va, n, vc, rfl, rfl⟩
  | ok rows ls' c =>
    rw [h] at ha
    obtain ⟨v, rfl, h1, h2⟩ := ha
    exact .inr ⟨rows, ls', c, v, rfl, rfl, h1, h2⟩
theorem numD_cap {s r : Un.Bs} {n : Nat} (h : Un.numD s = some (n, r)) : n ≤ 2147483647 := by
  obtain ⟨x, _, hx, _⟩ := Un.numP_of h
  exact numP_le hx
theorem placeD_le {l : Un.Bs} {p : Un.Plc} (h : Un.placeD l = some p) : p.a ≤ 2147483647 ∧ p.n ≤ 2147483647 ∧ p.b ≤ 2147483647 ∧ p.m ≤ 2147483647 := placeP_le (by rw [Un.place_eq]; exact h)
theorem run_min2U (x y : Int) (w : World) : (Builtin.min2 (.int .i64 x) (.int .i64 y)).run Tryz.prog w = .ok (.int .i64 (if y < x then y else x)) w := by
  by_cases h : y < x <;> simp [Builtin.min2, go_sem, h]
/-- what is told behind the hunks -/
def endP (s : Un.Bs) (L : List Un.Bs) (o q : Un.Bs × Un.Bs) : Un.Pr → Un.Ps
  | .bad c e => .bad c e
  | .ok hs c => .ok o q hs (s.drop (min (flN L (c - 1)) s.length))
theorem vldN_of {h : Hk} {b : Bool} (hb : Hu.vld h = b) : vldN h = if b then 0 else 100 := by unfold vldN; rw [hb]
theorem okO_nil (h : Hk) : Un.okO [] h = true := rfl
theorem okO_at {l : List Hk} {g h : Hk} (hg : l[l.length - 1]? = some g) : Un.okO l h = Un.inO g h := by
  unfold Un.okO
  rw [List.getLast?_eq_getElem?, hg]
set_option maxHeartbeats 16000000 in
set_option maxRecDepth 100000 in
theorem rParse11_any {w : World} {s : ByteArray} (hs : s.size ≤ maxLen) :
    Calls Tryz.prog 17 #[.string s] w fun e w' => Below w.heap.size w w' ∧ DocAns w.heap.size w' e (Un.parse s.data.toList) := by
  unfold maxLen at hs
  obtain ⟨hb0, k0, k1, k2⟩ := threeF w (.cells #[.string ⟨#[]⟩, .string ⟨#[]⟩] 23) (.cells #[.string ⟨#[]⟩, .string ⟨#[]⟩] 23) (.cells #[.string ⟨#[]⟩, .string ⟨#[]⟩] 23)
  obtain ⟨B, hB⟩ : ∃ B, B = w.heap.size := ⟨_, rfl⟩
  have HBW := hid hB
  have HBw0 := hid hb0
  have N0w0 := hid k0
  have N1w0 := hid k1
  have N2w0 := hid k2
  have hsd := dsize s
  rw [← hB] at N0w0 N1w0 N2w0
  clear hb0 k0 k1 k2
  by_cases hlong : 4194304 < s.size
  · have HRES : Hid (Un.parse s.data.toList = .bad 0 2) := hid (by unfold Un.parse; rw [if_pos (by omega)])
    have i1 : (4194304 : Int) < (s.size : Int) := by omega
    clear hlong hsd
    go_enter Tryz.func17, Tryz.ntmps17
    go_wp2_with fail
    rw [← hB]
    clear hB
    generalize ((w.alloc (.cells #[.string ⟨#[]⟩, .string ⟨#[]⟩] 23)).alloc (.cells #[.string ⟨#[]⟩, .string ⟨#[]⟩] 23)).alloc (.cells #[.string ⟨#[]⟩, .string ⟨#[]⟩] 23) = w0 at HBw0 N0w0 N1w0 N2w0 ⊢
    refine wp_region_class (C := ClsD w B) (by kernel_rfl) (by kernel_rfl) ⟨below_drewN HBw0.out 1, N0w0.out, N1w0.out, N2w0.out⟩ ?_
    refine wpQuiet_step (fun K hK => ?_)
    rw [if_pos (by rfl)]
    refine ⟨.agg #[.string ⟨#[]⟩, .string ⟨#[]⟩], fun w' hw' => ?_, hK _ ?_⟩
    · have c0 : w'.cell? ⟨B + 2, 0, none⟩ = some (.string ⟨#[]⟩) := cell_of_blk hw'.2.2.2 0
      have c1 : w'.cell? ⟨B + 2, 1, none⟩ = some (.string ⟨#[]⟩) := cell_of_blk hw'.2.2.2 1
      go_simp
    clear hK K
    refine wpQuiet_step (fun K hK => ?_)
    rw [if_pos (by rfl)]
    refine ⟨.agg #[.string ⟨#[]⟩, .string ⟨#[]⟩], fun w' hw' => ?_, hK _ ?_⟩
    · have c0 : w'.cell? ⟨B + 2, 0, none⟩ = some (.string ⟨#[]⟩) := cell_of_blk hw'.2.2.2 0
      have c1 : w'.cell? ⟨B + 2, 1, none⟩ = some (.string ⟨#[]⟩) := cell_of_blk hw'.2.2.2 1
      go_simp
    clear hK K
    refine wpQuiet_step (fun K hK => ?_)
    rw [if_pos (by rfl)]
    refine ⟨undef, fun w' hw' => ?_, hK _ ?_⟩
    · unfold Oper.quietAt
      exact quiet_stA 23 #[.string ⟨#[]⟩, .string ⟨#[]⟩] rfl hw'.2.1 Tryz.sizeName rfl rfl rfl
    clear hK K
    refine wpQuiet_step (fun K hK => ?_)
    rw [if_pos (by rfl)]
    refine ⟨undef, fun w' hw' => ?_, hK _ ?_⟩
    · unfold Oper.quietAt
      exact quiet_stA 23 #[.string ⟨#[]⟩, .string ⟨#[]⟩] rfl hw'.2.2.1 Tryz.sizeName rfl rfl rfl
    clear hK K
    refine wpQuiet_step (fun K hK => ?_)
    go_simp
    refine ⟨_, fun _ _ => rfl, hK _ ?_⟩
    clear hK K
    refine wpQuiet_step (fun K hK => ?_)
    go_simp
    refine ⟨_, fun _ _ => rfl, hK _ ?_⟩
    clear hK K
    refine wpQuiet_step (fun K hK => ?_)
    go_simp
    refine ⟨_, fun _ _ => rfl, hK _ ?_⟩
    clear hK K
    refine wpQuiet_step (fun K hK => ?_)
    go_simp
    refine ⟨_, fun _ _ => rfl, hK _ ?_⟩
    clear hK K
    refine wpQuiet_nil ?_
    rintro w66 ⟨hb66, y00, y10, y20⟩
    have y0 : w66.cell? ⟨B, 0, none⟩ = some (.string ⟨#[]⟩) := cell_of_blk y00 0
    have y1 : w66.cell? ⟨B, 1, none⟩ = some (.string ⟨#[]⟩) := cell_of_blk y00 1
    have z0 : w66.cell? ⟨B + 1, 0, none⟩ = some (.string ⟨#[]⟩) := cell_of_blk y10 0
    have z1 : w66.cell? ⟨B + 1, 1, none⟩ = some (.string ⟨#[]⟩) := cell_of_blk y10 1
    have HB66 := hid hb66
    clear hb66 y00 y10 y20
    go_wp2_with fail
    exact bodyPost_ret (v := .tuple #[.agg #[.string ⟨#[]⟩, .string ⟨#[]⟩], .agg #[.string ⟨#[]⟩, .string ⟨#[]⟩], .slice none 0 0, .string ⟨#[]⟩, .int .i64 (0 : Nat), .int .i64 2]) (by simp [results, Tryz.results17, go_sem, y0, y1, z0, z1]) rfl ⟨HB66.out, by rw [HRES.out]; rfl⟩
  · have i1 : ¬ ((4194304 : Int) < (s.size : Int)) := by omega
    have hs4 : s.size ≤ 4194304 := by omega
    have hsl : s.data.toList.length ≤ 4194304 := by omega
    have HLN := hid (fun w1 => rLines_any s w1 hs4)
    have HPD := hid (Un.parse_D s.data.toList hsl)
    have HLO : Hid (∀ x ∈ Un.lns s.data.toList, (∃ p, x = p ++ [10] ∧ (10 : UInt8) ∉ p) ∧ x.length ≤ 4194305) := hid (fun x hx => by have := Un.lns_ok hx; exact ⟨this.1, by omega⟩)
    have hll := Un.lns_le s.data.toList
    have HSZ := hid (fun (x : Un.Bs) (k c : Nat) (p : Un.Plc) (rows : List (Int × Un.Bs)) (ls' : List Un.Bs) (hx : x ∈ Un.lns s.data.toList) (hp : Un.placeD (Un.bare x) = some p) (hr : Un.rowsD ((Un.lns s.data.toList).drop k) p.n p.m false [] k = .ok rows ls' c) => rows_sz hsl hx hp hr)
    have HFT : Hid (∀ i, flN (Un.lns s.data.toList) i ≤ 4194305) := hid (fun i => by have := Un.flat_take s.data.toList i; unfold flN; omega)
    clear hlong hs
    go_enter Tryz.func17, Tryz.ntmps17
    go_wp2_with fail
    rw [← hB]
    clear hB
    generalize ((w.alloc (.cells #[.string ⟨#[]⟩, .string ⟨#[]⟩] 23)).alloc (.cells #[.string ⟨#[]⟩, .string ⟨#[]⟩] 23)).alloc (.cells #[.string ⟨#[]⟩, .string ⟨#[]⟩] 23) = w0 at HBw0 N0w0 N1w0 N2w0 ⊢
    refine (HLN.out w0).mono ?_
    rintro e w1 ⟨v, rfl, hOL, hb1⟩
    obtain ⟨la, lc, rfl⟩ := own_shape hOL
    have HRL : Hid (RdT w1 (.slice la (Un.lns s.data.toList).length lc) ((Un.lns s.data.toList).map bB)) := hid (rd_lns (own_rd hOL))
    have HBw1 := hid (HBw0.out.trans (hb1.mono HBw0.out.size))
    have N0w1 := hid ((hb1.block B (lt_of_heap N0w0.out)).trans N0w0.out)
    have N1w1 := hid ((hb1.block (B + 1) (lt_of_heap N1w0.out)).trans N1w0.out)
    have N2w1 := hid ((hb1.block (B + 2) (lt_of_heap N2w0.out)).trans N2w0.out)
    obtain ⟨L, hL⟩ : ∃ L, L = Un.lns s.data.toList := ⟨_, rfl⟩
    rw [← hL] at HRL HPD HLO HSZ HFT hll ⊢
    obtain ⟨LL, hLL⟩ : ∃ LL, LL = L.length := ⟨_, rfl⟩
    rw [← hLL] at HRL hll ⊢
    have HLL := hid hLL
    have hll2 : LL ≤ 4194304 := by omega
    have HLS : Hid (LL ≤ s.data.toList.length) := hid hll
    clear hL hLL hll hb1 hOL HLN HBw0 N0w0 N1w0 N2w0 hsd hsl
    have hbN := (Below.refl w1.heap.size w1).alloc (Nat.le_refl _) (.cells #[.string ⟨#[]⟩, .string ⟨#[]⟩, .string ⟨#[]⟩, .string ⟨#[]⟩] 75)
    have hkN := heap_alloc_new w1 (.cells #[.string ⟨#[]⟩, .string ⟨#[]⟩, .string ⟨#[]⟩, .string ⟨#[]⟩] 75)
    obtain ⟨D, hD⟩ : ∃ D, D = w1.heap.size := ⟨_, rfl⟩
    rw [← hD] at hkN hbN
    have HD1 := hid hD
    have HDB : Hid (B + 3 ≤ D) := hid (by have := lt_of_heap N2w1.out; omega)
    have HDW : Hid (w.heap.size ≤ D) := hid (by rw [hD]; exact HBw1.out.size)
    go_wp2_with fail
    rw [← hD]
    clear hD
    generalize w1.alloc (.cells #[.string ⟨#[]⟩, .string ⟨#[]⟩, .string ⟨#[]⟩, .string ⟨#[]⟩] 75) = w2 at hbN hkN ⊢
    have HWw2 := hid hbN
    have NDw2 := hid hkN
    clear hbN hkN
    go_loopw [11] (fun ii wr => Hid (Below D w1 wr) ∧ ((ii = .int .i64 0 ∧ Hid (wr.heap[D]? = some (.cells #[.string ⟨#[]⟩, .string ⟨#[]⟩, .string ⟨#[]⟩, .string ⟨#[]⟩] 75))) ∨ (ii = .int .i64 1 ∧ ∃ o : Un.Bs × Un.Bs, Hid (Un.hdrL Un.mkOld L[0]? = some o) ∧ Hid (wr.heap[D]? = some (.cells #[.string (bB o.1), .string (bB o.2), .string ⟨#[]⟩, .string ⟨#[]⟩] 75))) ∨ (ii = .int .i64 2 ∧ ∃ o q : Un.Bs × Un.Bs, Hid (Un.hdrL Un.mkOld L[0]? = some o) ∧ Hid (Un.hdrL Un.mkNew L[1]? = some q) ∧ Hid (wr.heap[D]? = some (.cells #[.string (bB o.1), .string (bB o.2), .string (bB q.1), .string (bB q.2)] 75))))) (fun ii _ => 2 - (intOf ii).toNat)
    case atStart => exact ⟨HWw2, .inl ⟨rfl, NDw2⟩⟩
    case round =>
      obtain ⟨HWwr, hcase⟩ := hrel
      clear HWw2 NDw2
      rcases hcase with ⟨rfl, NDwr⟩ | ⟨rfl, o, HO, NDwr⟩ | ⟨rfl, o, q, HO, HQ, NDwr⟩
      · -- the first name
        cases hx : L[0]? with
        | none =>
          have hlk : LL ≤ 0 := by rw [HLL.out]; exact List.getElem?_eq_none_iff.1 hx
          have j1 : ¬ ((0 : Int) < (LL : Int)) := by omega
          have HH : Hid (Un.hdrL Un.mkOld L[0]? = none) := hid (by rw [hx]; rfl)
          have HRES : Hid (Un.parse s.data.toList = .bad 1 110) := hid (by rw [HPD.out, HH.out])
          clear hx hlk
          go_wp2_with fail
          refine wp_region_class (C := ClsD w B) (by kernel_rfl) (by kernel_rfl) ⟨below_drewN (HBw1.out.trans (HWwr.out.mono HDW.out)) 1, ((HWwr.out.block B (by have := HDB.out; omega)).trans N0w1.out), ((HWwr.out.block (B + 1) (by have := HDB.out; omega)).trans N1w1.out), ((HWwr.out.block (B + 2) (by have := HDB.out; omega)).trans N2w1.out)⟩ ?_
          refine wpQuiet_step (fun K hK => ?_)
          rw [if_pos (by rfl)]
          refine ⟨.agg #[.string ⟨#[]⟩, .string ⟨#[]⟩], fun w' hw' => ?_, hK _ ?_⟩
          · have c0 : w'.cell? ⟨B + 2, 0, none⟩ = some (.string ⟨#[]⟩) := cell_of_blk hw'.2.2.2 0
            have c1 : w'.cell? ⟨B + 2, 1, none⟩ = some (.string ⟨#[]⟩) := cell_of_blk hw'.2.2.2 1
            go_simp
          clear hK K
          refine wpQuiet_step (fun K hK => ?_)
          rw [if_pos (by rfl)]
          refine ⟨.agg #[.string ⟨#[]⟩, .string ⟨#[]⟩], fun w' hw' => ?_, hK _ ?_⟩
          · have c0 : w'.cell? ⟨B + 2, 0, none⟩ = some (.string ⟨#[]⟩) := cell_of_blk hw'.2.2.2 0
            have c1 : w'.cell? ⟨B + 2, 1, none⟩ = some (.string ⟨#[]⟩) := cell_of_blk hw'.2.2.2 1
            go_simp
          clear hK K
          refine wpQuiet_step (fun K hK => ?_)
          go_simp
          refine ⟨_, fun _ _ => rfl, hK _ ?_⟩
          clear hK K
          refine wpQuiet_step (fun K hK => ?_)
          go_simp
          refine ⟨_, fun _ _ => rfl, hK _ ?_⟩
          clear hK K
          refine wpQuiet_step (fun K hK => ?_)
          rw [if_pos (by rfl)]
          refine ⟨undef, fun w' hw' => ?_, hK _ ?_⟩
          · unfold Oper.quietAt
            exact quiet_stA 23 #[.string ⟨#[]⟩, .string ⟨#[]⟩] rfl hw'.2.1 Tryz.sizeName rfl rfl rfl
          clear hK K
          refine wpQuiet_step (fun K hK => ?_)
          rw [if_pos (by rfl)]
          refine ⟨undef, fun w' hw' => ?_, hK _ ?_⟩
          · unfold Oper.quietAt
            exact quiet_stA 23 #[.string ⟨#[]⟩, .string ⟨#[]⟩] rfl hw'.2.2.1 Tryz.sizeName rfl rfl rfl
          clear hK K
          refine wpQuiet_step (fun K hK => ?_)
          go_simp
          refine ⟨_, fun _ _ => rfl, hK _ ?_⟩
          clear hK K
          refine wpQuiet_step (fun K hK => ?_)
          go_simp
          refine ⟨_, fun _ _ => rfl, hK _ ?_⟩
          clear hK K
          refine wpQuiet_step (fun K hK => ?_)
          go_simp
          refine ⟨_, fun _ _ => rfl, hK _ ?_⟩
          clear hK K
          refine wpQuiet_step (fun K hK => ?_)
          go_simp
          refine ⟨_, fun _ _ => rfl, hK _ ?_⟩
          clear hK K
          refine wpQuiet_nil ?_
          rintro w66 ⟨hb66, y00, y10, y20⟩
          have y0 : w66.cell? ⟨B, 0, none⟩ = some (.string ⟨#[]⟩) := cell_of_blk y00 0
          have y1 : w66.cell? ⟨B, 1, none⟩ = some (.string ⟨#[]⟩) := cell_of_blk y00 1
          have z0 : w66.cell? ⟨B + 1, 0, none⟩ = some (.string ⟨#[]⟩) := cell_of_blk y10 0
          have z1 : w66.cell? ⟨B + 1, 1, none⟩ = some (.string ⟨#[]⟩) := cell_of_blk y10 1
          have HB66 := hid hb66
          clear hb66 y00 y10 y20
          go_wp2_with fail
          exact bodyPost_ret (v := .tuple #[.agg #[.string ⟨#[]⟩, .string ⟨#[]⟩], .agg #[.string ⟨#[]⟩, .string ⟨#[]⟩], .slice none 0 0, .string ⟨#[]⟩, .int .i64 (1 : Nat), .int .i64 110]) (by simp [results, Tryz.results17, go_sem, y0, y1, z0, z1, show IntKind.i64.wrap 1 = 1 from by rfl]) rfl ⟨HB66.out, by rw [HRES.out]; rfl⟩
        | some x =>
          have hlk : 0 < LL := by rw [HLL.out]; exact (List.getElem?_eq_some_iff.1 hx).1
          have j1 : (0 : Int) < (LL : Int) := by omega
          obtain ⟨lb, lo, hla, hlb, hcell⟩ := rdT_at HRL.out (k := 0) (x := bB x) (by rw [List.getElem?_map, hx]; rfl)
          have HLB : Hid (lb < D) := hid (by rw [HD1.out]; exact hlb)
          have HCL := hid hcell
          subst hla
          have hxl : (bB x).size ≤ 8388608 := by
            have := (HLO.out x (List.mem_of_getElem? hx)).2
            rw [← dsize, bB_data]
            omega
          have HHD := hid (fun w1 => rHeader_any (bB x) ⟨#[45, 45, 45, 32]⟩ w1 hxl)
          rw [bB_data, show (ByteArray.mk #[45, 45, 45, 32]).data.toList = Un.mkOld from rfl] at HHD
          have HLX : Hid (Un.hdrL Un.mkOld L[0]? = Un.hdrD Un.mkOld x) := hid (by rw [hx]; rfl)
          have HLY : Hid (Un.hdrL Un.mkOld (some x) = Un.hdrD Un.mkOld x) := hid rfl
          clear hx hxl hlk hlb hcell
          cases hq : Un.hdrD Un.mkOld x with
          | none =>
            rw [hq] at HHD HLX HLY
            have HVE : Hid (hdrV (none) = .tuple #[.agg #[.string ⟨#[]⟩, .string ⟨#[]⟩], .bool false]) := hid rfl
            rw [HVE.out] at HHD
            clear hq HVE
            have HRES : Hid (Un.parse s.data.toList = .bad 1 110) := hid (by rw [HPD.out, HLX.out])
            go_wp2_with fail
            have HWwd : Hid (Below D w1 wr.drew) := hid (HWwr.out.drew)
            have NDwd : Hid (wr.drew.heap[D]? = some (.cells #[.string ⟨#[]⟩, .string ⟨#[]⟩, .string ⟨#[]⟩, .string ⟨#[]⟩] 75)) := NDwr
            refine wp_region_noPanic ?_
            refine wp_region_held_drew (S := fun w' => Below D w1 w') (by kernel_rfl) HWwd.out (fun hHeld => ?M0n)
            generalize wr.drew = wd at HWwd NDwd hHeld ⊢
            clear HWwr NDwr
            refine take_d (i := 0) (v := ?v0_0n) 41 rfl rfl (by kernel_rfl) (by kernel_rfl) (by kernel_rfl) (fun _ _ _ h => h) (Or.inl ⟨by rfl, fun ww hSw => ?y0_0n⟩) hHeld ?r0_0n
            case y0_0n => (dsimp only at hSw; go_simp; all_goals with_reducible rfl)
            try simp only [Act.put]
            try simp only [List.setIfInBounds_toArray]
            try simp only [List.set]
            refine take_d (i := 1) (v := ?v1_0n) 42 rfl rfl (by kernel_rfl) (by kernel_rfl) (by kernel_rfl) (fun _ _ _ h => h) (Or.inl ⟨by rfl, fun ww hSw => ?y1_0n⟩) hHeld ?r1_0n
            case y1_0n => (dsimp only at hSw; go_simp; all_goals with_reducible rfl)
            try simp only [Act.put]
            try simp only [List.setIfInBounds_toArray]
            try simp only [List.set]
            refine take_d (i := 2) (v := ?v2_0n) 43 rfl rfl (by kernel_rfl) (by kernel_rfl) (by kernel_rfl) (fun _ _ _ h => h) (Or.inl ⟨by rfl, fun ww hSw => ?y2_0n⟩) hHeld ?r2_0n
            case y2_0n => (dsimp only at hSw; go_simp; all_goals with_reducible rfl)
            try simp only [Act.put]
            try simp only [List.setIfInBounds_toArray]
            try simp only [List.set]
            refine take_d (i := 3) (v := ?v3_0n) 44 rfl rfl (by kernel_rfl) (by kernel_rfl) (by kernel_rfl) (fun _ _ _ h => h) (Or.inl ⟨by rfl, fun ww hSw => ?y3_0n⟩) hHeld ?r3_0n
            case y3_0n => (dsimp only at hSw; go_simp; all_goals with_reducible rfl)
            try simp only [Act.put]
            try simp only [List.setIfInBounds_toArray]
            try simp only [List.set]
            refine take_d (i := 4) (v := ?v4_0n) 45 rfl rfl (by kernel_rfl) (by kernel_rfl) (by kernel_rfl) (fun _ _ _ h => h) (Or.inl ⟨by rfl, fun ww hSw => ?y4_0n⟩) hHeld ?r4_0n
            case y4_0n => (dsimp only at hSw; have c4 : ww.cell? ⟨lb, lo, none⟩ = some (.string (bB x)) := (hSw.cell (p := ⟨lb, lo + 0, none⟩) HLB.out).trans HCL.out; go_simp; all_goals with_reducible rfl)
            try simp only [Act.put]
            try simp only [List.setIfInBounds_toArray]
            try simp only [List.set]
            refine take_d (i := 6) (v := ?v6_0n) 47 rfl rfl (by kernel_rfl) (by kernel_rfl) (by kernel_rfl) (fun _ _ _ h => h) (Or.inl ⟨by rfl, fun ww hSw => ?y6_0n⟩) hHeld ?r6_0n
            case y6_0n => (dsimp only at hSw; go_simp; all_goals with_reducible rfl)
            try simp only [Act.put]
            try simp only [List.setIfInBounds_toArray]
            try simp only [List.set]
            have hbN := (Below.refl wd.heap.size wd).alloc (Nat.le_refl _) (.cells #[.string ⟨#[45, 45, 45, 32]⟩, .string ⟨#[43, 43, 43, 32]⟩] 9)
            have hkN := heap_alloc_new wd (.cells #[.string ⟨#[45, 45, 45, 32]⟩, .string ⟨#[43, 43, 43, 32]⟩] 9)
            refine wpAnyH_ready (rs := [5]) (by kernel_rfl) (by simp) ?p5_0n
            refine AllReadyH.cons rfl (fun K hK => ?_) AllReadyH.nil
            go_simp
            obtain ⟨V, hV⟩ : ∃ V, V = wd.heap.size := ⟨_, rfl⟩
            rw [← hV] at hkN ⊢
            generalize wd.alloc (.cells #[.string ⟨#[45, 45, 45, 32]⟩, .string ⟨#[43, 43, 43, 32]⟩] 9) = we at hbN hkN ⊢
            have HWwe := hid (HWwd.out.trans ((hbN).mono (Nat.le_trans (Nat.le_of_eq HD1.out) HWwd.out.size)))
            have NDwe := hid (((hbN).block D (lt_of_heap NDwd.out)).trans NDwd.out)
            clear HWwd NDwd
            have hs8 : we.cell? ⟨V, 0, none⟩ = some (.string ⟨#[45, 45, 45, 32]⟩) := cell_of_blk hkN 0
            clear hbN hkN hV hHeld
            refine hK.out _ _ HWwe.out (fun hHeld => ?_)
            clear hK K
            try simp only [Act.put]
            try simp only [List.setIfInBounds_toArray]
            try simp only [List.set]
            refine take_d (i := 7) (v := ?v7_0n) 48 rfl rfl (by kernel_rfl) (by kernel_rfl) (by kernel_rfl) (fun _ _ _ h => h) (Or.inl ⟨by rfl, fun ww hSw => ?y7_0n⟩) hHeld ?r7_0n
            case y7_0n => (dsimp only at hSw; go_simp; all_goals with_reducible rfl)
            try simp only [Act.put]
            try simp only [List.setIfInBounds_toArray]
            try simp only [List.set]
            refine wpAnyH_ready (rs := [8]) (by kernel_rfl) (by simp) ?p8_0n
            refine AllReadyH.cons rfl (fun K hK => ?_) AllReadyH.nil
            go_simp
            refine hK.out _ _ HWwe.out (fun hHeld => ?_)
            clear hK K hs8
            try simp only [Act.put]
            try simp only [List.setIfInBounds_toArray]
            try simp only [List.set]
            refine wpAnyH_ready (rs := [9]) (by kernel_rfl) (by simp) ?p9_0n
            refine AllReadyH.cons rfl (fun K hK => ?_) AllReadyH.nil
            go_simp
            refine (HHD.out we).mono ?_
            rintro e wf ⟨rfl, hbN⟩
            have HWwf := hid (HWwe.out.trans ((hbN).mono (Nat.le_trans (Nat.le_of_eq HD1.out) HWwe.out.size)))
            have NDwf := hid (((hbN).block D (lt_of_heap NDwe.out)).trans NDwe.out)
            clear HWwe NDwe
            clear hbN hHeld
            go_simp
            refine hK.out _ _ HWwf.out (fun hHeld => ?_)
            clear hK K
            try simp only [Act.put]
            try simp only [List.setIfInBounds_toArray]
            try simp only [List.set]
            refine take_d (i := 10) (v := ?v10_0n) 40 rfl rfl (by kernel_rfl) (by kernel_rfl) (by kernel_rfl) (fun _ _ _ h => h) (Or.inl ⟨by rfl, fun ww hSw => ?y10_0n⟩) hHeld ?r10_0n
            case y10_0n => (dsimp only at hSw; go_simp; all_goals with_reducible rfl)
            try simp only [Act.put]
            try simp only [List.setIfInBounds_toArray]
            try simp only [List.set]
            refine take_d (i := 11) (v := ?v11_0n) 51 rfl rfl (by kernel_rfl) (by kernel_rfl) (by kernel_rfl) (fun _ _ _ h => h) (Or.inl ⟨by rfl, fun ww hSw => ?y11_0n⟩) hHeld ?r11_0n
            case y11_0n => (dsimp only at hSw; go_simp; all_goals with_reducible rfl)
            try simp only [Act.put]
            try simp only [List.setIfInBounds_toArray]
            try simp only [List.set]
            refine take_d (i := 12) (v := ?v12_0n) 52 rfl rfl (by kernel_rfl) (by kernel_rfl) (by kernel_rfl) (fun _ _ _ h => h) (Or.inl ⟨by rfl, fun ww hSw => ?y12_0n⟩) hHeld ?r12_0n
            case y12_0n => (dsimp only at hSw; go_simp; all_goals with_reducible rfl)
            try simp only [Act.put]
            try simp only [List.setIfInBounds_toArray]
            try simp only [List.set]
            refine take_d (i := 13) (v := ?v13_0n) 53 rfl rfl (by kernel_rfl) (by kernel_rfl) (by kernel_rfl) (fun _ _ _ h => h) (Or.inl ⟨by rfl, fun ww hSw => ?y13_0n⟩) hHeld ?r13_0n
            case y13_0n => (dsimp only at hSw; go_simp; all_goals with_reducible rfl)
            try simp only [Act.put]
            try simp only [List.setIfInBounds_toArray]
            try simp only [List.set]
            have q0 : wf.cell? ⟨D, 0, none⟩ = some (.string ⟨#[]⟩) := cell_of_blk NDwf.out 0
            have q1 : wf.cell? ⟨D, 1, none⟩ = some (.string ⟨#[]⟩) := cell_of_blk NDwf.out 1
            have qf : ∀ q, wf.frozen? ⟨D, q, none⟩ = false := fun q => frozen_of_blk NDwf.out q
            refine wpAnyH_ready (rs := [14]) (by kernel_rfl) (by simp) ?p14_0n
            refine AllReadyH.cons rfl (fun K hK => ?_) AllReadyH.nil
            go_simp
            have NDwg : Hid (((wf.setCell ⟨D, 0, none⟩ (.string ⟨#[]⟩)).setCell ⟨D, 1, none⟩ (.string ⟨#[]⟩)).heap[D]? = some (.cells #[.string ⟨#[]⟩, .string ⟨#[]⟩, .string ⟨#[]⟩, .string ⟨#[]⟩] 75)) := hid (set_heap _ D 1 _ _ _ (set_heap _ D 0 _ _ _ NDwf.out))
            have HWwg : Hid (Below D w1 ((wf.setCell ⟨D, 0, none⟩ (.string ⟨#[]⟩)).setCell ⟨D, 1, none⟩ (.string ⟨#[]⟩))) := hid (below_set (below_set HWwf.out (Nat.le_refl _)) (Nat.le_refl _))
            generalize (wf.setCell ⟨D, 0, none⟩ (.string ⟨#[]⟩)).setCell ⟨D, 1, none⟩ (.string ⟨#[]⟩) = wg at NDwg HWwg ⊢
            clear q0 q1 qf hHeld HWwf NDwf
            refine hK.out _ _ HWwg.out (fun hHeld => ?_)
            clear hK K
            try simp only [Act.put]
            try simp only [List.setIfInBounds_toArray]
            try simp only [List.set]
            refine wpAnyH_ready (rs := [15]) (by kernel_rfl) (by simp) ?p15_0n
            refine AllReadyH.cons rfl (fun K hK => ?_) AllReadyH.nil
            go_simp
            refine hK.out _ _ HWwg.out (fun hHeld => ?_)
            clear hK K hHeld
            try simp only [Act.put]
            try simp only [List.setIfInBounds_toArray]
            try simp only [List.set]
            refine wpAnyH_done (by kernel_rfl) ?_ _
            refine NoPanic.normal ?_
            go_wp2_with fail
            refine wp_region_class (C := ClsD w B) (by kernel_rfl) (by kernel_rfl) ⟨below_drewN (HBw1.out.trans (HWwg.out.mono HDW.out)) 1, ((HWwg.out.block B (by have := HDB.out; omega)).trans N0w1.out), ((HWwg.out.block (B + 1) (by have := HDB.out; omega)).trans N1w1.out), ((HWwg.out.block (B + 2) (by have := HDB.out; omega)).trans N2w1.out)⟩ ?_
            refine wpQuiet_step (fun K hK => ?_)
            rw [if_pos (by rfl)]
            refine ⟨.agg #[.string ⟨#[]⟩, .string ⟨#[]⟩], fun w' hw' => ?_, hK _ ?_⟩
            · have c0 : w'.cell? ⟨B + 2, 0, none⟩ = some (.string ⟨#[]⟩) := cell_of_blk hw'.2.2.2 0
              have c1 : w'.cell? ⟨B + 2, 1, none⟩ = some (.string ⟨#[]⟩) := cell_of_blk hw'.2.2.2 1
              go_simp
            clear hK K
            refine wpQuiet_step (fun K hK => ?_)
            rw [if_pos (by rfl)]
            refine ⟨.agg #[.string ⟨#[]⟩, .string ⟨#[]⟩], fun w' hw' => ?_, hK _ ?_⟩
            · have c0 : w'.cell? ⟨B + 2, 0, none⟩ = some (.string ⟨#[]⟩) := cell_of_blk hw'.2.2.2 0
              have c1 : w'.cell? ⟨B + 2, 1, none⟩ = some (.string ⟨#[]⟩) := cell_of_blk hw'.2.2.2 1
              go_simp
            clear hK K
            refine wpQuiet_step (fun K hK => ?_)
            go_simp
            refine ⟨_, fun _ _ => rfl, hK _ ?_⟩
            clear hK K
            refine wpQuiet_step (fun K hK => ?_)
            go_simp
            refine ⟨_, fun _ _ => rfl, hK _ ?_⟩
            clear hK K
            refine wpQuiet_step (fun K hK => ?_)
            rw [if_pos (by rfl)]
            refine ⟨undef, fun w' hw' => ?_, hK _ ?_⟩
            · unfold Oper.quietAt
              exact quiet_stA 23 #[.string ⟨#[]⟩, .string ⟨#[]⟩] rfl hw'.2.1 Tryz.sizeName rfl rfl rfl
            clear hK K
            refine wpQuiet_step (fun K hK => ?_)
            rw [if_pos (by rfl)]
            refine ⟨undef, fun w' hw' => ?_, hK _ ?_⟩
            · unfold Oper.quietAt
              exact quiet_stA 23 #[.string ⟨#[]⟩, .string ⟨#[]⟩] rfl hw'.2.2.1 Tryz.sizeName rfl rfl rfl
            clear hK K
            refine wpQuiet_step (fun K hK => ?_)
            go_simp
            refine ⟨_, fun _ _ => rfl, hK _ ?_⟩
            clear hK K
            refine wpQuiet_step (fun K hK => ?_)
            go_simp
            refine ⟨_, fun _ _ => rfl, hK _ ?_⟩
            clear hK K
            refine wpQuiet_step (fun K hK => ?_)
            go_simp
            refine ⟨_, fun _ _ => rfl, hK _ ?_⟩
            clear hK K
            refine wpQuiet_step (fun K hK => ?_)
            go_simp
            refine ⟨_, fun _ _ => rfl, hK _ ?_⟩
            clear hK K
            refine wpQuiet_nil ?_
            rintro w66 ⟨hb66, y00, y10, y20⟩
            have y0 : w66.cell? ⟨B, 0, none⟩ = some (.string ⟨#[]⟩) := cell_of_blk y00 0
            have y1 : w66.cell? ⟨B, 1, none⟩ = some (.string ⟨#[]⟩) := cell_of_blk y00 1
            have z0 : w66.cell? ⟨B + 1, 0, none⟩ = some (.string ⟨#[]⟩) := cell_of_blk y10 0
            have z1 : w66.cell? ⟨B + 1, 1, none⟩ = some (.string ⟨#[]⟩) := cell_of_blk y10 1
            have HB66 := hid hb66
            clear hb66 y00 y10 y20
            go_wp2_with fail
            exact bodyPost_ret (v := .tuple #[.agg #[.string ⟨#[]⟩, .string ⟨#[]⟩], .agg #[.string ⟨#[]⟩, .string ⟨#[]⟩], .slice none 0 0, .string ⟨#[]⟩, .int .i64 (1 : Nat), .int .i64 110]) (by simp [results, Tryz.results17, go_sem, y0, y1, z0, z1, show IntKind.i64.wrap 1 = 1 from by rfl]) rfl ⟨HB66.out, by rw [HRES.out]; rfl⟩
          | some u =>
            rw [hq] at HHD HLX HLY
            have HVE : Hid (hdrV (some u) = .tuple #[.agg #[.string (bB u.1), .string (bB u.2)], .bool true]) := hid rfl
            rw [HVE.out] at HHD
            clear hq HVE
            go_wp2_with fail
            have HWwd : Hid (Below D w1 wr.drew) := hid (HWwr.out.drew)
            have NDwd : Hid (wr.drew.heap[D]? = some (.cells #[.string ⟨#[]⟩, .string ⟨#[]⟩, .string ⟨#[]⟩, .string ⟨#[]⟩] 75)) := NDwr
            refine wp_region_noPanic ?_
            refine wp_region_held_drew (S := fun w' => Below D w1 w') (by kernel_rfl) HWwd.out (fun hHeld => ?M0s)
            generalize wr.drew = wd at HWwd NDwd hHeld ⊢
            clear HWwr NDwr
            refine take_d (i := 0) (v := ?v0_0s) 41 rfl rfl (by kernel_rfl) (by kernel_rfl) (by kernel_rfl) (fun _ _ _ h => h) (Or.inl ⟨by rfl, fun ww hSw => ?y0_0s⟩) hHeld ?r0_0s
            case y0_0s => (dsimp only at hSw; go_simp; all_goals with_reducible rfl)
            try simp only [Act.put]
            try simp only [List.setIfInBounds_toArray]
            try simp only [List.set]
            refine take_d (i := 1) (v := ?v1_0s) 42 rfl rfl (by kernel_rfl) (by kernel_rfl) (by kernel_rfl) (fun _ _ _ h => h) (Or.inl ⟨by rfl, fun ww hSw => ?y1_0s⟩) hHeld ?r1_0s
            case y1_0s => (dsimp only at hSw; go_simp; all_goals with_reducible rfl)
            try simp only [Act.put]
            try simp only [List.setIfInBounds_toArray]
            try simp only [List.set]
            refine take_d (i := 2) (v := ?v2_0s) 43 rfl rfl (by kernel_rfl) (by kernel_rfl) (by kernel_rfl) (fun _ _ _ h => h) (Or.inl ⟨by rfl, fun ww hSw => ?y2_0s⟩) hHeld ?r2_0s
            case y2_0s => (dsimp only at hSw; go_simp; all_goals with_reducible rfl)
            try simp only [Act.put]
            try simp only [List.setIfInBounds_toArray]
            try simp only [List.set]
            refine take_d (i := 3) (v := ?v3_0s) 44 rfl rfl (by kernel_rfl) (by kernel_rfl) (by kernel_rfl) (fun _ _ _ h => h) (Or.inl ⟨by rfl, fun ww hSw => ?y3_0s⟩) hHeld ?r3_0s
            case y3_0s => (dsimp only at hSw; go_simp; all_goals with_reducible rfl)
            try simp only [Act.put]
            try simp only [List.setIfInBounds_toArray]
            try simp only [List.set]
            refine take_d (i := 4) (v := ?v4_0s) 45 rfl rfl (by kernel_rfl) (by kernel_rfl) (by kernel_rfl) (fun _ _ _ h => h) (Or.inl ⟨by rfl, fun ww hSw => ?y4_0s⟩) hHeld ?r4_0s
            case y4_0s => (dsimp only at hSw; have c4 : ww.cell? ⟨lb, lo, none⟩ = some (.string (bB x)) := (hSw.cell (p := ⟨lb, lo + 0, none⟩) HLB.out).trans HCL.out; go_simp; all_goals with_reducible rfl)
            try simp only [Act.put]
            try simp only [List.setIfInBounds_toArray]
            try simp only [List.set]
            refine take_d (i := 6) (v := ?v6_0s) 47 rfl rfl (by kernel_rfl) (by kernel_rfl) (by kernel_rfl) (fun _ _ _ h => h) (Or.inl ⟨by rfl, fun ww hSw => ?y6_0s⟩) hHeld ?r6_0s
            case y6_0s => (dsimp only at hSw; go_simp; all_goals with_reducible rfl)
            try simp only [Act.put]
            try simp only [List.setIfInBounds_toArray]
            try simp only [List.set]
            have hbN := (Below.refl wd.heap.size wd).alloc (Nat.le_refl _) (.cells #[.string ⟨#[45, 45, 45, 32]⟩, .string ⟨#[43, 43, 43, 32]⟩] 9)
            have hkN := heap_alloc_new wd (.cells #[.string ⟨#[45, 45, 45, 32]⟩, .string ⟨#[43, 43, 43, 32]⟩] 9)
            refine wpAnyH_ready (rs := [5]) (by kernel_rfl) (by simp) ?p5_0s
            refine AllReadyH.cons rfl (fun K hK => ?_) AllReadyH.nil
            go_simp
            obtain ⟨V, hV⟩ : ∃ V, V = wd.heap.size := ⟨_, rfl⟩
            rw [← hV] at hkN ⊢
            generalize wd.alloc (.cells #[.string ⟨#[45, 45, 45, 32]⟩, .string ⟨#[43, 43, 43, 32]⟩] 9) = we at hbN hkN ⊢
            have HWwe := hid (HWwd.out.trans ((hbN).mono (Nat.le_trans (Nat.le_of_eq HD1.out) HWwd.out.size)))
            have NDwe := hid (((hbN).block D (lt_of_heap NDwd.out)).trans NDwd.out)
            clear HWwd NDwd
            have hs8 : we.cell? ⟨V, 0, none⟩ = some (.string ⟨#[45, 45, 45, 32]⟩) := cell_of_blk hkN 0
            clear hbN hkN hV hHeld
            refine hK.out _ _ HWwe.out (fun hHeld => ?_)
            clear hK K
            try simp only [Act.put]
            try simp only [List.setIfInBounds_toArray]
            try simp only [List.set]
            refine take_d (i := 7) (v := ?v7_0s) 48 rfl rfl (by kernel_rfl) (by kernel_rfl) (by kernel_rfl) (fun _ _ _ h => h) (Or.inl ⟨by rfl, fun ww hSw => ?y7_0s⟩) hHeld ?r7_0s
            case y7_0s => (dsimp only at hSw; go_simp; all_goals with_reducible rfl)
            try simp only [Act.put]
            try simp only [List.setIfInBounds_toArray]
            try simp only [List.set]
            refine wpAnyH_ready (rs := [8]) (by kernel_rfl) (by simp) ?p8_0s
            refine AllReadyH.cons rfl (fun K hK => ?_) AllReadyH.nil
            go_simp
            refine hK.out _ _ HWwe.out (fun hHeld => ?_)
            clear hK K hs8
            try simp only [Act.put]
            try simp only [List.setIfInBounds_toArray]
            try simp only [List.set]
            refine wpAnyH_ready (rs := [9]) (by kernel_rfl) (by simp) ?p9_0s
            refine AllReadyH.cons rfl (fun K hK => ?_) AllReadyH.nil
            go_simp
            refine (HHD.out we).mono ?_
            rintro e wf ⟨rfl, hbN⟩
            have HWwf := hid (HWwe.out.trans ((hbN).mono (Nat.le_trans (Nat.le_of_eq HD1.out) HWwe.out.size)))
            have NDwf := hid (((hbN).block D (lt_of_heap NDwe.out)).trans NDwe.out)
            clear HWwe NDwe
            clear hbN hHeld
            go_simp
            refine hK.out _ _ HWwf.out (fun hHeld => ?_)
            clear hK K
            try simp only [Act.put]
            try simp only [List.setIfInBounds_toArray]
            try simp only [List.set]
            refine take_d (i := 10) (v := ?v10_0s) 40 rfl rfl (by kernel_rfl) (by kernel_rfl) (by kernel_rfl) (fun _ _ _ h => h) (Or.inl ⟨by rfl, fun ww hSw => ?y10_0s⟩) hHeld ?r10_0s
            case y10_0s => (dsimp only at hSw; go_simp; all_goals with_reducible rfl)
            try simp only [Act.put]
            try simp only [List.setIfInBounds_toArray]
            try simp only [List.set]
            refine take_d (i := 11) (v := ?v11_0s) 51 rfl rfl (by kernel_rfl) (by kernel_rfl) (by kernel_rfl) (fun _ _ _ h => h) (Or.inl ⟨by rfl, fun ww hSw => ?y11_0s⟩) hHeld ?r11_0s
            case y11_0s => (dsimp only at hSw; go_simp; all_goals with_reducible rfl)
            try simp only [Act.put]
            try simp only [List.setIfInBounds_toArray]
            try simp only [List.set]
            refine take_d (i := 12) (v := ?v12_0s) 52 rfl rfl (by kernel_rfl) (by kernel_rfl) (by kernel_rfl) (fun _ _ _ h => h) (Or.inl ⟨by rfl, fun ww hSw => ?y12_0s⟩) hHeld ?r12_0s
            case y12_0s => (dsimp only at hSw; go_simp; all_goals with_reducible rfl)
            try simp only [Act.put]
            try simp only [List.setIfInBounds_toArray]
            try simp only [List.set]
            refine take_d (i := 13) (v := ?v13_0s) 53 rfl rfl (by kernel_rfl) (by kernel_rfl) (by kernel_rfl) (fun _ _ _ h => h) (Or.inl ⟨by rfl, fun ww hSw => ?y13_0s⟩) hHeld ?r13_0s
            case y13_0s => (dsimp only at hSw; go_simp; all_goals with_reducible rfl)
            try simp only [Act.put]
            try simp only [List.setIfInBounds_toArray]
            try simp only [List.set]
            have q0 : wf.cell? ⟨D, 0, none⟩ = some (.string ⟨#[]⟩) := cell_of_blk NDwf.out 0
            have q1 : wf.cell? ⟨D, 1, none⟩ = some (.string ⟨#[]⟩) := cell_of_blk NDwf.out 1
            have qf : ∀ q, wf.frozen? ⟨D, q, none⟩ = false := fun q => frozen_of_blk NDwf.out q
            refine wpAnyH_ready (rs := [14]) (by kernel_rfl) (by simp) ?p14_0s
            refine AllReadyH.cons rfl (fun K hK => ?_) AllReadyH.nil
            go_simp
            have NDwg : Hid (((wf.setCell ⟨D, 0, none⟩ (.string (bB u.1))).setCell ⟨D, 1, none⟩ (.string (bB u.2))).heap[D]? = some (.cells #[.string (bB u.1), .string (bB u.2), .string ⟨#[]⟩, .string ⟨#[]⟩] 75)) := hid (set_heap _ D 1 _ _ _ (set_heap _ D 0 _ _ _ NDwf.out))
            have HWwg : Hid (Below D w1 ((wf.setCell ⟨D, 0, none⟩ (.string (bB u.1))).setCell ⟨D, 1, none⟩ (.string (bB u.2)))) := hid (below_set (below_set HWwf.out (Nat.le_refl _)) (Nat.le_refl _))
            generalize (wf.setCell ⟨D, 0, none⟩ (.string (bB u.1))).setCell ⟨D, 1, none⟩ (.string (bB u.2)) = wg at NDwg HWwg ⊢
            clear q0 q1 qf hHeld HWwf NDwf
            refine hK.out _ _ HWwg.out (fun hHeld => ?_)
            clear hK K
            try simp only [Act.put]
            try simp only [List.setIfInBounds_toArray]
            try simp only [List.set]
            refine wpAnyH_ready (rs := [15]) (by kernel_rfl) (by simp) ?p15_0s
            refine AllReadyH.cons rfl (fun K hK => ?_) AllReadyH.nil
            go_simp
            refine hK.out _ _ HWwg.out (fun hHeld => ?_)
            clear hK K hHeld
            try simp only [Act.put]
            try simp only [List.setIfInBounds_toArray]
            try simp only [List.set]
            refine wpAnyH_done (by kernel_rfl) ?_ _
            refine NoPanic.normal ?_
            go_wp2_with fail
            go_roundw
            case rel => exact ⟨HWwg, .inr (.inl ⟨by first | rfl | go_num, u, HLY, NDwg⟩)⟩
            case measure => simp [intOf]
      · -- the second name
        cases hx : L[1]? with
        | none =>
          have hlk : LL ≤ 1 := by rw [HLL.out]; exact List.getElem?_eq_none_iff.1 hx
          have j1 : ¬ ((1 : Int) < (LL : Int)) := by omega
          have HH : Hid (Un.hdrL Un.mkNew L[1]? = none) := hid (by rw [hx]; rfl)
          have HRES : Hid (Un.parse s.data.toList = .bad 2 110) := hid (by rw [HPD.out, HO.out]; simp only []; rw [HH.out])
          clear hx hlk
          go_wp2_with fail
          refine wp_region_class (C := ClsD w B) (by kernel_rfl) (by kernel_rfl) ⟨below_drewN (HBw1.out.trans (HWwr.out.mono HDW.out)) 1, ((HWwr.out.block B (by have := HDB.out; omega)).trans N0w1.out), ((HWwr.out.block (B + 1) (by have := HDB.out; omega)).trans N1w1.out), ((HWwr.out.block (B + 2) (by have := HDB.out; omega)).trans N2w1.out)⟩ ?_
          refine wpQuiet_step (fun K hK => ?_)
          rw [if_pos (by rfl)]
          refine ⟨.agg #[.string ⟨#[]⟩, .string ⟨#[]⟩], fun w' hw' => ?_, hK _ ?_⟩
          · have c0 : w'.cell? ⟨B + 2, 0, none⟩ = some (.string ⟨#[]⟩) := cell_of_blk hw'.2.2.2 0
            have c1 : w'.cell? ⟨B + 2, 1, none⟩ = some (.string ⟨#[]⟩) := cell_of_blk hw'.2.2.2 1
            go_simp
          clear hK K
          refine wpQuiet_step (fun K hK => ?_)
          rw [if_pos (by rfl)]
          refine ⟨.agg #[.string ⟨#[]⟩, .string ⟨#[]⟩], fun w' hw' => ?_, hK _ ?_⟩
          · have c0 : w'.cell? ⟨B + 2, 0, none⟩ = some (.string ⟨#[]⟩) := cell_of_blk hw'.2.2.2 0
            have c1 : w'.cell? ⟨B + 2, 1, none⟩ = some (.string ⟨#[]⟩) := cell_of_blk hw'.2.2.2 1
            go_simp
          clear hK K
          refine wpQuiet_step (fun K hK => ?_)
          go_simp
          refine ⟨_, fun _ _ => rfl, hK _ ?_⟩
          clear hK K
          refine wpQuiet_step (fun K hK => ?_)
          go_simp
          refine ⟨_, fun _ _ => rfl, hK _ ?_⟩
          clear hK K
          refine wpQuiet_step (fun K hK => ?_)
          rw [if_pos (by rfl)]
          refine ⟨undef, fun w' hw' => ?_, hK _ ?_⟩
          · unfold Oper.quietAt
            exact quiet_stA 23 #[.string ⟨#[]⟩, .string ⟨#[]⟩] rfl hw'.2.1 Tryz.sizeName rfl rfl rfl
          clear hK K
          refine wpQuiet_step (fun K hK => ?_)
          rw [if_pos (by rfl)]
          refine ⟨undef, fun w' hw' => ?_, hK _ ?_⟩
          · unfold Oper.quietAt
            exact quiet_stA 23 #[.string ⟨#[]⟩, .string ⟨#[]⟩] rfl hw'.2.2.1 Tryz.sizeName rfl rfl rfl
          clear hK K
          refine wpQuiet_step (fun K hK => ?_)
          go_simp
          refine ⟨_, fun _ _ => rfl, hK _ ?_⟩
          clear hK K
          refine wpQuiet_step (fun K hK => ?_)
          go_simp
          refine ⟨_, fun _ _ => rfl, hK _ ?_⟩
          clear hK K
          refine wpQuiet_step (fun K hK => ?_)
          go_simp
          refine ⟨_, fun _ _ => rfl, hK _ ?_⟩
          clear hK K
          refine wpQuiet_step (fun K hK => ?_)
          go_simp
          refine ⟨_, fun _ _ => rfl, hK _ ?_⟩
          clear hK K
          refine wpQuiet_nil ?_
          rintro w66 ⟨hb66, y00, y10, y20⟩
          have y0 : w66.cell? ⟨B, 0, none⟩ = some (.string ⟨#[]⟩) := cell_of_blk y00 0
          have y1 : w66.cell? ⟨B, 1, none⟩ = some (.string ⟨#[]⟩) := cell_of_blk y00 1
          have z0 : w66.cell? ⟨B + 1, 0, none⟩ = some (.string ⟨#[]⟩) := cell_of_blk y10 0
          have z1 : w66.cell? ⟨B + 1, 1, none⟩ = some (.string ⟨#[]⟩) := cell_of_blk y10 1
          have HB66 := hid hb66
          clear hb66 y00 y10 y20
          go_wp2_with fail
          exact bodyPost_ret (v := .tuple #[.agg #[.string ⟨#[]⟩, .string ⟨#[]⟩], .agg #[.string ⟨#[]⟩, .string ⟨#[]⟩], .slice none 0 0, .string ⟨#[]⟩, .int .i64 (2 : Nat), .int .i64 110]) (by simp [results, Tryz.results17, go_sem, y0, y1, z0, z1, show IntKind.i64.wrap 2 = 2 from by rfl]) rfl ⟨HB66.out, by rw [HRES.out]; rfl⟩
        | some x =>
          have hlk : 1 < LL := by rw [HLL.out]; exact (List.getElem?_eq_some_iff.1 hx).1
          have j1 : (1 : Int) < (LL : Int) := by omega
          obtain ⟨lb, lo, hla, hlb, hcell⟩ := rdT_at HRL.out (k := 1) (x := bB x) (by rw [List.getElem?_map, hx]; rfl)
          have HLB : Hid (lb < D) := hid (by rw [HD1.out]; exact hlb)
          have HCL := hid hcell
          subst hla
          have hxl : (bB x).size ≤ 8388608 := by
            have := (HLO.out x (List.mem_of_getElem? hx)).2
            rw [← dsize, bB_data]
            omega
          have HHD := hid (fun w1 => rHeader_any (bB x) ⟨#[43, 43, 43, 32]⟩ w1 hxl)
          rw [bB_data, show (ByteArray.mk #[43, 43, 43, 32]).data.toList = Un.mkNew from rfl] at HHD
          have HLX : Hid (Un.hdrL Un.mkNew L[1]? = Un.hdrD Un.mkNew x) := hid (by rw [hx]; rfl)
          have HLY : Hid (Un.hdrL Un.mkNew (some x) = Un.hdrD Un.mkNew x) := hid rfl
          clear hx hxl hlk hlb hcell
          cases hq : Un.hdrD Un.mkNew x with
          | none =>
            rw [hq] at HHD HLX HLY
            have HVE : Hid (hdrV (none) = .tuple #[.agg #[.string ⟨#[]⟩, .string ⟨#[]⟩], .bool false]) := hid rfl
            rw [HVE.out] at HHD
            clear hq HVE
            have HRES : Hid (Un.parse s.data.toList = .bad 2 110) := hid (by rw [HPD.out, HO.out]; simp only []; rw [HLX.out])
            go_wp2_with fail
            have HWwd : Hid (Below D w1 wr.drew) := hid (HWwr.out.drew)
            have NDwd : Hid (wr.drew.heap[D]? = some (.cells #[.string (bB o.1), .string (bB o.2), .string ⟨#[]⟩, .string ⟨#[]⟩] 75)) := NDwr
            refine wp_region_noPanic ?_
            refine wp_region_held_drew (S := fun w' => Below D w1 w') (by kernel_rfl) HWwd.out (fun hHeld => ?M1n)
            generalize wr.drew = wd at HWwd NDwd hHeld ⊢
            clear HWwr NDwr
            refine take_d (i := 0) (v := ?v0_1n) 41 rfl rfl (by kernel_rfl) (by kernel_rfl) (by kernel_rfl) (fun _ _ _ h => h) (Or.inl ⟨by rfl, fun ww hSw => ?y0_1n⟩) hHeld ?r0_1n
            case y0_1n => (dsimp only at hSw; go_simp; all_goals with_reducible rfl)
            try simp only [Act.put]
            try simp only [List.setIfInBounds_toArray]
            try simp only [List.set]
            refine take_d (i := 1) (v := ?v1_1n) 42 rfl rfl (by kernel_rfl) (by kernel_rfl) (by kernel_rfl) (fun _ _ _ h => h) (Or.inl ⟨by rfl, fun ww hSw => ?y1_1n⟩) hHeld ?r1_1n
            case y1_1n => (dsimp only at hSw; go_simp; all_goals with_reducible rfl)
            try simp only [Act.put]
            try simp only [List.setIfInBounds_toArray]
            try simp only [List.set]
            refine take_d (i := 2) (v := ?v2_1n) 43 rfl rfl (by kernel_rfl) (by kernel_rfl) (by kernel_rfl) (fun _ _ _ h => h) (Or.inl ⟨by rfl, fun ww hSw => ?y2_1n⟩) hHeld ?r2_1n
            case y2_1n => (dsimp only at hSw; go_simp; all_goals with_reducible rfl)
            try simp only [Act.put]
            try simp only [List.setIfInBounds_toArray]
            try simp only [List.set]
            refine take_d (i := 3) (v := ?v3_1n) 44 rfl rfl (by kernel_rfl) (by kernel_rfl) (by kernel_rfl) (fun _ _ _ h => h) (Or.inl ⟨by rfl, fun ww hSw => ?y3_1n⟩) hHeld ?r3_1n
            case y3_1n => (dsimp only at hSw; go_simp; all_goals with_reducible rfl)
            try simp only [Act.put]
            try simp only [List.setIfInBounds_toArray]
            try simp only [List.set]
            refine take_d (i := 4) (v := ?v4_1n) 45 rfl rfl (by kernel_rfl) (by kernel_rfl) (by kernel_rfl) (fun _ _ _ h => h) (Or.inl ⟨by rfl, fun ww hSw => ?y4_1n⟩) hHeld ?r4_1n
            case y4_1n => (dsimp only at hSw; have c4 : ww.cell? ⟨lb, lo + 1, none⟩ = some (.string (bB x)) := (hSw.cell (p := ⟨lb, lo + 1, none⟩) HLB.out).trans HCL.out; go_simp; all_goals with_reducible rfl)
            try simp only [Act.put]
            try simp only [List.setIfInBounds_toArray]
            try simp only [List.set]
            refine take_d (i := 6) (v := ?v6_1n) 47 rfl rfl (by kernel_rfl) (by kernel_rfl) (by kernel_rfl) (fun _ _ _ h => h) (Or.inl ⟨by rfl, fun ww hSw => ?y6_1n⟩) hHeld ?r6_1n
            case y6_1n => (dsimp only at hSw; go_simp; all_goals with_reducible rfl)
            try simp only [Act.put]
            try simp only [List.setIfInBounds_toArray]
            try simp only [List.set]
            have hbN := (Below.refl wd.heap.size wd).alloc (Nat.le_refl _) (.cells #[.string ⟨#[45, 45, 45, 32]⟩, .string ⟨#[43, 43, 43, 32]⟩] 9)
            have hkN := heap_alloc_new wd (.cells #[.string ⟨#[45, 45, 45, 32]⟩, .string ⟨#[43, 43, 43, 32]⟩] 9)
            refine wpAnyH_ready (rs := [5]) (by kernel_rfl) (by simp) ?p5_1n
            refine AllReadyH.cons rfl (fun K hK => ?_) AllReadyH.nil
            go_simp
            obtain ⟨V, hV⟩ : ∃ V, V = wd.heap.size := ⟨_, rfl⟩
            rw [← hV] at hkN ⊢
            generalize wd.alloc (.cells #[.string ⟨#[45, 45, 45, 32]⟩, .string ⟨#[43, 43, 43, 32]⟩] 9) = we at hbN hkN ⊢
            have HWwe := hid (HWwd.out.trans ((hbN).mono (Nat.le_trans (Nat.le_of_eq HD1.out) HWwd.out.size)))
            have NDwe := hid (((hbN).block D (lt_of_heap NDwd.out)).trans NDwd.out)
            clear HWwd NDwd
            have hs8 : we.cell? ⟨V, 1, none⟩ = some (.string ⟨#[43, 43, 43, 32]⟩) := cell_of_blk hkN 1
            clear hbN hkN hV hHeld
            refine hK.out _ _ HWwe.out (fun hHeld => ?_)
            clear hK K
            try simp only [Act.put]
            try simp only [List.setIfInBounds_toArray]
            try simp only [List.set]
            refine take_d (i := 7) (v := ?v7_1n) 48 rfl rfl (by kernel_rfl) (by kernel_rfl) (by kernel_rfl) (fun _ _ _ h => h) (Or.inl ⟨by rfl, fun ww hSw => ?y7_1n⟩) hHeld ?r7_1n
            case y7_1n => (dsimp only at hSw; go_simp; all_goals with_reducible rfl)
            try simp only [Act.put]
            try simp only [List.setIfInBounds_toArray]
            try simp only [List.set]
            refine wpAnyH_ready (rs := [8]) (by kernel_rfl) (by simp) ?p8_1n
            refine AllReadyH.cons rfl (fun K hK => ?_) AllReadyH.nil
            go_simp
            refine hK.out _ _ HWwe.out (fun hHeld => ?_)
            clear hK K hs8
            try simp only [Act.put]
            try simp only [List.setIfInBounds_toArray]
            try simp only [List.set]
            refine wpAnyH_ready (rs := [9]) (by kernel_rfl) (by simp) ?p9_1n
            refine AllReadyH.cons rfl (fun K hK => ?_) AllReadyH.nil
            go_simp
            refine (HHD.out we).mono ?_
            rintro e wf ⟨rfl, hbN⟩
            have HWwf := hid (HWwe.out.trans ((hbN).mono (Nat.le_trans (Nat.le_of_eq HD1.out) HWwe.out.size)))
            have NDwf := hid (((hbN).block D (lt_of_heap NDwe.out)).trans NDwe.out)
            clear HWwe NDwe
            clear hbN hHeld
            go_simp
            refine hK.out _ _ HWwf.out (fun hHeld => ?_)
            clear hK K
            try simp only [Act.put]
            try simp only [List.setIfInBounds_toArray]
            try simp only [List.set]
            refine take_d (i := 10) (v := ?v10_1n) 40 rfl rfl (by kernel_rfl) (by kernel_rfl) (by kernel_rfl) (fun _ _ _ h => h) (Or.inl ⟨by rfl, fun ww hSw => ?y10_1n⟩) hHeld ?r10_1n
            case y10_1n => (dsimp only at hSw; go_simp; all_goals with_reducible rfl)
            try simp only [Act.put]
            try simp only [List.setIfInBounds_toArray]
            try simp only [List.set]
            refine take_d (i := 11) (v := ?v11_1n) 51 rfl rfl (by kernel_rfl) (by kernel_rfl) (by kernel_rfl) (fun _ _ _ h => h) (Or.inl ⟨by rfl, fun ww hSw => ?y11_1n⟩) hHeld ?r11_1n
            case y11_1n => (dsimp only at hSw; go_simp; all_goals with_reducible rfl)
            try simp only [Act.put]
            try simp only [List.setIfInBounds_toArray]
            try simp only [List.set]
            refine take_d (i := 12) (v := ?v12_1n) 52 rfl rfl (by kernel_rfl) (by kernel_rfl) (by kernel_rfl) (fun _ _ _ h => h) (Or.inl ⟨by rfl, fun ww hSw => ?y12_1n⟩) hHeld ?r12_1n
            case y12_1n => (dsimp only at hSw; go_simp; all_goals with_reducible rfl)
            try simp only [Act.put]
            try simp only [List.setIfInBounds_toArray]
            try simp only [List.set]
            refine take_d (i := 13) (v := ?v13_1n) 53 rfl rfl (by kernel_rfl) (by kernel_rfl) (by kernel_rfl) (fun _ _ _ h => h) (Or.inl ⟨by rfl, fun ww hSw => ?y13_1n⟩) hHeld ?r13_1n
            case y13_1n => (dsimp only at hSw; go_simp; all_goals with_reducible rfl)
            try simp only [Act.put]
            try simp only [List.setIfInBounds_toArray]
            try simp only [List.set]
            have q0 : wf.cell? ⟨D, 2, none⟩ = some (.string ⟨#[]⟩) := cell_of_blk NDwf.out 2
            have q1 : wf.cell? ⟨D, 3, none⟩ = some (.string ⟨#[]⟩) := cell_of_blk NDwf.out 3
            have qf : ∀ q, wf.frozen? ⟨D, q, none⟩ = false := fun q => frozen_of_blk NDwf.out q
            refine wpAnyH_ready (rs := [14]) (by kernel_rfl) (by simp) ?p14_1n
            refine AllReadyH.cons rfl (fun K hK => ?_) AllReadyH.nil
            go_simp
            have NDwg : Hid (((wf.setCell ⟨D, 2, none⟩ (.string ⟨#[]⟩)).setCell ⟨D, 3, none⟩ (.string ⟨#[]⟩)).heap[D]? = some (.cells #[.string (bB o.1), .string (bB o.2), .string ⟨#[]⟩, .string ⟨#[]⟩] 75)) := hid (set_heap _ D 3 _ _ _ (set_heap _ D 2 _ _ _ NDwf.out))
            have HWwg : Hid (Below D w1 ((wf.setCell ⟨D, 2, none⟩ (.string ⟨#[]⟩)).setCell ⟨D, 3, none⟩ (.string ⟨#[]⟩))) := hid (below_set (below_set HWwf.out (Nat.le_refl _)) (Nat.le_refl _))
            generalize (wf.setCell ⟨D, 2, none⟩ (.string ⟨#[]⟩)).setCell ⟨D, 3, none⟩ (.string ⟨#[]⟩) = wg at NDwg HWwg ⊢
            clear q0 q1 qf hHeld HWwf NDwf
            refine hK.out _ _ HWwg.out (fun hHeld => ?_)
            clear hK K
            try simp only [Act.put]
            try simp only [List.setIfInBounds_toArray]
            try simp only [List.set]
            refine wpAnyH_ready (rs := [15]) (by kernel_rfl) (by simp) ?p15_1n
            refine AllReadyH.cons rfl (fun K hK => ?_) AllReadyH.nil
            go_simp
            refine hK.out _ _ HWwg.out (fun hHeld => ?_)
            clear hK K hHeld
            try simp only [Act.put]
            try simp only [List.setIfInBounds_toArray]
            try simp only [List.set]
            refine wpAnyH_done (by kernel_rfl) ?_ _
            refine NoPanic.normal ?_
            go_wp2_with fail
            refine wp_region_class (C := ClsD w B) (by kernel_rfl) (by kernel_rfl) ⟨below_drewN (HBw1.out.trans (HWwg.out.mono HDW.out)) 1, ((HWwg.out.block B (by have := HDB.out; omega)).trans N0w1.out), ((HWwg.out.block (B + 1) (by have := HDB.out; omega)).trans N1w1.out), ((HWwg.out.block (B + 2) (by have := HDB.out; omega)).trans N2w1.out)⟩ ?_
            refine wpQuiet_step (fun K hK => ?_)
            rw [if_pos (by rfl)]
            refine ⟨.agg #[.string ⟨#[]⟩, .string ⟨#[]⟩], fun w' hw' => ?_, hK _ ?_⟩
            · have c0 : w'.cell? ⟨B + 2, 0, none⟩ = some (.string ⟨#[]⟩) := cell_of_blk hw'.2.2.2 0
              have c1 : w'.cell? ⟨B + 2, 1, none⟩ = some (.string ⟨#[]⟩) := cell_of_blk hw'.2.2.2 1
              go_simp
            clear hK K
            refine wpQuiet_step (fun K hK => ?_)
            rw [if_pos (by rfl)]
            refine ⟨.agg #[.string ⟨#[]⟩, .string ⟨#[]⟩], fun w' hw' => ?_, hK _ ?_⟩
            · have c0 : w'.cell? ⟨B + 2, 0, none⟩ = some (.string ⟨#[]⟩) := cell_of_blk hw'.2.2.2 0
              have c1 : w'.cell? ⟨B + 2, 1, none⟩ = some (.string ⟨#[]⟩) := cell_of_blk hw'.2.2.2 1
              go_simp
            clear hK K
            refine wpQuiet_step (fun K hK => ?_)
            go_simp
            refine ⟨_, fun _ _ => rfl, hK _ ?_⟩
            clear hK K
            refine wpQuiet_step (fun K hK => ?_)
            go_simp
            refine ⟨_, fun _ _ => rfl, hK _ ?_⟩
            clear hK K
            refine wpQuiet_step (fun K hK => ?_)
            rw [if_pos (by rfl)]
            refine ⟨undef, fun w' hw' => ?_, hK _ ?_⟩
            · unfold Oper.quietAt
              exact quiet_stA 23 #[.string ⟨#[]⟩, .string ⟨#[]⟩] rfl hw'.2.1 Tryz.sizeName rfl rfl rfl
            clear hK K
            refine wpQuiet_step (fun K hK => ?_)
            rw [if_pos (by rfl)]
            refine ⟨undef, fun w' hw' => ?_, hK _ ?_⟩
            · unfold Oper.quietAt
              exact quiet_stA 23 #[.string ⟨#[]⟩, .string ⟨#[]⟩] rfl hw'.2.2.1 Tryz.sizeName rfl rfl rfl
            clear hK K
            refine wpQuiet_step (fun K hK => ?_)
            go_simp
            refine ⟨_, fun _ _ => rfl, hK _ ?_⟩
            clear hK K
            refine wpQuiet_step (fun K hK => ?_)
            go_simp
            refine ⟨_, fun _ _ => rfl, hK _ ?_⟩
            clear hK K
            refine wpQuiet_step (fun K hK => ?_)
            go_simp
            refine ⟨_, fun _ _ => rfl, hK _ ?_⟩
            clear hK K
            refine wpQuiet_step (fun K hK => ?_)
            go_simp
            refine ⟨_, fun _ _ => rfl, hK _ ?_⟩
            clear hK K
            refine wpQuiet_nil ?_
            rintro w66 ⟨hb66, y00, y10, y20⟩
            have y0 : w66.cell? ⟨B, 0, none⟩ = some (.string ⟨#[]⟩) := cell_of_blk y00 0
            have y1 : w66.cell? ⟨B, 1, none⟩ = some (.string ⟨#[]⟩) := cell_of_blk y00 1
            have z0 : w66.cell? ⟨B + 1, 0, none⟩ = some (.string ⟨#[]⟩) := cell_of_blk y10 0
            have z1 : w66.cell? ⟨B + 1, 1, none⟩ = some (.string ⟨#[]⟩) := cell_of_blk y10 1
            have HB66 := hid hb66
            clear hb66 y00 y10 y20
            go_wp2_with fail
            exact bodyPost_ret (v := .tuple #[.agg #[.string ⟨#[]⟩, .string ⟨#[]⟩], .agg #[.string ⟨#[]⟩, .string ⟨#[]⟩], .slice none 0 0, .string ⟨#[]⟩, .int .i64 (2 : Nat), .int .i64 110]) (by simp [results, Tryz.results17, go_sem, y0, y1, z0, z1, show IntKind.i64.wrap 2 = 2 from by rfl]) rfl ⟨HB66.out, by rw [HRES.out]; rfl⟩
          | some u =>
            rw [hq] at HHD HLX HLY
            have HVE : Hid (hdrV (some u) = .tuple #[.agg #[.string (bB u.1), .string (bB u.2)], .bool true]) := hid rfl
            rw [HVE.out] at HHD
            clear hq HVE
            go_wp2_with fail
            have HWwd : Hid (Below D w1 wr.drew) := hid (HWwr.out.drew)
            have NDwd : Hid (wr.drew.heap[D]? = some (.cells #[.string (bB o.1), .string (bB o.2), .string ⟨#[]⟩, .string ⟨#[]⟩] 75)) := NDwr
            refine wp_region_noPanic ?_
            refine wp_region_held_drew (S := fun w' => Below D w1 w') (by kernel_rfl) HWwd.out (fun hHeld => ?M1s)
            generalize wr.drew = wd at HWwd NDwd hHeld ⊢
            clear HWwr NDwr
            refine take_d (i := 0) (v := ?v0_1s) 41 rfl rfl (by kernel_rfl) (by kernel_rfl) (by kernel_rfl) (fun _ _ _ h => h) (Or.inl ⟨by rfl, fun ww hSw => ?y0_1s⟩) hHeld ?r0_1s
            case y0_1s => (dsimp only at hSw; go_simp; all_goals with_reducible rfl)
            try simp only [Act.put]
            try simp only [List.setIfInBounds_toArray]
            try simp only [List.set]
            refine take_d (i := 1) (v := ?v1_1s) 42 rfl rfl (by kernel_rfl) (by kernel_rfl) (by kernel_rfl) (fun _ _ _ h => h) (Or.inl ⟨by rfl, fun ww hSw => ?y1_1s⟩) hHeld ?r1_1s
            case y1_1s => (dsimp only at hSw; go_simp; all_goals with_reducible rfl)
            try simp only [Act.put]
            try simp only [List.setIfInBounds_toArray]
            try simp only [List.set]
            refine take_d (i := 2) (v := ?v2_1s) 43 rfl rfl (by kernel_rfl) (by kernel_rfl) (by kernel_rfl) (fun _ _ _ h => h) (Or.inl ⟨by rfl, fun ww hSw => ?y2_1s⟩) hHeld ?r2_1s
            case y2_1s => (dsimp only at hSw; go_simp; all_goals with_reducible rfl)
            try simp only [Act.put]
            try simp only [List.setIfInBounds_toArray]
            try simp only [List.set]
            refine take_d (i := 3) (v := ?v3_1s) 44 rfl rfl (by kernel_rfl) (by kernel_rfl) (by kernel_rfl) (fun _ _ _ h => h) (Or.inl ⟨by rfl, fun ww hSw => ?y3_1s⟩) hHeld ?r3_1s
            case y3_1s => (dsimp only at hSw; go_simp; all_goals with_reducible rfl)
            try simp only [Act.put]
            try simp only [List.setIfInBounds_toArray]
            try simp only [List.set]
            refine take_d (i := 4) (v := ?v4_1s) 45 rfl rfl (by kernel_rfl) (by kernel_rfl) (by kernel_rfl) (fun _ _ _ h => h) (Or.inl ⟨by rfl, fun ww hSw => ?y4_1s⟩) hHeld ?r4_1s
            case y4_1s => (dsimp only at hSw; have c4 : ww.cell? ⟨lb, lo + 1, none⟩ = some (.string (bB x)) := (hSw.cell (p := ⟨lb, lo + 1, none⟩) HLB.out).trans HCL.out; go_simp; all_goals with_reducible rfl)
            try simp only [Act.put]
            try simp only [List.setIfInBounds_toArray]
            try simp only [List.set]
            refine take_d (i := 6) (v := ?v6_1s) 47 rfl rfl (by kernel_rfl) (by kernel_rfl) (by kernel_rfl) (fun _ _ _ h => h) (Or.inl ⟨by rfl, fun ww hSw => ?y6_1s⟩) hHeld ?r6_1s
            case y6_1s => (dsimp only at hSw; go_simp; all_goals with_reducible rfl)
            try simp only [Act.put]
            try simp only [List.setIfInBounds_toArray]
            try simp only [List.set]
            have hbN := (Below.refl wd.heap.size wd).alloc (Nat.le_refl _) (.cells #[.string ⟨#[45, 45, 45, 32]⟩, .string ⟨#[43, 43, 43, 32]⟩] 9)
            have hkN := heap_alloc_new wd (.cells #[.string ⟨#[45, 45, 45, 32]⟩, .string ⟨#[43, 43, 43, 32]⟩] 9)
            refine wpAnyH_ready (rs := [5]) (by kernel_rfl) (by simp) ?p5_1s
            refine AllReadyH.cons rfl (fun K hK => ?_) AllReadyH.nil
            go_simp
            obtain ⟨V, hV⟩ : ∃ V, V = wd.heap.size := ⟨_, rfl⟩
            rw [← hV] at hkN ⊢
            generalize wd.alloc (.cells #[.string ⟨#[45, 45, 45, 32]⟩, .string ⟨#[43, 43, 43, 32]⟩] 9) = we at hbN hkN ⊢
            have HWwe := hid (HWwd.out.trans ((hbN).mono (Nat.le_trans (Nat.le_of_eq HD1.out) HWwd.out.size)))
            have NDwe := hid (((hbN).block D (lt_of_heap NDwd.out)).trans NDwd.out)
            clear HWwd NDwd
            have hs8 : we.cell? ⟨V, 1, none⟩ = some (.string ⟨#[43, 43, 43, 32]⟩) := cell_of_blk hkN 1
            clear hbN hkN hV hHeld
            refine hK.out _ _ HWwe.out (fun hHeld => ?_)
            clear hK K
            try simp only [Act.put]
            try simp only [List.setIfInBounds_toArray]
            try simp only [List.set]
            refine take_d (i := 7) (v := ?v7_1s) 48 rfl rfl (by kernel_rfl) (by kernel_rfl) (by kernel_rfl) (fun _ _ _ h => h) (Or.inl ⟨by rfl, fun ww hSw => ?y7_1s⟩) hHeld ?r7_1s
            case y7_1s => (dsimp only at hSw; go_simp; all_goals with_reducible rfl)
            try simp only [Act.put]
            try simp only [List.setIfInBounds_toArray]
            try simp only [List.set]
            refine wpAnyH_ready (rs := [8]) (by kernel_rfl) (by simp) ?p8_1s
            refine AllReadyH.cons rfl (fun K hK => ?_) AllReadyH.nil
            go_simp
            refine hK.out _ _ HWwe.out (fun hHeld => ?_)
            clear hK K hs8
            try simp only [Act.put]
            try simp only [List.setIfInBounds_toArray]
            try simp only [List.set]
            refine wpAnyH_ready (rs := [9]) (by kernel_rfl) (by simp) ?p9_1s
            refine AllReadyH.cons rfl (fun K hK => ?_) AllReadyH.nil
            go_simp
            refine (HHD.out we).mono ?_
            rintro e wf ⟨rfl, hbN⟩
            have HWwf := hid (HWwe.out.trans ((hbN).mono (Nat.le_trans (Nat.le_of_eq HD1.out) HWwe.out.size)))
            have NDwf := hid (((hbN).block D (lt_of_heap NDwe.out)).trans NDwe.out)
            clear HWwe NDwe
            clear hbN hHeld
            go_simp
            refine hK.out _ _ HWwf.out (fun hHeld => ?_)
            clear hK K
            try simp only [Act.put]
            try simp only [List.setIfInBounds_toArray]
            try simp only [List.set]
            refine take_d (i := 10) (v := ?v10_1s) 40 rfl rfl (by kernel_rfl) (by kernel_rfl) (by kernel_rfl) (fun _ _ _ h => h) (Or.inl ⟨by rfl, fun ww hSw => ?y10_1s⟩) hHeld ?r10_1s
            case y10_1s => (dsimp only at hSw; go_simp; all_goals with_reducible rfl)
            try simp only [Act.put]
            try simp only [List.setIfInBounds_toArray]
            try simp only [List.set]
            refine take_d (i := 11) (v := ?v11_1s) 51 rfl rfl (by kernel_rfl) (by kernel_rfl) (by kernel_rfl) (fun _ _ _ h => h) (Or.inl ⟨by rfl, fun ww hSw => ?y11_1s⟩) hHeld ?r11_1s
            case y11_1s => (dsimp only at hSw; go_simp; all_goals with_reducible rfl)
            try simp only [Act.put]
            try simp only [List.setIfInBounds_toArray]
            try simp only [List.set]
            refine take_d (i := 12) (v := ?v12_1s) 52 rfl rfl (by kernel_rfl) (by kernel_rfl) (by kernel_rfl) (fun _ _ _ h => h) (Or.inl ⟨by rfl, fun ww hSw => ?y12_1s⟩) hHeld ?r12_1s
            case y12_1s => (dsimp only at hSw; go_simp; all_goals with_reducible rfl)
            try simp only [Act.put]
            try simp only [List.setIfInBounds_toArray]
            try simp only [List.set]
            refine take_d (i := 13) (v := ?v13_1s) 53 rfl rfl (by kernel_rfl) (by kernel_rfl) (by kernel_rfl) (fun _ _ _ h => h) (Or.inl ⟨by rfl, fun ww hSw => ?y13_1s⟩) hHeld ?r13_1s
            case y13_1s => (dsimp only at hSw; go_simp; all_goals with_reducible rfl)
            try simp only [Act.put]
            try simp only [List.setIfInBounds_toArray]
            try simp only [List.set]
            have q0 : wf.cell? ⟨D, 2, none⟩ = some (.string ⟨#[]⟩) := cell_of_blk NDwf.out 2
            have q1 : wf.cell? ⟨D, 3, none⟩ = some (.string ⟨#[]⟩) := cell_of_blk NDwf.out 3
            have qf : ∀ q, wf.frozen? ⟨D, q, none⟩ = false := fun q => frozen_of_blk NDwf.out q
            refine wpAnyH_ready (rs := [14]) (by kernel_rfl) (by simp) ?p14_1s
            refine AllReadyH.cons rfl (fun K hK => ?_) AllReadyH.nil
            go_simp
            have NDwg : Hid (((wf.setCell ⟨D, 2, none⟩ (.string (bB u.1))).setCell ⟨D, 3, none⟩ (.string (bB u.2))).heap[D]? = some (.cells #[.string (bB o.1), .string (bB o.2), .string (bB u.1), .string (bB u.2)] 75)) := hid (set_heap _ D 3 _ _ _ (set_heap _ D 2 _ _ _ NDwf.out))
            have HWwg : Hid (Below D w1 ((wf.setCell ⟨D, 2, none⟩ (.string (bB u.1))).setCell ⟨D, 3, none⟩ (.string (bB u.2)))) := hid (below_set (below_set HWwf.out (Nat.le_refl _)) (Nat.le_refl _))
            generalize (wf.setCell ⟨D, 2, none⟩ (.string (bB u.1))).setCell ⟨D, 3, none⟩ (.string (bB u.2)) = wg at NDwg HWwg ⊢
            clear q0 q1 qf hHeld HWwf NDwf
            refine hK.out _ _ HWwg.out (fun hHeld => ?_)
            clear hK K
            try simp only [Act.put]
            try simp only [List.setIfInBounds_toArray]
            try simp only [List.set]
            refine wpAnyH_ready (rs := [15]) (by kernel_rfl) (by simp) ?p15_1s
            refine AllReadyH.cons rfl (fun K hK => ?_) AllReadyH.nil
            go_simp
            refine hK.out _ _ HWwg.out (fun hHeld => ?_)
            clear hK K hHeld
            try simp only [Act.put]
            try simp only [List.setIfInBounds_toArray]
            try simp only [List.set]
            refine wpAnyH_done (by kernel_rfl) ?_ _
            refine NoPanic.normal ?_
            go_wp2_with fail
            go_roundw
            case rel => exact ⟨HWwg, .inr (.inr ⟨by first | rfl | go_num, o, u, HO, HLY, NDwg⟩)⟩
            case measure => simp [intOf]
      · -- the hunks
        have h2L : 2 ≤ LL := by
          rcases Nat.lt_or_ge 1 LL with h | h
          · exact h
          · exfalso
            have h9 := HQ.out
            rw [List.getElem?_eq_none_iff.2 (by rw [← HLL.out]; exact h)] at h9
            cases h9
        obtain ⟨F0, hF0⟩ : ∃ F0, F0 = s.data.toList.length + 1 := ⟨_, rfl⟩
        have HRES0 : Hid (Un.parse s.data.toList = endP s.data.toList L o q (Un.hunksF F0 (L.drop 2) (2 + 1) [])) := hid (by
          rw [HPD.out, HO.out]
          simp only []
          rw [HQ.out, hF0]
          simp only []
          cases Un.hunksF (s.data.toList.length + 1) (L.drop 2) (2 + 1) [] <;> rfl)
        obtain ⟨y0, hy0⟩ : ∃ y, L[0]? = some y := ⟨_, List.getElem?_eq_getElem (by have := HLL.out; omega)⟩
        obtain ⟨lb, lo, hla, _, _⟩ := rdT_at HRL.out (k := 0) (x := bB y0) (by rw [List.getElem?_map, hy0]; rfl)
        subst hla
        have HCL : Hid (∀ i y, L[i]? = some y → lb < D ∧ w1.cell? ⟨lb, lo + i, none⟩ = some (.string (bB y))) := hid (fun i y hy => by
          obtain ⟨b, o', hla, h1, h2⟩ := rdT_at HRL.out (k := i) (x := bB y) (by rw [List.getElem?_map, hy]; rfl)
          cases hla
          exact ⟨by rw [HD1.out]; exact h1, h2⟩)
        have HF1 : Hid (LL < F0) := hid (by have := HLS.out; omega)
        clear HO HQ HPD hy0 hF0 HLS
        go_wp2_with fail
        obtain ⟨w3, rfl⟩ : ∃ w3, w3 = wr := ⟨_, rfl⟩
        go_loopw [13, 14] (fun vo ai wr => ∃ (k f1 : Nat) (acc : List Hk), ai = .int .i64 k ∧ Hid (OwnH wr (D + 1) vo acc) ∧ Hid (Below D w1 wr) ∧ Hid (wr.heap[D]? = some (.cells #[.string (bB o.1), .string (bB o.2), .string (bB q.1), .string (bB q.2)] 75)) ∧ 2 ≤ k ∧ k ≤ LL ∧ acc.length ≤ k ∧ Hid (∀ h ∈ acc, SmH h ∧ SzH h) ∧ Hid (LL - k < f1 ∧ Un.hunksF f1 (L.drop k) (k + 1) acc = Un.hunksF F0 (L.drop 2) (2 + 1) [])) (fun _ ai _ => LL - (intOf ai).toNat)
        case atStart => exact ⟨2, F0, [], rfl, hid (OwnH.nil _ _), HWwr, NDwr, by omega, h2L, by decide, hid (fun h hh => by cases hh), hid ⟨by have := HF1.out; omega, rfl⟩⟩
        case round =>
          clear HWwr NDwr
          obtain ⟨k, f1, acc, rfl, HOwr, HWwr, NDwr, h2k, hkL, hal, HS, HI⟩ := hrel
          obtain ⟨va, vc, rfl⟩ := HOwr.out.shape
          obtain ⟨f2, hf2⟩ : ∃ f2, f1 = f2 + 1 := ⟨f1 - 1, by have := HI.out.1; omega⟩
          by_cases hlt : k < LL
          · obtain ⟨x, hx⟩ : ∃ x, L[k]? = some x := ⟨_, List.getElem?_eq_getElem (by rw [← HLL.out]; exact hlt)⟩
            have hxc : wr.cell? ⟨lb, lo + k, none⟩ = some (.string (bB x)) := (HWwr.out.cell (p := ⟨lb, lo + k, none⟩) (HCL.out k x hx).1).trans (HCL.out k x hx).2
            have i2 : (k : Int) < (LL : Int) := by omega
            have i3 : (0 : Int) ≤ (k : Int) := by omega
            have HBH := hid (fun w1 => rBehind_any (bB x) ⟨#[64, 64, 32, 45]⟩ w1)
            rw [bB_data, show (ByteArray.mk #[64, 64, 32, 45]).data.toList = Un.mkB from rfl] at HBH
            unfold behB at HBH
            rw [Un.pre_begs] at HBH
            have HXM := hid (List.mem_of_getElem? hx)
            have HHX := hid hx
            cases hbg : Un.begs x with
            | false =>
              have HR1 : Hid (Un.parse s.data.toList = endP s.data.toList L o q (.fin (k + 1) acc)) := hid (by rw [HRES0.out, ← HI.out.2, hf2, Un.hunksD_end hx hbg])
              rw [hbg] at HBH
              clear hbg hx hf2
              go_wp2_with fail
              refine (HBH.out wr).mono ?_
              rintro e wr ⟨rfl, rfl⟩
              clear HBH hxc
              rcases Nat.eq_zero_or_pos acc.length with h0 | h0
              · have e : acc = [] := List.length_eq_zero_iff.1 h0
                subst e
                have HRES : Hid (Un.parse s.data.toList = .bad (k + 1) 100) := hid (by rw [HR1.out]; rfl)
                have i5 : IntKind.i64.wrap ((k : Int) + 1) = ((k + 1 : Nat) : Int) := by rw [wrapOk (by omega) (by omega)]; rfl
                clear h0
                go_wp2_with fail
                refine wp_region_class (C := ClsD w B) (by kernel_rfl) (by kernel_rfl) ⟨below_drewN (HBw1.out.trans (HWwr.out.mono HDW.out)) 1, ((HWwr.out.block B (by have := HDB.out; omega)).trans N0w1.out), ((HWwr.out.block (B + 1) (by have := HDB.out; omega)).trans N1w1.out), ((HWwr.out.block (B + 2) (by have := HDB.out; omega)).trans N2w1.out)⟩ ?_
                refine wpQuiet_step (fun K hK => ?_)
                rw [if_pos (by rfl)]
                refine ⟨.agg #[.string ⟨#[]⟩, .string ⟨#[]⟩], fun w' hw' => ?_, hK _ ?_⟩
                · have c0 : w'.cell? ⟨B + 2, 0, none⟩ = some (.string ⟨#[]⟩) := cell_of_blk hw'.2.2.2 0
                  have c1 : w'.cell? ⟨B + 2, 1, none⟩ = some (.string ⟨#[]⟩) := cell_of_blk hw'.2.2.2 1
                  go_simp
                clear hK K
                refine wpQuiet_step (fun K hK => ?_)
                rw [if_pos (by rfl)]
                refine ⟨.agg #[.string ⟨#[]⟩, .string ⟨#[]⟩], fun w' hw' => ?_, hK _ ?_⟩
                · have c0 : w'.cell? ⟨B + 2, 0, none⟩ = some (.string ⟨#[]⟩) := cell_of_blk hw'.2.2.2 0
                  have c1 : w'.cell? ⟨B + 2, 1, none⟩ = some (.string ⟨#[]⟩) := cell_of_blk hw'.2.2.2 1
                  go_simp
                clear hK K
                refine wpQuiet_step (fun K hK => ?_)
                go_simp
                refine ⟨_, fun _ _ => rfl, hK _ ?_⟩
                clear hK K
                refine wpQuiet_step (fun K hK => ?_)
                go_simp
                refine ⟨_, fun _ _ => rfl, hK _ ?_⟩
                clear hK K
                refine wpQuiet_step (fun K hK => ?_)
                rw [if_pos (by rfl)]
                refine ⟨undef, fun w' hw' => ?_, hK _ ?_⟩
                · unfold Oper.quietAt
                  exact quiet_stA 23 #[.string ⟨#[]⟩, .string ⟨#[]⟩] rfl hw'.2.1 Tryz.sizeName rfl rfl rfl
                clear hK K
                refine wpQuiet_step (fun K hK => ?_)
                rw [if_pos (by rfl)]
                refine ⟨undef, fun w' hw' => ?_, hK _ ?_⟩
                · unfold Oper.quietAt
                  exact quiet_stA 23 #[.string ⟨#[]⟩, .string ⟨#[]⟩] rfl hw'.2.2.1 Tryz.sizeName rfl rfl rfl
                clear hK K
                refine wpQuiet_step (fun K hK => ?_)
                go_simp
                refine ⟨_, fun _ _ => rfl, hK _ ?_⟩
                clear hK K
                refine wpQuiet_step (fun K hK => ?_)
                go_simp
                refine ⟨_, fun _ _ => rfl, hK _ ?_⟩
                clear hK K
                refine wpQuiet_step (fun K hK => ?_)
                go_simp
                refine ⟨_, fun _ _ => rfl, hK _ ?_⟩
                clear hK K
                refine wpQuiet_step (fun K hK => ?_)
                go_simp
                refine ⟨_, fun _ _ => rfl, hK _ ?_⟩
                clear hK K
                refine wpQuiet_nil ?_
                rintro w66 ⟨hb66, y00, y10, y20⟩
                have y0 : w66.cell? ⟨B, 0, none⟩ = some (.string ⟨#[]⟩) := cell_of_blk y00 0
                have y1 : w66.cell? ⟨B, 1, none⟩ = some (.string ⟨#[]⟩) := cell_of_blk y00 1
                have z0 : w66.cell? ⟨B + 1, 0, none⟩ = some (.string ⟨#[]⟩) := cell_of_blk y10 0
                have z1 : w66.cell? ⟨B + 1, 1, none⟩ = some (.string ⟨#[]⟩) := cell_of_blk y10 1
                have HB66 := hid hb66
                clear hb66 y00 y10 y20
                go_wp2_with fail
                exact bodyPost_ret (v := .tuple #[.agg #[.string ⟨#[]⟩, .string ⟨#[]⟩], .agg #[.string ⟨#[]⟩, .string ⟨#[]⟩], .slice none 0 0, .string ⟨#[]⟩, .int .i64 (k + 1 : Nat), .int .i64 100]) (by simp [results, Tryz.results17, go_sem, y0, y1, z0, z1]) rfl ⟨HB66.out, by rw [HRES.out]; rfl⟩
              · have i5 : ((acc.length : Int) == 0) = false := ine (by omega)
                have hne : acc ≠ [] := fun e => by rw [e] at h0; exact absurd h0 (by decide)
                have HRES : Hid (Un.parse s.data.toList = endP s.data.toList L o q (.ok acc (k + 1))) := hid (by rw [HR1.out]; unfold Un.Pr.fin; rw [if_neg hne])
                have hal2 : acc.length ≤ 5000000 := by omega
                have HF0 : Hid (flN L 0 = 0) := hid (by unfold flN; rw [List.take_zero]; rfl)
                clear h0 hne HR1
                go_wp2_with fail
                obtain ⟨wq, rfl⟩ : ∃ wq, wq = wr := ⟨_, rfl⟩
                go_loopw [22, 23] (fun sk ii wr => ∃ i : Nat, i ≤ k ∧ ii = .int .i64 i ∧ sk = .int .i64 (flN L i : Nat) ∧ wr = wq) (fun _ ii _ => k - (intOf ii).toNat)
                case atStart => exact ⟨0, Nat.zero_le _, rfl, by rw [HF0.out]; rfl, rfl⟩
                case round =>
                  obtain ⟨i, hi, rfl, rfl, hw⟩ := hrel
                  subst hw
                  by_cases hik : i < k
                  · obtain ⟨y, hy⟩ : ∃ y, L[i]? = some y := ⟨_, List.getElem?_eq_getElem (by have := HLL.out; omega)⟩
                    have c3 : wr.cell? ⟨lb, lo + i, none⟩ = some (.string (bB y)) := (HWwr.out.cell (p := ⟨lb, lo + i, none⟩) (HCL.out i y hy).1).trans (HCL.out i y hy).2
                    have HFN := hid (flN_next hy)
                    obtain ⟨F1, hF1⟩ : ∃ F, F = flN L i := ⟨_, rfl⟩
                    obtain ⟨F2, hF2⟩ : ∃ F, F = flN L (i + 1) := ⟨_, rfl⟩
                    have hFT2 := HFT.out (i + 1)
                    have HFF : Hid (F2 = flN L (i + 1)) := hid hF2
                    have hys : (bB y).size = y.length := by rw [← dsize, bB_data]
                    have hf : F2 = F1 + (bB y).size := by rw [hF1, hF2, hys]; exact HFN.out
                    have i6 : IntKind.i64.wrap ((F1 : Int) + ((bB y).size : Int)) = (F2 : Int) := by rw [wrapOk (by omega) (by omega)]; omega
                    have i7 : (i : Int) < (LL : Int) := by omega
                    have i8 : (0 : Int) ≤ (i : Int) := by omega
                    rw [← hF1]
                    clear hy HFN hF1 hF2 hFT2 hys hf
                    go_wp2_with fail
                    go_roundw
                    case rel => exact ⟨i + 1, by omega, by go_num, by rw [← HFF.out], by first | rfl | trivial⟩
                    case measure => simp [intOf]; omega
                  · obtain rfl : i = k := by omega
                    have i7 : ¬ ((i : Int) < (i : Int)) := by omega
                    obtain ⟨F, hF⟩ : ∃ F, F = flN L i := ⟨_, rfl⟩
                    rw [← hF]
                    have hFT := HFT.out i
                    rw [← hF] at hFT
                    obtain ⟨M, hM⟩ : ∃ M, M = min F s.size := ⟨_, rfl⟩
                    have HM : Hid (min (F : Int) (s.size : Int) = (M : Int)) := hid (by rw [hM]; omega)
                    have hm1 : (0 : Int) ≤ (M : Int) := by omega
                    have hm2 : (M : Int) ≤ (s.size : Int) := by omega
                    have hm3 : M ≤ s.size := by omega
                    have HX := hid (dropE s M)
                    have HRES2 : Hid (Un.parse s.data.toList = .ok o q acc (s.data.toList.drop M)) := hid (by rw [HRES.out]; unfold endP; simp only []; rw [show i + 1 - 1 = i by omega, ← hF, hM, dsize])
                    clear hF hM HRES
                    go_wp2_with fail
                    have HWwd : Hid (Below D w1 wr.drew) := hid (HWwr.out.drew)
                    have NDwd : Hid (wr.drew.heap[D]? = some (.cells #[.string (bB o.1), .string (bB o.2), .string (bB q.1), .string (bB q.2)] 75)) := NDwr
                    have HOwd : Hid (OwnH wr.drew (D + 1) (.slice va acc.length vc) acc) := hid (HOwr.out.stays (below_drewN (Below.refl _ _) 1))
                    refine wp_region_noPanic ?_
                    refine wp_region_held_drew (S := fun w' => w'.heap[D]? = some (.cells #[.string (bB o.1), .string (bB o.2), .string (bB q.1), .string (bB q.2)] 75)) (by kernel_rfl) NDwd.out (fun hHeld => ?Mf1)
                    generalize wr.drew = wd at HWwd NDwd HOwd hHeld ⊢
                    clear HWwr NDwr HOwr
                    refine take_d (i := 0) (v := ?v0_f1) 154 rfl rfl (by kernel_rfl) (by kernel_rfl) (by kernel_rfl) (fun _ _ _ h => h) (Or.inl ⟨by rfl, fun ww hSw => ?y0_f1⟩) hHeld ?r0_f1
                    case y0_f1 => (dsimp only at hSw; go_simp; all_goals with_reducible rfl)
                    try simp only [Act.put]
                    try simp only [List.setIfInBounds_toArray]
                    try simp only [List.set]
                    refine take_d (i := 1) (v := ?v1_f1) 155 rfl rfl (by kernel_rfl) (by kernel_rfl) (by kernel_rfl) (fun _ _ _ h => h) (Or.inl ⟨by rfl, fun ww hSw => ?y1_f1⟩) hHeld ?r1_f1
                    case y1_f1 => (dsimp only at hSw; have t0 : ww.cell? ⟨D, 0, none⟩ = some (.string (bB o.1)) := cell_of_blk hSw 0; have t1 : ww.cell? ⟨D, 1, none⟩ = some (.string (bB o.2)) := cell_of_blk hSw 1; go_simp; all_goals with_reducible rfl)
                    try simp only [Act.put]
                    try simp only [List.setIfInBounds_toArray]
                    try simp only [List.set]
                    refine take_d (i := 2) (v := ?v2_f1) 156 rfl rfl (by kernel_rfl) (by kernel_rfl) (by kernel_rfl) (fun _ _ _ h => h) (Or.inl ⟨by rfl, fun ww hSw => ?y2_f1⟩) hHeld ?r2_f1
                    case y2_f1 => (dsimp only at hSw; go_simp; all_goals with_reducible rfl)
                    try simp only [Act.put]
                    try simp only [List.setIfInBounds_toArray]
                    try simp only [List.set]
                    refine take_d (i := 3) (v := ?v3_f1) 157 rfl rfl (by kernel_rfl) (by kernel_rfl) (by kernel_rfl) (fun _ _ _ h => h) (Or.inl ⟨by rfl, fun ww hSw => ?y3_f1⟩) hHeld ?r3_f1
                    case y3_f1 => (dsimp only at hSw; have t0 : ww.cell? ⟨D, 2, none⟩ = some (.string (bB q.1)) := cell_of_blk hSw 2; have t1 : ww.cell? ⟨D, 3, none⟩ = some (.string (bB q.2)) := cell_of_blk hSw 3; go_simp; all_goals with_reducible rfl)
                    try simp only [Act.put]
                    try simp only [List.setIfInBounds_toArray]
                    try simp only [List.set]
                    refine take_d (i := 4) (v := ?v4_f1) 158 rfl rfl (by kernel_rfl) (by kernel_rfl) (by kernel_rfl) (fun _ _ _ h => h) (Or.inl ⟨by rfl, fun ww hSw => ?y4_f1⟩) hHeld ?r4_f1
                    case y4_f1 => (dsimp only at hSw; go_simp; all_goals with_reducible rfl)
                    try simp only [Act.put]
                    try simp only [List.setIfInBounds_toArray]
                    try simp only [List.set]
                    refine take_d (i := 5) (v := ?v5_f1) 159 rfl rfl (by kernel_rfl) (by kernel_rfl) (by kernel_rfl) (fun _ _ _ h => h) (Or.inl ⟨by rfl, fun ww hSw => ?y5_f1⟩) hHeld ?r5_f1
                    case y5_f1 => (dsimp only at hSw; go_simp; all_goals with_reducible rfl)
                    try simp only [Act.put]
                    try simp only [List.setIfInBounds_toArray]
                    try simp only [List.set]
                    refine take_d (i := 6) (v := ?v6_f1) 160 rfl rfl (by kernel_rfl) (by kernel_rfl) (by kernel_rfl) (fun _ _ _ h => h) (Or.inl ⟨by rfl, fun ww hSw => ?y6_f1⟩) hHeld ?r6_f1
                    case y6_f1 => (dsimp only at hSw; go_simp; all_goals with_reducible rfl)
                    try simp only [Act.put]
                    try simp only [List.setIfInBounds_toArray]
                    try simp only [List.set]
                    refine take_d (i := 7) (v := ?v7_f1) 161 rfl rfl (by kernel_rfl) (by kernel_rfl) (by kernel_rfl) (fun _ _ _ h => h) (Or.inl ⟨by rfl, fun ww hSw => ?y7_f1⟩) hHeld ?r7_f1
                    case y7_f1 => (dsimp only at hSw; go_simp; all_goals with_reducible rfl)
                    try simp only [Act.put]
                    try simp only [List.setIfInBounds_toArray]
                    try simp only [List.set]
                    refine take_d (i := 8) (v := ?v8_f1) 162 rfl rfl (by kernel_rfl) (by kernel_rfl) (by kernel_rfl) (fun _ _ _ h => h) (Or.inl ⟨by rfl, fun ww hSw => ?y8_f1⟩) hHeld ?r8_f1
                    case y8_f1 => (dsimp only at hSw; go_simp; all_goals with_reducible rfl)
                    try simp only [Act.put]
                    try simp only [List.setIfInBounds_toArray]
                    try simp only [List.set]
                    refine take_d (i := 9) (v := ?v9_f1) 163 rfl rfl (by kernel_rfl) (by kernel_rfl) (by kernel_rfl) (fun _ _ _ h => h) (Or.inl ⟨by rfl, fun ww hSw => ?y9_f1⟩) hHeld ?r9_f1
                    case y9_f1 => (dsimp only at hSw; go_simp; rw [HM.out]; all_goals with_reducible rfl)
                    try simp only [Act.put]
                    try simp only [List.setIfInBounds_toArray]
                    try simp only [List.set]
                    refine take_d (i := 10) (v := ?v10_f1) 164 rfl rfl (by kernel_rfl) (by kernel_rfl) (by kernel_rfl) (fun _ _ _ h => h) (Or.inl ⟨by rfl, fun ww hSw => ?y10_f1⟩) hHeld ?r10_f1
                    case y10_f1 => (dsimp only at hSw; go_simp; all_goals with_reducible rfl)
                    try simp only [Act.put]
                    try simp only [List.setIfInBounds_toArray]
                    try simp only [List.set]
                    have N0wd := hid ((HWwd.out.block B (by have := HDB.out; omega)).trans N0w1.out)
                    have N1wd := hid ((HWwd.out.block (B + 1) (by have := HDB.out; omega)).trans N1w1.out)
                    have HBwd := hid (HBw1.out.trans (HWwd.out.mono HDW.out))
                    clear HWwd
                    refine wpAnyH_ready (rs := [11]) (by kernel_rfl) (by simp) ?p11_f1
                    refine AllReadyH.cons rfl (fun K hK => ?_) AllReadyH.nil
                    rw [if_pos (by rfl)]
                    refine wpOp_stA 23 #[.string (bB o.1), .string (bB o.2)] rfl N0wd.out Tryz.sizeName rfl rfl rfl rfl ?_
                    intro w7 hk7 hkp7
                    have HK7 := hid hk7
                    have HB7 := hid (Kept.onto HBwd.out hkp7 (Nat.le_of_eq HBW.out.symm) (Nat.le_refl _))
                    have N17 := hid ((hkp7.block (B + 1) (lt_of_heap N1wd.out) (by omega)).trans N1wd.out)
                    have HO7 := hid (HOwd.out.kept hkp7 N0wd.out (by decide) (by decide))
                    have hh7 : w7.heap[D]? = some (.cells #[.string (bB o.1), .string (bB o.2), .string (bB q.1), .string (bB q.2)] 75) := (hkp7.block D (lt_of_heap NDwd.out) (by have := HDB.out; omega)).trans NDwd.out
                    refine hK.out _ _ hh7 (fun hHeld => ?_)
                    clear hK K hk7 hkp7
                    try simp only [Act.put]
                    try simp only [List.setIfInBounds_toArray]
                    try simp only [List.set]
                    refine wpAnyH_ready (rs := [12]) (by kernel_rfl) (by simp) ?p12_f1
                    refine AllReadyH.cons rfl (fun K hK => ?_) AllReadyH.nil
                    rw [if_pos (by rfl)]
                    refine wpOp_stA 23 #[.string (bB q.1), .string (bB q.2)] rfl N17.out Tryz.sizeName rfl rfl rfl rfl ?_
                    intro w8 hk8 hkp8
                    have y0 : w8.cell? ⟨B, 0, none⟩ = some (.string (bB o.1)) := cell_of_blk ((hkp8.block B (lt_of_heap HK7.out) (by omega)).trans HK7.out) 0
                    have y1 : w8.cell? ⟨B, 1, none⟩ = some (.string (bB o.2)) := cell_of_blk ((hkp8.block B (lt_of_heap HK7.out) (by omega)).trans HK7.out) 1
                    have z0 : w8.cell? ⟨B + 1, 0, none⟩ = some (.string (bB q.1)) := cell_of_blk hk8 0
                    have z1 : w8.cell? ⟨B + 1, 1, none⟩ = some (.string (bB q.2)) := cell_of_blk hk8 1
                    have HB8 := hid (Kept.onto HB7.out hkp8 (by have := HBW.out; omega) (Nat.le_refl _))
                    have HO8 := hid (HO7.out.kept hkp8 N17.out (by decide) (by decide))
                    have hh8 : w8.heap[D]? = some (.cells #[.string (bB o.1), .string (bB o.2), .string (bB q.1), .string (bB q.2)] 75) := (hkp8.block D (lt_of_heap (w := w7) hh7) (by have := HDB.out; omega)).trans hh7
                    refine hK.out _ _ hh8 (fun hHeld => ?_)
                    clear hK K hk8 hkp8 hh7
                    try simp only [Act.put]
                    try simp only [List.setIfInBounds_toArray]
                    try simp only [List.set]
                    refine wpAnyH_ready (rs := [13]) (by kernel_rfl) (by simp) ?p13_f1
                    refine AllReadyH.cons rfl (fun K hK => ?_) AllReadyH.nil
                    go_simp
                    refine hK.out _ _ hh8 (fun hHeld => ?_)
                    clear hK K
                    try simp only [Act.put]
                    try simp only [List.setIfInBounds_toArray]
                    try simp only [List.set]
                    refine wpAnyH_ready (rs := [14]) (by kernel_rfl) (by simp) ?p14_f1
                    refine AllReadyH.cons rfl (fun K hK => ?_) AllReadyH.nil
                    go_simp
                    refine hK.out _ _ hh8 (fun hHeld => ?_)
                    clear hK K
                    try simp only [Act.put]
                    try simp only [List.setIfInBounds_toArray]
                    try simp only [List.set]
                    refine wpAnyH_ready (rs := [15]) (by kernel_rfl) (by simp) ?p15_f1
                    refine AllReadyH.cons rfl (fun K hK => ?_) AllReadyH.nil
                    go_simp
                    refine hK.out _ _ hh8 (fun hHeld => ?_)
                    clear hK K
                    try simp only [Act.put]
                    try simp only [List.setIfInBounds_toArray]
                    try simp only [List.set]
                    refine wpAnyH_ready (rs := [16]) (by kernel_rfl) (by simp) ?p16_f1
                    refine AllReadyH.cons rfl (fun K hK => ?_) AllReadyH.nil
                    go_simp
                    refine hK.out _ _ hh8 (fun hHeld => ?_)
                    clear hK K
                    try simp only [Act.put]
                    try simp only [List.setIfInBounds_toArray]
                    try simp only [List.set]
                    refine wpAnyH_done (by kernel_rfl) ?_ _
                    refine NoPanic.normal ?_
                    go_wp2_with fail
                    exact bodyPost_ret (v := .tuple #[.agg #[.string (bB o.1), .string (bB o.2)], .agg #[.string (bB q.1), .string (bB q.2)], .slice va acc.length vc, .string (s.extract M s.size), .int .i64 0, .int .i64 0]) (by simp [results, Tryz.results17, go_sem, y0, y1, z0, z1]) rfl ⟨HB8.out, by
                      rw [HRES2.out]
                      exact ⟨_, by rw [HX.out], HO8.out.mono (by have := HDW.out; omega), fun h hh => (HS.out h hh).2, hal2⟩⟩
            | true =>
              obtain ⟨K1, hK1⟩ : ∃ K1, K1 = k + 1 := ⟨_, rfl⟩
              have HK1 := hid hK1
              have i5 : IntKind.i64.wrap ((k : Int) + 1) = (K1 : Int) := by rw [wrapOk (by omega) (by omega)]; omega
              have hK1L : K1 ≤ LL := by omega
              have HKI : Hid ((k : Int) + 1 = (K1 : Int)) := hid (by omega)
              have hxl : (bB x).size ≤ 8388608 := by
                have := (HLO.out x HXM.out).2
                rw [← dsize, bB_data]
                omega
              have HHE := hid (fun w1 => rHead_any (bB x) w1 hxl)
              rw [bB_data] at HHE
              have HBG := hid hbg
              have HF2 : Hid (LL - k < f2 + 1) := hid (by have := HI.out.1; omega)
              have HI2 : Hid (Un.hunksF F0 (L.drop 2) (2 + 1) [] = Un.hunksF (f2 + 1) (L.drop k) (k + 1) acc) := hid (by rw [← hf2]; exact HI.out.2.symm)
              rw [hbg] at HBH
              clear hbg hx hxl HI hf2
              go_wp2_with fail
              refine (HBH.out wr).mono ?_
              rintro e wr ⟨rfl, rfl⟩
              clear HBH
              go_wp2_with fail
              refine (HHE.out wr).mono ?_
              rintro e w4 ⟨⟨a, n, b, m, xh0, rfl, hall⟩, hb4⟩
              have HWw4 := hid (HWwr.out.trans ((hb4).mono (Nat.le_trans (Nat.le_of_eq HD1.out) HWwr.out.size)))
              have NDw4 := hid (((hb4).block D (lt_of_heap NDwr.out)).trans NDwr.out)
              have HOw4 := hid (HOwr.out.stays hb4)
              clear hb4 hxc HHE HWwr NDwr HOwr
              cases hp : Un.placeD (Un.bare x) with
              | none =>
                rw [Option.isSome_none]
                have HRES : Hid (Un.parse s.data.toList = .bad K1 100) := hid (by rw [HRES0.out, HI2.out, Un.hunksD_head HHX.out HBG.out hp, HK1.out]; rfl)
                have hbN := (Below.refl w4.heap.size w4).alloc (Nat.le_refl _) (.cells #[.int .i64 a, .int .i64 n, .int .i64 b, .int .i64 m, .string xh0, .slice none 0 0] 37)
                clear hp hall
                go_wp2_with fail
                generalize w4.alloc (.cells #[.int .i64 a, .int .i64 n, .int .i64 b, .int .i64 m, .string xh0, .slice none 0 0] 37) = w5 at hbN ⊢
                have HWw5 := hid (HWw4.out.trans ((hbN).mono (Nat.le_trans (Nat.le_of_eq HD1.out) HWw4.out.size)))
                clear hbN
                refine wp_region_class (C := ClsD w B) (by kernel_rfl) (by kernel_rfl) ⟨below_drewN (HBw1.out.trans (HWw5.out.mono HDW.out)) 1, ((HWw5.out.block B (by have := HDB.out; omega)).trans N0w1.out), ((HWw5.out.block (B + 1) (by have := HDB.out; omega)).trans N1w1.out), ((HWw5.out.block (B + 2) (by have := HDB.out; omega)).trans N2w1.out)⟩ ?_
                refine wpQuiet_step (fun K hK => ?_)
                rw [if_pos (by rfl)]
                refine ⟨.agg #[.string ⟨#[]⟩, .string ⟨#[]⟩], fun w' hw' => ?_, hK _ ?_⟩
                · have c0 : w'.cell? ⟨B + 2, 0, none⟩ = some (.string ⟨#[]⟩) := cell_of_blk hw'.2.2.2 0
                  have c1 : w'.cell? ⟨B + 2, 1, none⟩ = some (.string ⟨#[]⟩) := cell_of_blk hw'.2.2.2 1
                  go_simp
                clear hK K
                refine wpQuiet_step (fun K hK => ?_)
                rw [if_pos (by rfl)]
                refine ⟨.agg #[.string ⟨#[]⟩, .string ⟨#[]⟩], fun w' hw' => ?_, hK _ ?_⟩
                · have c0 : w'.cell? ⟨B + 2, 0, none⟩ = some (.string ⟨#[]⟩) := cell_of_blk hw'.2.2.2 0
                  have c1 : w'.cell? ⟨B + 2, 1, none⟩ = some (.string ⟨#[]⟩) := cell_of_blk hw'.2.2.2 1
                  go_simp
                clear hK K
                refine wpQuiet_step (fun K hK => ?_)
                go_simp
                refine ⟨_, fun _ _ => rfl, hK _ ?_⟩
                clear hK K
                refine wpQuiet_step (fun K hK => ?_)
                go_simp
                refine ⟨_, fun _ _ => rfl, hK _ ?_⟩
                clear hK K
                refine wpQuiet_step (fun K hK => ?_)
                rw [if_pos (by rfl)]
                refine ⟨undef, fun w' hw' => ?_, hK _ ?_⟩
                · unfold Oper.quietAt
                  exact quiet_stA 23 #[.string ⟨#[]⟩, .string ⟨#[]⟩] rfl hw'.2.1 Tryz.sizeName rfl rfl rfl
                clear hK K
                refine wpQuiet_step (fun K hK => ?_)
                rw [if_pos (by rfl)]
                refine ⟨undef, fun w' hw' => ?_, hK _ ?_⟩
                · unfold Oper.quietAt
                  exact quiet_stA 23 #[.string ⟨#[]⟩, .string ⟨#[]⟩] rfl hw'.2.2.1 Tryz.sizeName rfl rfl rfl
                clear hK K
                refine wpQuiet_step (fun K hK => ?_)
                go_simp
                refine ⟨_, fun _ _ => rfl, hK _ ?_⟩
                clear hK K
                refine wpQuiet_step (fun K hK => ?_)
                go_simp
                refine ⟨_, fun _ _ => rfl, hK _ ?_⟩
                clear hK K
                refine wpQuiet_step (fun K hK => ?_)
                go_simp
                refine ⟨_, fun _ _ => rfl, hK _ ?_⟩
                clear hK K
                refine wpQuiet_step (fun K hK => ?_)
                go_simp
                refine ⟨_, fun _ _ => rfl, hK _ ?_⟩
                clear hK K
                refine wpQuiet_nil ?_
                rintro w66 ⟨hb66, y00, y10, y20⟩
                have y0 : w66.cell? ⟨B, 0, none⟩ = some (.string ⟨#[]⟩) := cell_of_blk y00 0
                have y1 : w66.cell? ⟨B, 1, none⟩ = some (.string ⟨#[]⟩) := cell_of_blk y00 1
                have z0 : w66.cell? ⟨B + 1, 0, none⟩ = some (.string ⟨#[]⟩) := cell_of_blk y10 0
                have z1 : w66.cell? ⟨B + 1, 1, none⟩ = some (.string ⟨#[]⟩) := cell_of_blk y10 1
                have HB66 := hid hb66
                clear hb66 y00 y10 y20
                go_wp2_with fail
                exact bodyPost_ret (v := .tuple #[.agg #[.string ⟨#[]⟩, .string ⟨#[]⟩], .agg #[.string ⟨#[]⟩, .string ⟨#[]⟩], .slice none 0 0, .string ⟨#[]⟩, .int .i64 (K1 : Nat), .int .i64 100]) (by simp [results, Tryz.results17, go_sem, y0, y1, z0, z1, HKI.out]) rfl ⟨HB66.out, by rw [HRES.out]; rfl⟩
              | some p =>
                obtain ⟨rfl, rfl, rfl, rfl, rfl⟩ := hall p hp
                rw [Option.isSome_some]
                have hpl := placeD_le hp
                have HRF := hid (fun W (hr : RdT W (.slice (some ⟨lb, lo, none⟩) LL lc) (L.map bB)) => rRowsH (p := p) (k0 := K1) hr HLO.out (by rw [← HLL.out]; omega) (by rw [← HLL.out]; exact hK1L) hpl.2.1 hpl.2.2.2)
                have HP := hid hp
                have hbN := (Below.refl w4.heap.size w4).alloc (Nat.le_refl _) (.cells #[.int .i64 (p.a : Nat), .int .i64 (p.n : Nat), .int .i64 (p.b : Nat), .int .i64 (p.m : Nat), .string (bB p.head), .slice none 0 0] 37)
                have hkN := heap_alloc_new w4 (.cells #[.int .i64 (p.a : Nat), .int .i64 (p.n : Nat), .int .i64 (p.b : Nat), .int .i64 (p.m : Nat), .string (bB p.head), .slice none 0 0] 37)
                obtain ⟨V, hV⟩ : ∃ V, V = w4.heap.size := ⟨_, rfl⟩
                have HVW := hid hV
                have HVD : Hid (D + 1 ≤ V) := hid (by rw [hV]; exact lt_of_heap NDw4.out)
                rw [← hV] at hkN
                clear hall hp hpl
                go_wp2_with fail
                rw [← hV]
                clear hV
                generalize w4.alloc (.cells #[.int .i64 (p.a : Nat), .int .i64 (p.n : Nat), .int .i64 (p.b : Nat), .int .i64 (p.m : Nat), .string (bB p.head), .slice none 0 0] 37) = w5 at hbN hkN ⊢
                have HXw5 := hid hbN
                have HVw5 := hid hkN
                have HWw5 : Hid (Below w1.heap.size w1 w5) := hid ((HWw4.out.mono (Nat.le_of_eq HD1.out.symm)).trans (hbN.mono HWw4.out.size))
                have HZ5 : Hid (V < w5.heap.size) := hid (lt_of_heap hkN)
                clear hbN hkN
                rw [HKI.out]
                refine (HRF.out w5 (HRL.out.below HWw5.out)).mono ?_
                rintro e w6 ⟨hb6, hcase⟩
                have HXw6 := hid (HXw5.out.trans ((hb6).mono HXw5.out.size))
                have HVw6 := hid (((hb6).block V (lt_of_heap HVw5.out)).trans HVw5.out)
                clear hb6 HRF HWw5 HXw5 HVw5
                rcases hcase with ⟨c, va', n', vc', hr, rfl⟩ | ⟨rows, ls', c, v, hr, rfl, hO6, hcl⟩
                · have hcb := Un.rowsD_badLe _ _ _ _ _ _ _ hr
                  rw [List.length_drop] at hcb
                  have hcL : c ≤ 8388608 := by have := HLL.out; omega
                  obtain ⟨C1, hC1⟩ : ∃ C1, C1 = c + 1 := ⟨_, rfl⟩
                  have i6 : IntKind.i64.wrap ((c : Int) + 1) = (C1 : Int) := by rw [wrapOk (by omega) (by omega)]; omega
                  have HRES : Hid (Un.parse s.data.toList = .bad C1 111) := hid (by rw [HRES0.out, HI2.out, Un.hunksD_rows HHX.out HBG.out HP.out (by rw [← HK1.out]; exact hr), hC1]; rfl)
                  clear hr hcb hC1
                  go_wp2_with (guard_target =~ wpList _ _ _ (_ :: _) _ _; refine wpList_stA 37 #[.int .i64 (p.a : Nat), .int .i64 (p.n : Nat), .int .i64 (p.b : Nat), .int .i64 (p.m : Nat), .string (bB p.head), .slice va' n' vc'] rfl rfl HVw6.out sizeHk rfl rfl rfl rfl ?_; intro w7 hk7 hkp7; have HXw7 := hid (Kept.onto HXw6.out hkp7 (Nat.le_of_eq HVW.out.symm) (Nat.le_refl _)); clear hk7 hkp7)
                  have HWw7 : Hid (Below D w1 w7) := hid (HWw4.out.trans (HXw7.out.mono (Nat.le_trans (Nat.le_of_eq HD1.out) HWw4.out.size)))
                  refine wp_region_class (C := ClsD w B) (by kernel_rfl) (by kernel_rfl) ⟨below_drewN (HBw1.out.trans (HWw7.out.mono HDW.out)) 1, ((HWw7.out.block B (by have := HDB.out; omega)).trans N0w1.out), ((HWw7.out.block (B + 1) (by have := HDB.out; omega)).trans N1w1.out), ((HWw7.out.block (B + 2) (by have := HDB.out; omega)).trans N2w1.out)⟩ ?_
                  refine wpQuiet_step (fun K hK => ?_)
                  rw [if_pos (by rfl)]
                  refine ⟨.agg #[.string ⟨#[]⟩, .string ⟨#[]⟩], fun w' hw' => ?_, hK _ ?_⟩
                  · have c0 : w'.cell? ⟨B + 2, 0, none⟩ = some (.string ⟨#[]⟩) := cell_of_blk hw'.2.2.2 0
                    have c1 : w'.cell? ⟨B + 2, 1, none⟩ = some (.string ⟨#[]⟩) := cell_of_blk hw'.2.2.2 1
                    go_simp
                  clear hK K
                  refine wpQuiet_step (fun K hK => ?_)
                  rw [if_pos (by rfl)]
                  refine ⟨.agg #[.string ⟨#[]⟩, .string ⟨#[]⟩], fun w' hw' => ?_, hK _ ?_⟩
                  · have c0 : w'.cell? ⟨B + 2, 0, none⟩ = some (.string ⟨#[]⟩) := cell_of_blk hw'.2.2.2 0
                    have c1 : w'.cell? ⟨B + 2, 1, none⟩ = some (.string ⟨#[]⟩) := cell_of_blk hw'.2.2.2 1
                    go_simp
                  clear hK K
                  refine wpQuiet_step (fun K hK => ?_)
                  go_simp
                  refine ⟨_, fun _ _ => rfl, hK _ ?_⟩
                  clear hK K
                  refine wpQuiet_step (fun K hK => ?_)
                  go_simp
                  refine ⟨_, fun _ _ => rfl, hK _ ?_⟩
                  clear hK K
                  refine wpQuiet_step (fun K hK => ?_)
                  go_simp
                  refine ⟨_, fun _ _ => rfl, hK _ ?_⟩
                  clear hK K
                  refine wpQuiet_step (fun K hK => ?_)
                  rw [if_pos (by rfl)]
                  refine ⟨undef, fun w' hw' => ?_, hK _ ?_⟩
                  · unfold Oper.quietAt
                    exact quiet_stA 23 #[.string ⟨#[]⟩, .string ⟨#[]⟩] rfl hw'.2.1 Tryz.sizeName rfl rfl rfl
                  clear hK K
                  refine wpQuiet_step (fun K hK => ?_)
                  rw [if_pos (by rfl)]
                  refine ⟨undef, fun w' hw' => ?_, hK _ ?_⟩
                  · unfold Oper.quietAt
                    exact quiet_stA 23 #[.string ⟨#[]⟩, .string ⟨#[]⟩] rfl hw'.2.2.1 Tryz.sizeName rfl rfl rfl
                  clear hK K
                  refine wpQuiet_step (fun K hK => ?_)
                  go_simp
                  refine ⟨_, fun _ _ => rfl, hK _ ?_⟩
                  clear hK K
                  refine wpQuiet_step (fun K hK => ?_)
                  go_simp
                  refine ⟨_, fun _ _ => rfl, hK _ ?_⟩
                  clear hK K
                  refine wpQuiet_step (fun K hK => ?_)
                  go_simp
                  refine ⟨_, fun _ _ => rfl, hK _ ?_⟩
                  clear hK K
                  refine wpQuiet_step (fun K hK => ?_)
                  go_simp
                  refine ⟨_, fun _ _ => rfl, hK _ ?_⟩
                  clear hK K
                  refine wpQuiet_nil ?_
                  rintro w66 ⟨hb66, y00, y10, y20⟩
                  have y0 : w66.cell? ⟨B, 0, none⟩ = some (.string ⟨#[]⟩) := cell_of_blk y00 0
                  have y1 : w66.cell? ⟨B, 1, none⟩ = some (.string ⟨#[]⟩) := cell_of_blk y00 1
                  have z0 : w66.cell? ⟨B + 1, 0, none⟩ = some (.string ⟨#[]⟩) := cell_of_blk y10 0
                  have z1 : w66.cell? ⟨B + 1, 1, none⟩ = some (.string ⟨#[]⟩) := cell_of_blk y10 1
                  have HB66 := hid hb66
                  clear hb66 y00 y10 y20
                  go_wp2_with fail
                  exact bodyPost_ret (v := .tuple #[.agg #[.string ⟨#[]⟩, .string ⟨#[]⟩], .agg #[.string ⟨#[]⟩, .string ⟨#[]⟩], .slice none 0 0, .string ⟨#[]⟩, .int .i64 (C1 : Nat), .int .i64 111]) (by simp [results, Tryz.results17, go_sem, y0, y1, z0, z1]) rfl ⟨HB66.out, by rw [HRES.out]; rfl⟩
                · have hsz := HSZ.out x K1 c p rows ls' HXM.out HP.out hr
                  rw [← HLL.out] at hcl
                  have hkc := Un.rowsD_lt hr
                  have HSTEP : Hid (Un.hunksF (f2 + 1) (L.drop k) (k + 1) acc = _) := hid (Un.hunksD_ok (f := f2) (acc := acc) HHX.out HBG.out HP.out (by rw [← HK1.out]; exact hr))
                  have HI3 := hid (HI2.out.trans HSTEP.out)
                  clear HI2 HSTEP
                  obtain ⟨H, hH⟩ : ∃ H, H = Un.mkHk p rows := ⟨_, rfl⟩
                  rw [← hH] at hsz hO6 HI3 ⊢
                  clear hr hH HP
                  obtain ⟨av, cv, rfl⟩ := own_shape hO6
                  have HRw6 : Hid (OwnW w6 (V + 1) (.slice av H.rows.length cv) H.rows) := hid (own_mono hO6 (by have := HZ5.out; omega))
                  have HSZH := hid hsz
                  have HSM : Hid (Hu.vld H = true → SmH H) := hid vld_sm
                  generalize hVDD : Hu.vld H = VD at HI3 HSM
                  have hvn := vldN_of hVDD
                  have HVL := hid (fun W (hr : RdW W (.slice av H.rows.length cv) H.rows) => rValid_any (v := .slice av H.rows.length cv) hr hsz)
                  rw [hvn] at HVL
                  have HIO := hid (fun W (g : Hk) (gv : Option Addr) (gn gc : Nat) (h1 : SmH g) (h2 : SmH H) => rInOrder_any (w := W) (g := g) (h := H) (ua := av) (un := H.rows.length) (uc := cv) (qa := gv) (qn := gn) (qc := gc) h2 h1)
                  clear hvn hsz hVDD hO6
                  unfold HkV at HVL HIO ⊢
                  obtain ⟨RL, hRL⟩ : ∃ RL, RL = H.rows.length := ⟨_, rfl⟩
                  rw [← hRL] at HRw6 HVL HIO ⊢
                  have HRL2 := hid hRL
                  obtain ⟨xa, hxa⟩ : ∃ z, z = H.a := ⟨_, rfl⟩
                  obtain ⟨xn, hxn⟩ : ∃ z, z = H.n := ⟨_, rfl⟩
                  obtain ⟨xb, hxb⟩ : ∃ z, z = H.b := ⟨_, rfl⟩
                  obtain ⟨xm, hxm⟩ : ∃ z, z = H.m := ⟨_, rfl⟩
                  obtain ⟨xh, hxh⟩ : ∃ z, z = H.head := ⟨_, rfl⟩
                  rw [← hxa, ← hxn, ← hxb, ← hxm, ← hxh] at HVL HIO ⊢
                  have HXX : Hid (xa = H.a ∧ xn = H.n ∧ xb = H.b ∧ xm = H.m ∧ xh = H.head) := hid ⟨hxa, hxn, hxb, hxm, hxh⟩
                  clear hRL hxa hxn hxb hxm hxh
                  go_wp2_with (guard_target =~ wpList _ _ _ (_ :: _) _ _; refine wpList_stA 37 #[.int .i64 xa, .int .i64 xn, .int .i64 xb, .int .i64 xm, .string xh, .slice av RL cv] rfl rfl HVw6.out sizeHk rfl rfl rfl rfl ?_; intro w7 hk7 hkp7; have HXw7 := hid (Kept.onto HXw6.out hkp7 (Nat.le_of_eq HVW.out.symm) (Nat.le_refl _)); have HVw7 := hid hk7; have HRw7 := hid (own_setG HRw6.out hkp7 (Nat.lt_succ_self V)); have l0 : w7.cell? ⟨V, 0, none⟩ = some (.int .i64 xa) := cell_of_blk hk7 0; have l1 : w7.cell? ⟨V, 1, none⟩ = some (.int .i64 xn) := cell_of_blk hk7 1; have l2 : w7.cell? ⟨V, 2, none⟩ = some (.int .i64 xb) := cell_of_blk hk7 2; have l3 : w7.cell? ⟨V, 3, none⟩ = some (.int .i64 xm) := cell_of_blk hk7 3; have l4 : w7.cell? ⟨V, 4, none⟩ = some (.string xh) := cell_of_blk hk7 4; have l5 : w7.cell? ⟨V, 5, none⟩ = some (.slice av RL cv) := cell_of_blk hk7 5; clear hk7 hkp7)
                  have HRR : Hid (RdW w7 (.slice av RL cv) H.rows) := hid (by
                    have h := own_rd HRw7.out
                    show RdX _ _ H.rows.length _
                    rw [← HRL2.out] at h ⊢
                    exact h)
                  refine (HVL.out w7 HRR.out).mono ?_
                  rintro e w8 ⟨rfl, hb8⟩
                  have HXw8 := hid (HXw7.out.trans ((hb8).mono HXw7.out.size))
                  have HVw8 := hid (((hb8).block V (lt_of_heap HVw7.out)).trans HVw7.out)
                  have HRw8 := hid (own_stays HRw7.out (hb8))
                  clear hb8 l0 l1 l2 l3 l4 l5 HXw7 HVw7 HRw7 HRR HVL HXw6 HVw6 HRw6
                  cases VD with
                  | false =>
                    simp only [Bool.false_eq_true, if_false] at HI3
                    have HRES : Hid (Un.parse s.data.toList = .bad K1 100) := hid (by rw [HRES0.out, HI3.out, HK1.out]; rfl)
                    rw [show (((if false = true then 0 else 100 : Nat) : Nat) : Int) = 100 from rfl]
                    clear HI3
                    go_wp2_with fail
                    have HWw8 : Hid (Below D w1 w8) := hid (HWw4.out.trans (HXw8.out.mono (Nat.le_trans (Nat.le_of_eq HD1.out) HWw4.out.size)))
                    refine wp_region_class (C := ClsD w B) (by kernel_rfl) (by kernel_rfl) ⟨below_drewN (HBw1.out.trans (HWw8.out.mono HDW.out)) 1, ((HWw8.out.block B (by have := HDB.out; omega)).trans N0w1.out), ((HWw8.out.block (B + 1) (by have := HDB.out; omega)).trans N1w1.out), ((HWw8.out.block (B + 2) (by have := HDB.out; omega)).trans N2w1.out)⟩ ?_
                    refine wpQuiet_step (fun K hK => ?_)
                    rw [if_pos (by rfl)]
                    refine ⟨.agg #[.string ⟨#[]⟩, .string ⟨#[]⟩], fun w' hw' => ?_, hK _ ?_⟩
                    · have c0 : w'.cell? ⟨B + 2, 0, none⟩ = some (.string ⟨#[]⟩) := cell_of_blk hw'.2.2.2 0
                      have c1 : w'.cell? ⟨B + 2, 1, none⟩ = some (.string ⟨#[]⟩) := cell_of_blk hw'.2.2.2 1
                      go_simp
                    clear hK K
                    refine wpQuiet_step (fun K hK => ?_)
                    rw [if_pos (by rfl)]
                    refine ⟨.agg #[.string ⟨#[]⟩, .string ⟨#[]⟩], fun w' hw' => ?_, hK _ ?_⟩
                    · have c0 : w'.cell? ⟨B + 2, 0, none⟩ = some (.string ⟨#[]⟩) := cell_of_blk hw'.2.2.2 0
                      have c1 : w'.cell? ⟨B + 2, 1, none⟩ = some (.string ⟨#[]⟩) := cell_of_blk hw'.2.2.2 1
                      go_simp
                    clear hK K
                    refine wpQuiet_step (fun K hK => ?_)
                    go_simp
                    refine ⟨_, fun _ _ => rfl, hK _ ?_⟩
                    clear hK K
                    refine wpQuiet_step (fun K hK => ?_)
                    go_simp
                    refine ⟨_, fun _ _ => rfl, hK _ ?_⟩
                    clear hK K
                    refine wpQuiet_step (fun K hK => ?_)
                    rw [if_pos (by rfl)]
                    refine ⟨undef, fun w' hw' => ?_, hK _ ?_⟩
                    · unfold Oper.quietAt
                      exact quiet_stA 23 #[.string ⟨#[]⟩, .string ⟨#[]⟩] rfl hw'.2.1 Tryz.sizeName rfl rfl rfl
                    clear hK K
                    refine wpQuiet_step (fun K hK => ?_)
                    rw [if_pos (by rfl)]
                    refine ⟨undef, fun w' hw' => ?_, hK _ ?_⟩
                    · unfold Oper.quietAt
                      exact quiet_stA 23 #[.string ⟨#[]⟩, .string ⟨#[]⟩] rfl hw'.2.2.1 Tryz.sizeName rfl rfl rfl
                    clear hK K
                    refine wpQuiet_step (fun K hK => ?_)
                    go_simp
                    refine ⟨_, fun _ _ => rfl, hK _ ?_⟩
                    clear hK K
                    refine wpQuiet_step (fun K hK => ?_)
                    go_simp
                    refine ⟨_, fun _ _ => rfl, hK _ ?_⟩
                    clear hK K
                    refine wpQuiet_step (fun K hK => ?_)
                    go_simp
                    refine ⟨_, fun _ _ => rfl, hK _ ?_⟩
                    clear hK K
                    refine wpQuiet_step (fun K hK => ?_)
                    go_simp
                    refine ⟨_, fun _ _ => rfl, hK _ ?_⟩
                    clear hK K
                    refine wpQuiet_nil ?_
                    rintro w66 ⟨hb66, y00, y10, y20⟩
                    have y0 : w66.cell? ⟨B, 0, none⟩ = some (.string ⟨#[]⟩) := cell_of_blk y00 0
                    have y1 : w66.cell? ⟨B, 1, none⟩ = some (.string ⟨#[]⟩) := cell_of_blk y00 1
                    have z0 : w66.cell? ⟨B + 1, 0, none⟩ = some (.string ⟨#[]⟩) := cell_of_blk y10 0
                    have z1 : w66.cell? ⟨B + 1, 1, none⟩ = some (.string ⟨#[]⟩) := cell_of_blk y10 1
                    have HB66 := hid hb66
                    clear hb66 y00 y10 y20
                    go_wp2_with fail
                    exact bodyPost_ret (v := .tuple #[.agg #[.string ⟨#[]⟩, .string ⟨#[]⟩], .agg #[.string ⟨#[]⟩, .string ⟨#[]⟩], .slice none 0 0, .string ⟨#[]⟩, .int .i64 (K1 : Nat), .int .i64 100]) (by simp [results, Tryz.results17, go_sem, y0, y1, z0, z1, HKI.out]) rfl ⟨HB66.out, by rw [HRES.out]; rfl⟩
                  | true =>
                    simp only [if_true] at HI3
                    rw [show (((if true = true then 0 else 100 : Nat) : Nat) : Int) = 0 from rfl]
                    have HSMX := hid (HSM.out rfl)
                    rcases Nat.eq_zero_or_pos acc.length with h0 | h0
                    · have e0 : acc = [] := List.length_eq_zero_iff.1 h0
                      have hk0 : Un.okO acc H = true := by rw [e0]; rfl
                      rw [hk0] at HI3
                      simp only [if_true] at HI3
                      have HI2 := hid HI3.out
                      have i7 : ¬ ((0 : Int) < (acc.length : Int)) := by omega
                      have i70 : ¬ (0 < acc.length) := by omega
                      clear h0 HI3 HIO e0 hk0
                      go_wp2_with fail
                      go_quiet (fail)
                      have hb9 := below_drewN (Below.refl w8.heap.size w8) nq
                      generalize w8.drewN nq = w9 at hb9 ⊢
                      have HXw9 := hid (HXw8.out.trans ((hb9).mono HXw8.out.size))
                      have HVw9 := hid (((hb9).block V (lt_of_heap HVw8.out)).trans HVw8.out)
                      have HRw9 := hid (own_stays HRw8.out (hb9))
                      have HWw9 : Hid (Below D w1 w9) := hid (HWw4.out.trans (HXw9.out.mono (Nat.le_trans (Nat.le_of_eq HD1.out) HWw4.out.size)))
                      have NDw9 := hid ((HXw9.out.block D (lt_of_heap NDw4.out)).trans NDw4.out)
                      have HOw9 := hid (HOw4.out.stays HXw9.out)
                      have hbN := (Below.refl w9.heap.size w9).alloc (Nat.le_refl _) (.cells #[.int .i64 xa, .int .i64 xn, .int .i64 xb, .int .i64 xm, .string xh, .slice av RL cv] 37)
                      have hkN := heap_alloc_new w9 (.cells #[.int .i64 xa, .int .i64 xn, .int .i64 xb, .int .i64 xm, .string xh, .slice av RL cv] 37)
                      have HOw10 := hid (HOw9.out.stays hbN)
                      have HRw10 := hid (own_stays HRw9.out hbN)
                      have NDw10 := hid ((hbN.block D (lt_of_heap NDw9.out)).trans NDw9.out)
                      have HWw10 := hid (HWw9.out.trans (hbN.mono (Nat.le_trans (Nat.le_of_eq HD1.out) HWw9.out.size)))
                      have HN10 : Hid ((w9.alloc (.cells #[.int .i64 xa, .int .i64 xn, .int .i64 xb, .int .i64 xm, .string xh, .slice av RL cv] 37)).heap[w9.heap.size]? = some (.cells #[.int .i64 H.a, .int .i64 H.n, .int .i64 H.b, .int .i64 H.m, .string H.head, .slice av RL cv] 37)) := hid (by
                        rw [hkN, HXX.out.1, HXX.out.2.1, HXX.out.2.2.1, HXX.out.2.2.2.1, HXX.out.2.2.2.2])
                      have HRH : Hid (OwnW (w9.alloc (.cells #[.int .i64 xa, .int .i64 xn, .int .i64 xb, .int .i64 xm, .string xh, .slice av RL cv] 37)) (D + 1) (.slice av RL cv) H.rows) := hid (by
                        have h := own_mono HRw10.out (Nat.le_succ_of_le HVD.out)
                        show World.ownsRow _ _ _ _ _ H.rows.length _
                        rw [← HRL2.out] at h ⊢
                        exact h)
                      have HFS : Hid (D + 1 ≤ (w9.alloc (.cells #[.int .i64 xa, .int .i64 xn, .int .i64 xb, .int .i64 xm, .string xh, .slice av RL cv] 37)).heap.size) := hid (lt_of_heap NDw10.out)
                      have hal3 : acc.length < 1954687338260 := by omega
                      have k0 : w9.cell? ⟨V, 0, none⟩ = some (.int .i64 xa) := cell_of_blk HVw9.out 0
                      have k1 : w9.cell? ⟨V, 1, none⟩ = some (.int .i64 xn) := cell_of_blk HVw9.out 1
                      have k2 : w9.cell? ⟨V, 2, none⟩ = some (.int .i64 xb) := cell_of_blk HVw9.out 2
                      have k3 : w9.cell? ⟨V, 3, none⟩ = some (.int .i64 xm) := cell_of_blk HVw9.out 3
                      have k4 : w9.cell? ⟨V, 4, none⟩ = some (.string xh) := cell_of_blk HVw9.out 4
                      have k5 : w9.cell? ⟨V, 5, none⟩ = some (.slice av RL cv) := cell_of_blk HVw9.out 5
                      clear hbN hkN hb9 HXw9 HVw9 HRw9 HOw9 HWw9 NDw9
                      go_wp2_with (at_builtin; refine wpList_append_hk rfl _ _ rfl (D + 1) _ acc rfl HOw10.out w9.heap.size H (.slice av RL cv) rfl HN10.out HRH.out hal3 HFS.out ?_; intro v7 wz hO7 hb7; have HOz := hid hO7; have NDz := hid ((hb7.block D (Nat.lt_succ_self D)).trans NDw10.out); have HWz := hid (HWw10.out.trans (hb7.mono (Nat.le_succ D))); clear hO7 hb7)
                      go_roundw
                      case rel => exact ⟨c, f2, acc ++ [H], rfl, HOz, HWz, NDz, by omega, hcl, by rw [List.length_append]; simp; omega, hid (fun h hh => by
                          rcases List.mem_append.1 hh with hh | hh
                          · exact HS.out h hh
                          · rw [List.mem_singleton.1 hh]; exact ⟨HSMX.out, HSZH.out⟩), hid ⟨by have := HF2.out; omega, HI2.out.symm⟩⟩
                      case measure => simp [intOf]; omega
                    · obtain ⟨g, hg⟩ : ∃ g, acc[acc.length - 1]? = some g := ⟨_, List.getElem?_eq_getElem (by omega)⟩
                      have hoko := okO_at (h := H) hg
                      obtain ⟨gq, go, gu, hva, hgl, g0, g1, g2, g3, g4, g5, hgu⟩ := rdH_at (HOw4.out.stays HXw8.out).rd hg
                      obtain ⟨gv, gc, rfl⟩ := hgu.shape
                      have HGS := hid (HS.out g (List.mem_of_getElem? hg)).1
                      have HIO := hid (fun W => HIO.out W g gv g.rows.length gc HGS.out HSMX.out)
                      rw [← hoko] at HIO
                      generalize hOK : Un.okO acc H = OK at HI3 HIO
                      obtain ⟨ga, gn, gb, gm, gh, gr⟩ := g
                      dsimp only at g0 g1 g2 g3 g4 g5 HIO
                      obtain ⟨GL, hGL⟩ : ∃ GL, GL = gr.length := ⟨_, rfl⟩
                      rw [← hGL] at g5 HIO
                      have HG0 := hid g0
                      have HG1 := hid g1
                      have HG2 := hid g2
                      have HG3 := hid g3
                      have HG4 := hid g4
                      have HG5 := hid g5
                      have HGL := hid hgl
                      have HVA := hid hva
                      have i7 : (0 : Int) < (acc.length : Int) := by omega
                      have i70 : 0 < acc.length := h0
                      have i71 : acc.length - 1 < acc.length := by omega
                      have i8 : IntKind.i64.wrap ((acc.length : Int) - 1) = ((acc.length - 1 : Nat) : Int) := by rw [wrapOk (by omega) (by omega)]; omega
                      subst hva
                      clear h0 hg hoko g0 g1 g2 g3 g4 g5 hgl hgu hOK hGL HGS
                      go_wp2_with fail
                      refine wp_region_class (C := fun w' => Below w8.heap.size w8 w') (by kernel_rfl) (by kernel_rfl) (below_drewN (Below.refl _ _) 1) ?_
                      refine wpQuiet_step (fun K hK => ?_)
                      go_simp
                      refine ⟨_, fun _ _ => rfl, hK _ ?_⟩
                      clear hK K
                      refine wpQuiet_step (fun K hK => ?_)
                      go_simp
                      refine ⟨_, fun _ _ => rfl, hK _ ?_⟩
                      clear hK K
                      refine wpQuiet_step (fun K hK => ?_)
                      go_simp
                      refine ⟨_, fun _ _ => rfl, hK _ ?_⟩
                      clear hK K
                      refine wpQuiet_step (fun K hK => ?_)
                      go_simp
                      refine ⟨_, fun _ _ => rfl, hK _ ?_⟩
                      clear hK K
                      refine wpQuiet_step (fun K hK => ?_)
                      go_simp
                      refine ⟨_, fun _ _ => rfl, hK _ ?_⟩
                      clear hK K
                      refine wpQuiet_step (fun K hK => ?_)
                      go_simp
                      refine ⟨_, fun _ _ => rfl, hK _ ?_⟩
                      clear hK K
                      refine wpQuiet_step (fun K hK => ?_)
                      go_simp
                      refine ⟨_, fun _ _ => rfl, hK _ ?_⟩
                      clear hK K
                      refine wpQuiet_step (fun K hK => ?_)
                      go_simp
                      refine ⟨_, fun _ _ => rfl, hK _ ?_⟩
                      clear hK K
                      refine wpQuiet_step (fun K hK => ?_)
                      go_simp
                      refine ⟨_, fun _ _ => rfl, hK _ ?_⟩
                      clear hK K
                      refine wpQuiet_step (fun K hK => ?_)
                      rw [if_pos (by rfl)]
                      refine ⟨.agg #[.int .i64 ga, .int .i64 gn, .int .i64 gb, .int .i64 gm, .string gh, .slice gv GL gc], fun w' hw' => ?_, hK _ ?_⟩
                      · have e0 := (hw'.cell (p := ⟨gq, go + (acc.length - 1) * 6, none⟩) HGL.out).trans HG0.out
                        have e1 := (hw'.cell (p := ⟨gq, go + (acc.length - 1) * 6 + 1, none⟩) HGL.out).trans HG1.out
                        have e2 := (hw'.cell (p := ⟨gq, go + (acc.length - 1) * 6 + 2, none⟩) HGL.out).trans HG2.out
                        have e3 := (hw'.cell (p := ⟨gq, go + (acc.length - 1) * 6 + 3, none⟩) HGL.out).trans HG3.out
                        have e4 := (hw'.cell (p := ⟨gq, go + (acc.length - 1) * 6 + 4, none⟩) HGL.out).trans HG4.out
                        have e5 := (hw'.cell (p := ⟨gq, go + (acc.length - 1) * 6 + 5, none⟩) HGL.out).trans HG5.out
                        go_simp
                      clear hK K
                      refine wpQuiet_step (fun K hK => ?_)
                      rw [if_pos (by rfl)]
                      refine ⟨.agg #[.int .i64 xa, .int .i64 xn, .int .i64 xb, .int .i64 xm, .string xh, .slice av RL cv], fun w' hw' => ?_, hK _ ?_⟩
                      · have e9 := (hw'.block V (lt_of_heap HVw8.out)).trans HVw8.out
                        have e0 := cell_of_blk e9 0
                        have e1 := cell_of_blk e9 1
                        have e2 := cell_of_blk e9 2
                        have e3 := cell_of_blk e9 3
                        have e4 := cell_of_blk e9 4
                        have e5 := cell_of_blk e9 5
                        go_simp
                      clear hK K
                      refine wpQuiet_step (fun K hK => ?_)
                      rw [if_pos (by rfl)]
                      refine ⟨.bool OK, fun w' hw' => ?_, hK _ ?_⟩
                      · go_simp
                        refine (HIO.out w').mono ?_
                        rintro r wn ⟨rfl, hbn⟩
                        exact ⟨rfl, hw'.trans (hbn.mono hw'.size)⟩
                      clear hK K
                      refine wpQuiet_step (fun K hK => ?_)
                      go_simp
                      refine ⟨_, fun _ _ => rfl, hK _ ?_⟩
                      clear hK K
                      refine wpQuiet_step (fun K hK => ?_)
                      go_simp
                      refine ⟨_, fun _ _ => rfl, hK _ ?_⟩
                      clear hK K
                      refine wpQuiet_nil ?_
                      intro w9 hb9
                      cases OK with
                      | false =>
                        have HRES : Hid (Un.parse s.data.toList = .bad K1 112) := hid (by rw [HRES0.out, HI3.out, HK1.out]; rfl)
                        have HXw9 := hid (HXw8.out.trans ((hb9).mono HXw8.out.size))
                        have HVw9 := hid (((hb9).block V (lt_of_heap HVw8.out)).trans HVw8.out)
                        clear hb9 HI3
                        go_wp2_with fail
                        have HWw9 : Hid (Below D w1 w9) := hid (HWw4.out.trans (HXw9.out.mono (Nat.le_trans (Nat.le_of_eq HD1.out) HWw4.out.size)))
                        refine wp_region_class (C := ClsD w B) (by kernel_rfl) (by kernel_rfl) ⟨below_drewN (HBw1.out.trans (HWw9.out.mono HDW.out)) 1, ((HWw9.out.block B (by have := HDB.out; omega)).trans N0w1.out), ((HWw9.out.block (B + 1) (by have := HDB.out; omega)).trans N1w1.out), ((HWw9.out.block (B + 2) (by have := HDB.out; omega)).trans N2w1.out)⟩ ?_
                        refine wpQuiet_step (fun K hK => ?_)
                        rw [if_pos (by rfl)]
                        refine ⟨.agg #[.string ⟨#[]⟩, .string ⟨#[]⟩], fun w' hw' => ?_, hK _ ?_⟩
                        · have c0 : w'.cell? ⟨B + 2, 0, none⟩ = some (.string ⟨#[]⟩) := cell_of_blk hw'.2.2.2 0
                          have c1 : w'.cell? ⟨B + 2, 1, none⟩ = some (.string ⟨#[]⟩) := cell_of_blk hw'.2.2.2 1
                          go_simp
                        clear hK K
                        refine wpQuiet_step (fun K hK => ?_)
                        rw [if_pos (by rfl)]
                        refine ⟨.agg #[.string ⟨#[]⟩, .string ⟨#[]⟩], fun w' hw' => ?_, hK _ ?_⟩
                        · have c0 : w'.cell? ⟨B + 2, 0, none⟩ = some (.string ⟨#[]⟩) := cell_of_blk hw'.2.2.2 0
                          have c1 : w'.cell? ⟨B + 2, 1, none⟩ = some (.string ⟨#[]⟩) := cell_of_blk hw'.2.2.2 1
                          go_simp
                        clear hK K
                        refine wpQuiet_step (fun K hK => ?_)
                        go_simp
                        refine ⟨_, fun _ _ => rfl, hK _ ?_⟩
                        clear hK K
                        refine wpQuiet_step (fun K hK => ?_)
                        go_simp
                        refine ⟨_, fun _ _ => rfl, hK _ ?_⟩
                        clear hK K
                        refine wpQuiet_step (fun K hK => ?_)
                        rw [if_pos (by rfl)]
                        refine ⟨undef, fun w' hw' => ?_, hK _ ?_⟩
                        · unfold Oper.quietAt
                          exact quiet_stA 23 #[.string ⟨#[]⟩, .string ⟨#[]⟩] rfl hw'.2.1 Tryz.sizeName rfl rfl rfl
                        clear hK K
                        refine wpQuiet_step (fun K hK => ?_)
                        rw [if_pos (by rfl)]
                        refine ⟨undef, fun w' hw' => ?_, hK _ ?_⟩
                        · unfold Oper.quietAt
                          exact quiet_stA 23 #[.string ⟨#[]⟩, .string ⟨#[]⟩] rfl hw'.2.2.1 Tryz.sizeName rfl rfl rfl
                        clear hK K
                        refine wpQuiet_step (fun K hK => ?_)
                        go_simp
                        refine ⟨_, fun _ _ => rfl, hK _ ?_⟩
                        clear hK K
                        refine wpQuiet_step (fun K hK => ?_)
                        go_simp
                        refine ⟨_, fun _ _ => rfl, hK _ ?_⟩
                        clear hK K
                        refine wpQuiet_step (fun K hK => ?_)
                        go_simp
                        refine ⟨_, fun _ _ => rfl, hK _ ?_⟩
                        clear hK K
                        refine wpQuiet_step (fun K hK => ?_)
                        go_simp
                        refine ⟨_, fun _ _ => rfl, hK _ ?_⟩
                        clear hK K
                        refine wpQuiet_nil ?_
                        rintro w66 ⟨hb66, y00, y10, y20⟩
                        have y0 : w66.cell? ⟨B, 0, none⟩ = some (.string ⟨#[]⟩) := cell_of_blk y00 0
                        have y1 : w66.cell? ⟨B, 1, none⟩ = some (.string ⟨#[]⟩) := cell_of_blk y00 1
                        have z0 : w66.cell? ⟨B + 1, 0, none⟩ = some (.string ⟨#[]⟩) := cell_of_blk y10 0
                        have z1 : w66.cell? ⟨B + 1, 1, none⟩ = some (.string ⟨#[]⟩) := cell_of_blk y10 1
                        have HB66 := hid hb66
                        clear hb66 y00 y10 y20
                        go_wp2_with fail
                        exact bodyPost_ret (v := .tuple #[.agg #[.string ⟨#[]⟩, .string ⟨#[]⟩], .agg #[.string ⟨#[]⟩, .string ⟨#[]⟩], .slice none 0 0, .string ⟨#[]⟩, .int .i64 (K1 : Nat), .int .i64 112]) (by simp [results, Tryz.results17, go_sem, y0, y1, z0, z1, HKI.out]) rfl ⟨HB66.out, by rw [HRES.out]; rfl⟩
                      | true =>
                        simp only [if_true] at HI3
                        have HI2 := hid HI3.out
                        clear HI3
                        have HXw9 := hid (HXw8.out.trans ((hb9).mono HXw8.out.size))
                        have HVw9 := hid (((hb9).block V (lt_of_heap HVw8.out)).trans HVw8.out)
                        have HRw9 := hid (own_stays HRw8.out (hb9))
                        have HWw9 : Hid (Below D w1 w9) := hid (HWw4.out.trans (HXw9.out.mono (Nat.le_trans (Nat.le_of_eq HD1.out) HWw4.out.size)))
                        have NDw9 := hid ((HXw9.out.block D (lt_of_heap NDw4.out)).trans NDw4.out)
                        have HOw9 := hid (HOw4.out.stays HXw9.out)
                        have hbN := (Below.refl w9.heap.size w9).alloc (Nat.le_refl _) (.cells #[.int .i64 xa, .int .i64 xn, .int .i64 xb, .int .i64 xm, .string xh, .slice av RL cv] 37)
                        have hkN := heap_alloc_new w9 (.cells #[.int .i64 xa, .int .i64 xn, .int .i64 xb, .int .i64 xm, .string xh, .slice av RL cv] 37)
                        have HOw10 := hid (HOw9.out.stays hbN)
                        have HRw10 := hid (own_stays HRw9.out hbN)
                        have NDw10 := hid ((hbN.block D (lt_of_heap NDw9.out)).trans NDw9.out)
                        have HWw10 := hid (HWw9.out.trans (hbN.mono (Nat.le_trans (Nat.le_of_eq HD1.out) HWw9.out.size)))
                        have HN10 : Hid ((w9.alloc (.cells #[.int .i64 xa, .int .i64 xn, .int .i64 xb, .int .i64 xm, .string xh, .slice av RL cv] 37)).heap[w9.heap.size]? = some (.cells #[.int .i64 H.a, .int .i64 H.n, .int .i64 H.b, .int .i64 H.m, .string H.head, .slice av RL cv] 37)) := hid (by
                          rw [hkN, HXX.out.1, HXX.out.2.1, HXX.out.2.2.1, HXX.out.2.2.2.1, HXX.out.2.2.2.2])
                        have HRH : Hid (OwnW (w9.alloc (.cells #[.int .i64 xa, .int .i64 xn, .int .i64 xb, .int .i64 xm, .string xh, .slice av RL cv] 37)) (D + 1) (.slice av RL cv) H.rows) := hid (by
                          have h := own_mono HRw10.out (Nat.le_succ_of_le HVD.out)
                          show World.ownsRow _ _ _ _ _ H.rows.length _
                          rw [← HRL2.out] at h ⊢
                          exact h)
                        have HFS : Hid (D + 1 ≤ (w9.alloc (.cells #[.int .i64 xa, .int .i64 xn, .int .i64 xb, .int .i64 xm, .string xh, .slice av RL cv] 37)).heap.size) := hid (lt_of_heap NDw10.out)
                        have hal3 : acc.length < 1954687338260 := by omega
                        have k0 : w9.cell? ⟨V, 0, none⟩ = some (.int .i64 xa) := cell_of_blk HVw9.out 0
                        have k1 : w9.cell? ⟨V, 1, none⟩ = some (.int .i64 xn) := cell_of_blk HVw9.out 1
                        have k2 : w9.cell? ⟨V, 2, none⟩ = some (.int .i64 xb) := cell_of_blk HVw9.out 2
                        have k3 : w9.cell? ⟨V, 3, none⟩ = some (.int .i64 xm) := cell_of_blk HVw9.out 3
                        have k4 : w9.cell? ⟨V, 4, none⟩ = some (.string xh) := cell_of_blk HVw9.out 4
                        have k5 : w9.cell? ⟨V, 5, none⟩ = some (.slice av RL cv) := cell_of_blk HVw9.out 5
                        clear hbN hkN hb9 HXw9 HVw9 HRw9 HOw9 HWw9 NDw9
                        go_wp2_with (at_builtin; refine wpList_append_hk rfl _ _ rfl (D + 1) _ acc rfl HOw10.out w9.heap.size H (.slice av RL cv) rfl HN10.out HRH.out hal3 HFS.out ?_; intro v7 wz hO7 hb7; have HOz := hid hO7; have NDz := hid ((hb7.block D (Nat.lt_succ_self D)).trans NDw10.out); have HWz := hid (HWw10.out.trans (hb7.mono (Nat.le_succ D))); clear hO7 hb7)
                        go_roundw
                        case rel => exact ⟨c, f2, acc ++ [H], rfl, HOz, HWz, NDz, by omega, hcl, by rw [List.length_append]; simp; omega, hid (fun h hh => by
                            rcases List.mem_append.1 hh with hh | hh
                            · exact HS.out h hh
                            · rw [List.mem_singleton.1 hh]; exact ⟨HSMX.out, HSZH.out⟩), hid ⟨by have := HF2.out; omega, HI2.out.symm⟩⟩
                        case measure => simp [intOf]; omega
          · have i2 : ¬ ((k : Int) < (LL : Int)) := by omega
            have HR1 : Hid (Un.parse s.data.toList = endP s.data.toList L o q (.fin (k + 1) acc)) := hid (by rw [HRES0.out, ← HI.out.2, hf2, Un.hunksD_no (List.drop_eq_nil_of_le (by have := HLL.out; omega))])
            clear hf2
            rcases Nat.eq_zero_or_pos acc.length with h0 | h0
            · have e : acc = [] := List.length_eq_zero_iff.1 h0
              subst e
              have HRES : Hid (Un.parse s.data.toList = .bad (k + 1) 100) := hid (by rw [HR1.out]; rfl)
              have i5 : IntKind.i64.wrap ((k : Int) + 1) = ((k + 1 : Nat) : Int) := by rw [wrapOk (by omega) (by omega)]; rfl
              clear h0
              go_wp2_with fail
              refine wp_region_class (C := ClsD w B) (by kernel_rfl) (by kernel_rfl) ⟨below_drewN (HBw1.out.trans (HWwr.out.mono HDW.out)) 1, ((HWwr.out.block B (by have := HDB.out; omega)).trans N0w1.out), ((HWwr.out.block (B + 1) (by have := HDB.out; omega)).trans N1w1.out), ((HWwr.out.block (B + 2) (by have := HDB.out; omega)).trans N2w1.out)⟩ ?_
              refine wpQuiet_step (fun K hK => ?_)
              rw [if_pos (by rfl)]
              refine ⟨.agg #[.string ⟨#[]⟩, .string ⟨#[]⟩], fun w' hw' => ?_, hK _ ?_⟩
              · have c0 : w'.cell? ⟨B + 2, 0, none⟩ = some (.string ⟨#[]⟩) := cell_of_blk hw'.2.2.2 0
                have c1 : w'.cell? ⟨B + 2, 1, none⟩ = some (.string ⟨#[]⟩) := cell_of_blk hw'.2.2.2 1
                go_simp
              clear hK K
              refine wpQuiet_step (fun K hK => ?_)
              rw [if_pos (by rfl)]
              refine ⟨.agg #[.string ⟨#[]⟩, .string ⟨#[]⟩], fun w' hw' => ?_, hK _ ?_⟩
              · have c0 : w'.cell? ⟨B + 2, 0, none⟩ = some (.string ⟨#[]⟩) := cell_of_blk hw'.2.2.2 0
                have c1 : w'.cell? ⟨B + 2, 1, none⟩ = some (.string ⟨#[]⟩) := cell_of_blk hw'.2.2.2 1
                go_simp
              clear hK K
              refine wpQuiet_step (fun K hK => ?_)
              go_simp
              refine ⟨_, fun _ _ => rfl, hK _ ?_⟩
              clear hK K
              refine wpQuiet_step (fun K hK => ?_)
              go_simp
              refine ⟨_, fun _ _ => rfl, hK _ ?_⟩
              clear hK K
              refine wpQuiet_step (fun K hK => ?_)
              rw [if_pos (by rfl)]
              refine ⟨undef, fun w' hw' => ?_, hK _ ?_⟩
              · unfold Oper.quietAt
                exact quiet_stA 23 #[.string ⟨#[]⟩, .string ⟨#[]⟩] rfl hw'.2.1 Tryz.sizeName rfl rfl rfl
              clear hK K
              refine wpQuiet_step (fun K hK => ?_)
              rw [if_pos (by rfl)]
              refine ⟨undef, fun w' hw' => ?_, hK _ ?_⟩
              · unfold Oper.quietAt
                exact quiet_stA 23 #[.string ⟨#[]⟩, .string ⟨#[]⟩] rfl hw'.2.2.1 Tryz.sizeName rfl rfl rfl
              clear hK K
              refine wpQuiet_step (fun K hK => ?_)
              go_simp
              refine ⟨_, fun _ _ => rfl, hK _ ?_⟩
              clear hK K
              refine wpQuiet_step (fun K hK => ?_)
              go_simp
              refine ⟨_, fun _ _ => rfl, hK _ ?_⟩
              clear hK K
              refine wpQuiet_step (fun K hK => ?_)
              go_simp
              refine ⟨_, fun _ _ => rfl, hK _ ?_⟩
              clear hK K
              refine wpQuiet_step (fun K hK => ?_)
              go_simp
              refine ⟨_, fun _ _ => rfl, hK _ ?_⟩
              clear hK K
              refine wpQuiet_nil ?_
              rintro w66 ⟨hb66, y00, y10, y20⟩
              have y0 : w66.cell? ⟨B, 0, none⟩ = some (.string ⟨#[]⟩) := cell_of_blk y00 0
              have y1 : w66.cell? ⟨B, 1, none⟩ = some (.string ⟨#[]⟩) := cell_of_blk y00 1
              have z0 : w66.cell? ⟨B + 1, 0, none⟩ = some (.string ⟨#[]⟩) := cell_of_blk y10 0
              have z1 : w66.cell? ⟨B + 1, 1, none⟩ = some (.string ⟨#[]⟩) := cell_of_blk y10 1
              have HB66 := hid hb66
              clear hb66 y00 y10 y20
              go_wp2_with fail
              exact bodyPost_ret (v := .tuple #[.agg #[.string ⟨#[]⟩, .string ⟨#[]⟩], .agg #[.string ⟨#[]⟩, .string ⟨#[]⟩], .slice none 0 0, .string ⟨#[]⟩, .int .i64 (k + 1 : Nat), .int .i64 100]) (by simp [results, Tryz.results17, go_sem, y0, y1, z0, z1]) rfl ⟨HB66.out, by rw [HRES.out]; rfl⟩
            · have i5 : ((acc.length : Int) == 0) = false := ine (by omega)
              have hne : acc ≠ [] := fun e => by rw [e] at h0; exact absurd h0 (by decide)
              have HRES : Hid (Un.parse s.data.toList = endP s.data.toList L o q (.ok acc (k + 1))) := hid (by rw [HR1.out]; unfold Un.Pr.fin; rw [if_neg hne])
              have hal2 : acc.length ≤ 5000000 := by omega
              have HF0 : Hid (flN L 0 = 0) := hid (by unfold flN; rw [List.take_zero]; rfl)
              clear h0 hne HR1
              go_wp2_with fail
              obtain ⟨wq, rfl⟩ : ∃ wq, wq = wr := ⟨_, rfl⟩
              go_loopw [22, 23] (fun sk ii wr => ∃ i : Nat, i ≤ k ∧ ii = .int .i64 i ∧ sk = .int .i64 (flN L i : Nat) ∧ wr = wq) (fun _ ii _ => k - (intOf ii).toNat)
              case atStart => exact ⟨0, Nat.zero_le _, rfl, by rw [HF0.out]; rfl, rfl⟩
              case round =>
                obtain ⟨i, hi, rfl, rfl, hw⟩ := hrel
                subst hw
                by_cases hik : i < k
                · obtain ⟨y, hy⟩ : ∃ y, L[i]? = some y := ⟨_, List.getElem?_eq_getElem (by have := HLL.out; omega)⟩
                  have c3 : wr.cell? ⟨lb, lo + i, none⟩ = some (.string (bB y)) := (HWwr.out.cell (p := ⟨lb, lo + i, none⟩) (HCL.out i y hy).1).trans (HCL.out i y hy).2
                  have HFN := hid (flN_next hy)
                  obtain ⟨F1, hF1⟩ : ∃ F, F = flN L i := ⟨_, rfl⟩
                  obtain ⟨F2, hF2⟩ : ∃ F, F = flN L (i + 1) := ⟨_, rfl⟩
                  have hFT2 := HFT.out (i + 1)
                  have HFF : Hid (F2 = flN L (i + 1)) := hid hF2
                  have hys : (bB y).size = y.length := by rw [← dsize, bB_data]
                  have hf : F2 = F1 + (bB y).size := by rw [hF1, hF2, hys]; exact HFN.out
                  have i6 : IntKind.i64.wrap ((F1 : Int) + ((bB y).size : Int)) = (F2 : Int) := by rw [wrapOk (by omega) (by omega)]; omega
                  have i7 : (i : Int) < (LL : Int) := by omega
                  have i8 : (0 : Int) ≤ (i : Int) := by omega
                  rw [← hF1]
                  clear hy HFN hF1 hF2 hFT2 hys hf
                  go_wp2_with fail
                  go_roundw
                  case rel => exact ⟨i + 1, by omega, by go_num, by rw [← HFF.out], by first | rfl | trivial⟩
                  case measure => simp [intOf]; omega
                · obtain rfl : i = k := by omega
                  have i7 : ¬ ((i : Int) < (i : Int)) := by omega
                  obtain ⟨F, hF⟩ : ∃ F, F = flN L i := ⟨_, rfl⟩
                  rw [← hF]
                  have hFT := HFT.out i
                  rw [← hF] at hFT
                  obtain ⟨M, hM⟩ : ∃ M, M = min F s.size := ⟨_, rfl⟩
                  have HM : Hid (min (F : Int) (s.size : Int) = (M : Int)) := hid (by rw [hM]; omega)
                  have hm1 : (0 : Int) ≤ (M : Int) := by omega
                  have hm2 : (M : Int) ≤ (s.size : Int) := by omega
                  have hm3 : M ≤ s.size := by omega
                  have HX := hid (dropE s M)
                  have HRES2 : Hid (Un.parse s.data.toList = .ok o q acc (s.data.toList.drop M)) := hid (by rw [HRES.out]; unfold endP; simp only []; rw [show i + 1 - 1 = i by omega, ← hF, hM, dsize])
                  clear hF hM HRES
                  go_wp2_with fail
                  have HWwd : Hid (Below D w1 wr.drew) := hid (HWwr.out.drew)
                  have NDwd : Hid (wr.drew.heap[D]? = some (.cells #[.string (bB o.1), .string (bB o.2), .string (bB q.1), .string (bB q.2)] 75)) := NDwr
                  have HOwd : Hid (OwnH wr.drew (D + 1) (.slice va acc.length vc) acc) := hid (HOwr.out.stays (below_drewN (Below.refl _ _) 1))
                  refine wp_region_noPanic ?_
                  refine wp_region_held_drew (S := fun w' => w'.heap[D]? = some (.cells #[.string (bB o.1), .string (bB o.2), .string (bB q.1), .string (bB q.2)] 75)) (by kernel_rfl) NDwd.out (fun hHeld => ?Mf2)
                  generalize wr.drew = wd at HWwd NDwd HOwd hHeld ⊢
                  clear HWwr NDwr HOwr
                  refine take_d (i := 0) (v := ?v0_f2) 154 rfl rfl (by kernel_rfl) (by kernel_rfl) (by kernel_rfl) (fun _ _ _ h => h) (Or.inl ⟨by rfl, fun ww hSw => ?y0_f2⟩) hHeld ?r0_f2
                  case y0_f2 => (dsimp only at hSw; go_simp; all_goals with_reducible rfl)
                  try simp only [Act.put]
                  try simp only [List.setIfInBounds_toArray]
                  try simp only [List.set]
                  refine take_d (i := 1) (v := ?v1_f2) 155 rfl rfl (by kernel_rfl) (by kernel_rfl) (by kernel_rfl) (fun _ _ _ h => h) (Or.inl ⟨by rfl, fun ww hSw => ?y1_f2⟩) hHeld ?r1_f2
                  case y1_f2 => (dsimp only at hSw; have t0 : ww.cell? ⟨D, 0, none⟩ = some (.string (bB o.1)) := cell_of_blk hSw 0; have t1 : ww.cell? ⟨D, 1, none⟩ = some (.string (bB o.2)) := cell_of_blk hSw 1; go_simp; all_goals with_reducible rfl)
                  try simp only [Act.put]
                  try simp only [List.setIfInBounds_toArray]
                  try simp only [List.set]
                  refine take_d (i := 2) (v := ?v2_f2) 156 rfl rfl (by kernel_rfl) (by kernel_rfl) (by kernel_rfl) (fun _ _ _ h => h) (Or.inl ⟨by rfl, fun ww hSw => ?y2_f2⟩) hHeld ?r2_f2
                  case y2_f2 => (dsimp only at hSw; go_simp; all_goals with_reducible rfl)
                  try simp only [Act.put]
                  try simp only [List.setIfInBounds_toArray]
                  try simp only [List.set]
                  refine take_d (i := 3) (v := ?v3_f2) 157 rfl rfl (by kernel_rfl) (by kernel_rfl) (by kernel_rfl) (fun _ _ _ h => h) (Or.inl ⟨by rfl, fun ww hSw => ?y3_f2⟩) hHeld ?r3_f2
                  case y3_f2 => (dsimp only at hSw; have t0 : ww.cell? ⟨D, 2, none⟩ = some (.string (bB q.1)) := cell_of_blk hSw 2; have t1 : ww.cell? ⟨D, 3, none⟩ = some (.string (bB q.2)) := cell_of_blk hSw 3; go_simp; all_goals with_reducible rfl)
                  try simp only [Act.put]
                  try simp only [List.setIfInBounds_toArray]
                  try simp only [List.set]
                  refine take_d (i := 4) (v := ?v4_f2) 158 rfl rfl (by kernel_rfl) (by kernel_rfl) (by kernel_rfl) (fun _ _ _ h => h) (Or.inl ⟨by rfl, fun ww hSw => ?y4_f2⟩) hHeld ?r4_f2
                  case y4_f2 => (dsimp only at hSw; go_simp; all_goals with_reducible rfl)
                  try simp only [Act.put]
                  try simp only [List.setIfInBounds_toArray]
                  try simp only [List.set]
                  refine take_d (i := 5) (v := ?v5_f2) 159 rfl rfl (by kernel_rfl) (by kernel_rfl) (by kernel_rfl) (fun _ _ _ h => h) (Or.inl ⟨by rfl, fun ww hSw => ?y5_f2⟩) hHeld ?r5_f2
                  case y5_f2 => (dsimp only at hSw; go_simp; all_goals with_reducible rfl)
                  try simp only [Act.put]
                  try simp only [List.setIfInBounds_toArray]
                  try simp only [List.set]
                  refine take_d (i := 6) (v := ?v6_f2) 160 rfl rfl (by kernel_rfl) (by kernel_rfl) (by kernel_rfl) (fun _ _ _ h => h) (Or.inl ⟨by rfl, fun ww hSw => ?y6_f2⟩) hHeld ?r6_f2
                  case y6_f2 => (dsimp only at hSw; go_simp; all_goals with_reducible rfl)
                  try simp only [Act.put]
                  try simp only [List.setIfInBounds_toArray]
                  try simp only [List.set]
                  refine take_d (i := 7) (v := ?v7_f2) 161 rfl rfl (by kernel_rfl) (by kernel_rfl) (by kernel_rfl) (fun _ _ _ h => h) (Or.inl ⟨by rfl, fun ww hSw => ?y7_f2⟩) hHeld ?r7_f2
                  case y7_f2 => (dsimp only at hSw; go_simp; all_goals with_reducible rfl)
                  try simp only [Act.put]
                  try simp only [List.setIfInBounds_toArray]
                  try simp only [List.set]
                  refine take_d (i := 8) (v := ?v8_f2) 162 rfl rfl (by kernel_rfl) (by kernel_rfl) (by kernel_rfl) (fun _ _ _ h => h) (Or.inl ⟨by rfl, fun ww hSw => ?y8_f2⟩) hHeld ?r8_f2
                  case y8_f2 => (dsimp only at hSw; go_simp; all_goals with_reducible rfl)
                  try simp only [Act.put]
                  try simp only [List.setIfInBounds_toArray]
                  try simp only [List.set]
                  refine take_d (i := 9) (v := ?v9_f2) 163 rfl rfl (by kernel_rfl) (by kernel_rfl) (by kernel_rfl) (fun _ _ _ h => h) (Or.inl ⟨by rfl, fun ww hSw => ?y9_f2⟩) hHeld ?r9_f2
                  case y9_f2 => (dsimp only at hSw; go_simp; rw [HM.out]; all_goals with_reducible rfl)
                  try simp only [Act.put]
                  try simp only [List.setIfInBounds_toArray]
                  try simp only [List.set]
                  refine take_d (i := 10) (v := ?v10_f2) 164 rfl rfl (by kernel_rfl) (by kernel_rfl) (by kernel_rfl) (fun _ _ _ h => h) (Or.inl ⟨by rfl, fun ww hSw => ?y10_f2⟩) hHeld ?r10_f2
                  case y10_f2 => (dsimp only at hSw; go_simp; all_goals with_reducible rfl)
                  try simp only [Act.put]
                  try simp only [List.setIfInBounds_toArray]
                  try simp only [List.set]
                  have N0wd := hid ((HWwd.out.block B (by have := HDB.out; omega)).trans N0w1.out)
                  have N1wd := hid ((HWwd.out.block (B + 1) (by have := HDB.out; omega)).trans N1w1.out)
                  have HBwd := hid (HBw1.out.trans (HWwd.out.mono HDW.out))
                  clear HWwd
                  refine wpAnyH_ready (rs := [11]) (by kernel_rfl) (by simp) ?p11_f2
                  refine AllReadyH.cons rfl (fun K hK => ?_) AllReadyH.nil
                  rw [if_pos (by rfl)]
                  refine wpOp_stA 23 #[.string (bB o.1), .string (bB o.2)] rfl N0wd.out Tryz.sizeName rfl rfl rfl rfl ?_
                  intro w7 hk7 hkp7
                  have HK7 := hid hk7
                  have HB7 := hid (Kept.onto HBwd.out hkp7 (Nat.le_of_eq HBW.out.symm) (Nat.le_refl _))
                  have N17 := hid ((hkp7.block (B + 1) (lt_of_heap N1wd.out) (by omega)).trans N1wd.out)
                  have HO7 := hid (HOwd.out.kept hkp7 N0wd.out (by decide) (by decide))
                  have hh7 : w7.heap[D]? = some (.cells #[.string (bB o.1), .string (bB o.2), .string (bB q.1), .string (bB q.2)] 75) := (hkp7.block D (lt_of_heap NDwd.out) (by have := HDB.out; omega)).trans NDwd.out
                  refine hK.out _ _ hh7 (fun hHeld => ?_)
                  clear hK K hk7 hkp7
                  try simp only [Act.put]
                  try simp only [List.setIfInBounds_toArray]
                  try simp only [List.set]
                  refine wpAnyH_ready (rs := [12]) (by kernel_rfl) (by simp) ?p12_f2
                  refine AllReadyH.cons rfl (fun K hK => ?_) AllReadyH.nil
                  rw [if_pos (by rfl)]
                  refine wpOp_stA 23 #[.string (bB q.1), .string (bB q.2)] rfl N17.out Tryz.sizeName rfl rfl rfl rfl ?_
                  intro w8 hk8 hkp8
                  have y0 : w8.cell? ⟨B, 0, none⟩ = some (.string (bB o.1)) := cell_of_blk ((hkp8.block B (lt_of_heap HK7.out) (by omega)).trans HK7.out) 0
                  have y1 : w8.cell? ⟨B, 1, none⟩ = some (.string (bB o.2)) := cell_of_blk ((hkp8.block B (lt_of_heap HK7.out) (by omega)).trans HK7.out) 1
                  have z0 : w8.cell? ⟨B + 1, 0, none⟩ = some (.string (bB q.1)) := cell_of_blk hk8 0
                  have z1 : w8.cell? ⟨B + 1, 1, none⟩ = some (.string (bB q.2)) := cell_of_blk hk8 1
                  have HB8 := hid (Kept.onto HB7.out hkp8 (by have := HBW.out; omega) (Nat.le_refl _))
                  have HO8 := hid (HO7.out.kept hkp8 N17.out (by decide) (by decide))
                  have hh8 : w8.heap[D]? = some (.cells #[.string (bB o.1), .string (bB o.2), .string (bB q.1), .string (bB q.2)] 75) := (hkp8.block D (lt_of_heap (w := w7) hh7) (by have := HDB.out; omega)).trans hh7
                  refine hK.out _ _ hh8 (fun hHeld => ?_)
                  clear hK K hk8 hkp8 hh7
                  try simp only [Act.put]
                  try simp only [List.setIfInBounds_toArray]
                  try simp only [List.set]
                  refine wpAnyH_ready (rs := [13]) (by kernel_rfl) (by simp) ?p13_f2
                  refine AllReadyH.cons rfl (fun K hK => ?_) AllReadyH.nil
                  go_simp
                  refine hK.out _ _ hh8 (fun hHeld => ?_)
                  clear hK K
                  try simp only [Act.put]
                  try simp only [List.setIfInBounds_toArray]
                  try simp only [List.set]
                  refine wpAnyH_ready (rs := [14]) (by kernel_rfl) (by simp) ?p14_f2
                  refine AllReadyH.cons rfl (fun K hK => ?_) AllReadyH.nil
                  go_simp
                  refine hK.out _ _ hh8 (fun hHeld => ?_)
                  clear hK K
                  try simp only [Act.put]
                  try simp only [List.setIfInBounds_toArray]
                  try simp only [List.set]
                  refine wpAnyH_ready (rs := [15]) (by kernel_rfl) (by simp) ?p15_f2
                  refine AllReadyH.cons rfl (fun K hK => ?_) AllReadyH.nil
                  go_simp
                  refine hK.out _ _ hh8 (fun hHeld => ?_)
                  clear hK K
                  try simp only [Act.put]
                  try simp only [List.setIfInBounds_toArray]
                  try simp only [List.set]
                  refine wpAnyH_ready (rs := [16]) (by kernel_rfl) (by simp) ?p16_f2
                  refine AllReadyH.cons rfl (fun K hK => ?_) AllReadyH.nil
                  go_simp
                  refine hK.out _ _ hh8 (fun hHeld => ?_)
                  clear hK K
                  try simp only [Act.put]
                  try simp only [List.setIfInBounds_toArray]
                  try simp only [List.set]
                  refine wpAnyH_done (by kernel_rfl) ?_ _
                  refine NoPanic.normal ?_
                  go_wp2_with fail
                  exact bodyPost_ret (v := .tuple #[.agg #[.string (bB o.1), .string (bB o.2)], .agg #[.string (bB q.1), .string (bB q.2)], .slice va acc.length vc, .string (s.extract M s.size), .int .i64 0, .int .i64 0]) (by simp [results, Tryz.results17, go_sem, y0, y1, z0, z1]) rfl ⟨HB8.out, by
                    rw [HRES2.out]
                    exact ⟨_, by rw [HX.out], HO8.out.mono (by have := HDW.out; omega), fun h hh => (HS.out h hh).2, hal2⟩⟩
end Go.Proofs.YtobocdbehjcpjaaGreatDoor
