/-
  The walks of the program's withRows, withHunks, Of, and of the document's Of.
-/
import Derived.Test.YthnibchlgcgalaaGreatDoorBw
import Derived.Test.YthnibchlgcgalaaGreatDoorGrJ3
import Derived.Test.YthnibchlgcgalaaGreatDoorGrKc
namespace Go.Proofs.YthnibchlgcgalaaGreatDoor.Sx
open Go.RowKit
open Hu (Rw Hk)

/-! ### plain: rows that come, rows that go -/
def cA : List Rw → Int
  | [] => 0
  | r :: l => (if r.k = 3 then 1 else 0) + cA l
def cD : List Rw → Int
  | [] => 0
  | r :: l => (if r.k = 2 then 1 else 0) + cD l
theorem cA_snoc (l : List Rw) (r : Rw) : cA (l ++ [r]) = cA l + (if r.k = 3 then 1 else 0) := by
  induction l with
  | nil => show (if r.k = 3 then (1 : Int) else 0) + 0 = 0 + _; omega
  | cons x l ih => show _ + cA (l ++ [r]) = _ + cA l + _; rw [ih]; omega
theorem cD_snoc (l : List Rw) (r : Rw) : cD (l ++ [r]) = cD l + (if r.k = 2 then 1 else 0) := by
  induction l with
  | nil => show (if r.k = 2 then (1 : Int) else 0) + 0 = 0 + _; omega
  | cons x l ih => show _ + cD (l ++ [r]) = _ + cD l + _; rw [ih]; omega
theorem take_oneR {α : Type} {l : List α} {k : Nat} {x : α} (h : l[k]? = some x) : l.take (k + 1) = l.take k ++ [x] := by
  rw [List.take_add_one, h]; rfl
theorem cA_take {l : List Rw} {k : Nat} {x : Rw} (h : l[k]? = some x) : cA (l.take (k + 1)) = cA (l.take k) + (if x.k = 3 then 1 else 0) := by rw [take_oneR h, cA_snoc]
theorem cD_take {l : List Rw} {k : Nat} {x : Rw} (h : l[k]? = some x) : cD (l.take (k + 1)) = cD (l.take k) + (if x.k = 2 then 1 else 0) := by rw [take_oneR h, cD_snoc]
theorem cAD_le (l : List Rw) : 0 ≤ cA l ∧ cA l ≤ l.length ∧ 0 ≤ cD l ∧ cD l ≤ l.length := by
  induction l with
  | nil => simp [cA, cD]
  | cons x l ih =>
    show 0 ≤ _ + cA l ∧ _ + cA l ≤ _ ∧ 0 ≤ _ + cD l ∧ _ + cD l ≤ _
    rw [List.length_cons]
    refine ⟨?_, ?_, ?_, ?_⟩ <;> split <;> omega
/-- of all hunks -/
def tA : List Hk → Int
  | [] => 0
  | h :: l => cA h.rows + tA l
def tD : List Hk → Int
  | [] => 0
  | h :: l => cD h.rows + tD l
def tR : List Hk → Nat
  | [] => 0
  | h :: l => h.rows.length + tR l
theorem tA_snoc (l : List Hk) (h : Hk) : tA (l ++ [h]) = tA l + cA h.rows ∧ tD (l ++ [h]) = tD l + cD h.rows ∧ tR (l ++ [h]) = tR l + h.rows.length := by
  induction l with
  | nil => simp [tA, tD, tR]
  | cons x l ih =>
    obtain ⟨i1, i2, i3⟩ := ih
    refine ⟨?_, ?_, ?_⟩
    · show _ + tA (l ++ [h]) = _ + tA l + _; omega
    · show _ + tD (l ++ [h]) = _ + tD l + _; omega
    · show _ + tR (l ++ [h]) = _ + tR l + _; omega
theorem tA_take {l : List Hk} {k : Nat} {x : Hk} (h : l[k]? = some x) : tA (l.take (k + 1)) = tA (l.take k) + cA x.rows ∧ tD (l.take (k + 1)) = tD (l.take k) + cD x.rows := by
  rw [take_oneR h]
  exact ⟨(tA_snoc _ _).1, (tA_snoc _ _).2.1⟩
theorem tAD_le (l : List Hk) : 0 ≤ tA l ∧ tA l ≤ tR l ∧ 0 ≤ tD l ∧ tD l ≤ tR l := by
  induction l with
  | nil => simp [tA, tD, tR]
  | cons x l ih =>
    have h := cAD_le x.rows
    show 0 ≤ _ + tA l ∧ _ + tA l ≤ ((_ + tR l : Nat) : Int) ∧ 0 ≤ _ + tD l ∧ _ + tD l ≤ ((_ + tR l : Nat) : Int)
    omega
theorem tA_part (l : List Hk) (k : Nat) : tA (l.take k) ≤ tA l ∧ tD (l.take k) ≤ tD l := by
  induction l generalizing k with
  | nil => simp
  | cons x l ih =>
    have h := cAD_le x.rows
    have h2 := tAD_le l
    cases k with
    | zero => show (0 : Int) ≤ _ + tA l ∧ (0 : Int) ≤ _ + tD l; omega
    | succ k => show _ + tA (l.take k) ≤ _ + tA l ∧ _ + tD (l.take k) ≤ _ + tD l; have := ih k; omega
theorem tR_take (l : List Hk) (k : Nat) : tR (l.take k) ≤ tR l := by
  induction l generalizing k with
  | nil => simp
  | cons x l ih =>
    cases k with
    | zero => exact Nat.zero_le _
    | succ k => show _ + tR (l.take k) ≤ _ + tR l; have := ih k; omega
theorem tR_mem {l : List Hk} {x : Hk} (h : x ∈ l) : x.rows.length ≤ tR l := by
  induction l with
  | nil => cases h
  | cons y l ih =>
    show _ ≤ _ + tR l
    rcases List.mem_cons.1 h with rfl | h
    · omega
    · have := ih h; omega
abbrev ctRw (x : Rw) : Obj := .cells #[.int .i64 x.k, .string x.t] 50
theorem rw_size : (Tryz.prog.info? 50).map (·.size) = some 2 := by kernel_rfl
/-- what holds between the rounds over rows -/
structure WrR (w wr : World) (G : Nat) (nm : ByteArray) (a d : Int) : Prop where
  c : wr.heap[G]? = some (ctO nm a d)
  r : wr.heap[G + 1]? = some (ctO ⟨#[]⟩ 0 0)
  b : Below G w wr
theorem WrR.later {w wr w2 : World} {G : Nat} {nm : ByteArray} {a d : Int} (h : WrR w wr G nm a d) (hb : Below wr.heap.size wr w2) : WrR w w2 G nm a d :=
  ⟨(hb.block _ (lt_of_heap h.c)).trans h.c, (hb.block _ (lt_of_heap h.r)).trans h.r, h.b.trans (hb.mono (Nat.le_of_lt (lt_of_heap h.c)))⟩
theorem WrR.set1 {w wr : World} {G : Nat} {nm : ByteArray} {a d : Int} (h : WrR w wr G nm a d) (x : Int) : WrR w (wr.setCell ⟨G, 1, none⟩ (.int .i64 x)) G nm x d :=
  ⟨set_heapK wr _ 1 _ _ _ h.c, (set_otherK wr (by omega)).trans h.r, h.b.setCell (Nat.le_refl _) _⟩
theorem WrR.set2 {w wr : World} {G : Nat} {nm : ByteArray} {a d : Int} (h : WrR w wr G nm a d) (x : Int) : WrR w (wr.setCell ⟨G, 2, none⟩ (.int .i64 x)) G nm a x :=
  ⟨set_heapK wr _ 2 _ _ _ h.c, (set_otherK wr (by omega)).trans h.r, h.b.setCell (Nat.le_refl _) _⟩
set_option maxHeartbeats 4000000 in
theorem withRows_any {w : World} {v : Value} {rs : List Rw} (c : Ct) (hr : RdW w v rs) (hl : rs.length < 5864062014800) (ha : 0 ≤ c.a ∧ c.a ≤ 2147483647) (hd : 0 ≤ c.d ∧ c.d ≤ 2147483647) :
    Calls Tryz.prog 23 #[CtV c, v] w fun e w' => e = .returned (CtV ⟨c.nm, c.a + cA rs, c.d + cD rs⟩) ∧ Below w.heap.size w w' := by
  obtain ⟨a, cp, rfl⟩ := hr.shape
  obtain ⟨nm, ca, cd⟩ := c
  unfold CtV
  simp only at ha hd ⊢
  obtain ⟨n, hnn⟩ : ∃ n, n = rs.length := ⟨_, rfl⟩
  have HR := hid hr
  have HN := hid hnn
  rw [← hnn] at HR hl ⊢
  have H2 := hid (two_new w (ctO nm ca cd) (ctO ⟨#[]⟩ 0 0))
  obtain ⟨G, hG⟩ : ∃ G, G = w.heap.size := ⟨_, rfl⟩
  have HG := hid hG
  clear hr hnn
  go_enter Tryz.func23, Tryz.ntmps23
  go_wp2_with fail
  rw [← hG] at H2 ⊢
  clear hG
  generalize (w.alloc (.cells #[.string nm, .int .i64 ca, .int .i64 cd] 24)).alloc (.cells #[.string ⟨#[]⟩, .int .i64 0, .int .i64 0] 24) = w0 at H2 ⊢
  go_loopw [9] (fun i wr => ∃ k : Nat, k ≤ n ∧ i = .int .i64 k ∧ Hid (WrR w wr G nm (ca + cA (rs.take k)) (cd + cD (rs.take k)))) (fun i _ => n - (intOf i).toNat)
  case atStart => exact ⟨0, Nat.zero_le _, rfl, hid ⟨by rw [List.take_zero, show cA [] = 0 from rfl, show cD [] = 0 from rfl, Int.add_zero, Int.add_zero]; exact H2.out.2.1, H2.out.2.2, H2.out.1⟩⟩
  case round =>
    obtain ⟨k, hk, rfl, HI⟩ := hrel
    clear H2
    by_cases hlt : k < n
    · obtain ⟨x, hx⟩ : ∃ x, rs[k]? = some x := ⟨_, List.getElem?_eq_getElem (by have := HN.out; omega)⟩
      have hbw : Below w.heap.size w wr := by have := HI.out.b; rw [HG.out] at this; exact this
      obtain ⟨b1, o1, e1, hb1, d0, d1⟩ := rdW_at (RdX.below HR.out hbw) hx
      subst e1
      have HTA := hid (cA_take hx)
      have HTD := hid (cD_take hx)
      have hle := cAD_le (rs.take k)
      have hlk : (rs.take k).length < 5864062014800 := by rw [List.length_take]; omega
      obtain ⟨sA, hsA⟩ : ∃ s, s = ca + cA (rs.take k) := ⟨_, rfl⟩
      obtain ⟨sD, hsD⟩ : ∃ s, s = cd + cD (rs.take k) := ⟨_, rfl⟩
      have HSA : Hid (∀ z, cA (rs.take (k + 1)) = cA (rs.take k) + z → ca + cA (rs.take (k + 1)) = sA + z) := hid (fun z hz => by rw [hz, hsA]; omega)
      have HSD : Hid (∀ z, cD (rs.take (k + 1)) = cD (rs.take k) + z → cd + cD (rs.take (k + 1)) = sD + z) := hid (fun z hz => by rw [hz, hsD]; omega)
      rw [← hsA, ← hsD] at HI
      have s1 : IntKind.i64.wrap (sA + 1) = sA + 1 := wrapI (by omega) (by omega)
      have s2 : IntKind.i64.wrap (sD + 1) = sD + 1 := wrapI (by omega) (by omega)
      have i1 : (0 : Int) ≤ (k : Int) := by omega
      have i2 : (k : Int) < (n : Int) := by omega
      have HNB := hid (one_new wr (.cells #[.int .i64 x.k, .string x.t] 50))
      have HI1 := hid (HI.out.later HNB.out.1)
      clear hx hbw hb1 hle hlk hsA hsD HI
      have y1 : (wr.alloc (ctRw x)).cell? ⟨G, 1, none⟩ = some (.int .i64 sA) := cell_of_blk HI1.out.c 1
      have y2 : (wr.alloc (ctRw x)).cell? ⟨G, 2, none⟩ = some (.int .i64 sD) := cell_of_blk HI1.out.c 2
      have f1 : (wr.alloc (ctRw x)).frozen? ⟨G, 1, none⟩ = false := frozK HI1.out.c 1
      have f2 : (wr.alloc (ctRw x)).frozen? ⟨G, 2, none⟩ = false := frozK HI1.out.c 2
      unfold ctRw at y1 y2 f1 f2
      by_cases k3 : x.k = 3
      · have q3 : (x.k == 3) = true := zeq k3
        have h2 : ¬ x.k = 2 := by omega
        rw [if_pos k3] at HTA
        rw [if_neg h2] at HTD
        clear k3 h2
        go_wp2_with fail
        go_roundw
        case rel => exact ⟨k + 1, by omega, by go_num, hid (by rw [HSA.out _ HTA.out, HSD.out _ HTD.out, Int.add_zero]; exact HI1.out.set1 _)⟩
        case measure => simp [intOf]; omega
      · have q3 : (x.k == 3) = false := zne k3
        rw [if_neg k3] at HTA
        by_cases k2 : x.k = 2
        · have q2 : (x.k == 2) = true := zeq k2
          rw [if_pos k2] at HTD
          clear k3 k2
          go_wp2_with fail
          go_roundw
          case rel => exact ⟨k + 1, by omega, by go_num, hid (by rw [HSA.out _ HTA.out, HSD.out _ HTD.out, Int.add_zero]; exact HI1.out.set2 _)⟩
          case measure => simp [intOf]; omega
        · have q2 : (x.k == 2) = false := zne k2
          rw [if_neg k2] at HTD
          clear k3 k2
          go_wp2_with fail
          go_roundw
          case rel => exact ⟨k + 1, by omega, by go_num, hid (by rw [HSA.out _ HTA.out, HSD.out _ HTD.out, Int.add_zero, Int.add_zero]; exact HI1.out)⟩
          case measure => simp [intOf]; omega
    · have HT : Hid (rs.take k = rs) := hid (List.take_of_length_le (by have := HN.out; omega))
      rw [HT.out] at HI
      obtain ⟨sA, hsA⟩ : ∃ s, s = ca + cA rs := ⟨_, rfl⟩
      obtain ⟨sD, hsD⟩ : ∃ s, s = cd + cD rs := ⟨_, rfl⟩
      have HE : Hid (ca + cA rs = sA ∧ cd + cD rs = sD) := hid ⟨hsA.symm, hsD.symm⟩
      rw [← hsA, ← hsD] at HI
      clear hsA hsD
      have y0 : wr.cell? ⟨G, 0, none⟩ = some (.string nm) := cell_of_blk HI.out.c 0
      have y1 : wr.cell? ⟨G, 1, none⟩ = some (.int .i64 sA) := cell_of_blk HI.out.c 1
      have y2 : wr.cell? ⟨G, 2, none⟩ = some (.int .i64 sD) := cell_of_blk HI.out.c 2
      go_wp2_with (guard_target =~ wpList _ _ _ (_ :: _) _ _; refine wpList_stK 24 #[.string nm, .int .i64 sA, .int .i64 sD] rfl rfl HI.out.r ct_size rfl rfl rfl rfl ?_; intro w4 hk4 hkp4; have HK4 := hid hk4; have HB4 := hid (kept_below HI.out.b hkp4 (Nat.le_succ _) (lt_of_heap HI.out.r)); clear hk4 hkp4)
      refine bodyPost_ret_by (results_cell_row Tryz.results23 _ _ (G + 1) _ _ _ _ rfl HK4.out Tryz.underlying24 rfl (by kernel_rfl)) rfl ?_
      exact ⟨by rw [HE.out.1, HE.out.2], by have := HB4.out; rw [HG.out] at this; exact this⟩
/-! ### the program's Of -/
def allVld (l : List Hk) : Bool := l.all Hu.vld
def ofV (nm : ByteArray) (l : List Hk) : Value := if allVld l = true then CtV ⟨nm, tA l, tD l⟩ else CtV ⟨⟨#[]⟩, 0, 0⟩
def ofN (l : List Hk) : Nat := if allVld l = true then 0 else 100
theorem of_no {l : List Hk} {nm : ByteArray} (h : allVld l = false) : ofV nm l = .agg #[.string ⟨#[]⟩, .int .i64 0, .int .i64 0] ∧ ofN l = 100 := by unfold ofV ofN; rw [h]; exact ⟨rfl, rfl⟩
theorem of_yes {l : List Hk} {nm : ByteArray} (h : allVld l = true) : ofV nm l = .agg #[.string nm, .int .i64 (tA l), .int .i64 (tD l)] ∧ ofN l = 0 := by unfold ofV ofN; rw [h]; exact ⟨rfl, rfl⟩
theorem vld_not {l : List Hk} {k : Nat} {x : Hk} (h : l[k]? = some x) (hx : Hu.vld x = false) : allVld l = false := by
  cases e : allVld l with
  | false => rfl
  | true => unfold allVld at e; rw [List.all_eq_true.1 e x (List.mem_of_getElem? h)] at hx; cases hx
theorem vld_upto {l : List Hk} {k : Nat} {x : Hk} (hx : l[k]? = some x) (h : allVld (l.take k) = true) (hv : Hu.vld x = true) : allVld (l.take (k + 1)) = true := by
  unfold allVld at h ⊢
  rw [take_oneR hx, List.all_append, h]
  simp [hv]
abbrev hkO (x : Hk) (u : Value) : Obj := .cells #[.int .i64 x.a, .int .i64 x.n, .int .i64 x.b, .int .i64 x.m, .string x.head, u] 48
set_option maxHeartbeats 4000000 in
theorem withHunks_any {w : World} {v : Value} {l : List Hk} (nm : ByteArray) (hr : RdH w v l) (hl : l.length ≤ 1954687338260) (hz : ∀ h ∈ l, SzH h) (ht : tA l ≤ 2147483647 ∧ tD l ≤ 2147483647) :
    Calls Tryz.prog 11 #[CtV ⟨nm, 0, 0⟩, v] w fun e w' => e = .returned (.tuple #[ofV nm l, errV (ofN l)]) ∧ Below w.heap.size w w' := by
  obtain ⟨a, cp, rfl⟩ := hr.shape
  unfold CtV
  simp only
  obtain ⟨n, hnn⟩ : ∃ n, n = l.length := ⟨_, rfl⟩
  have HR := hid hr
  have HN := hid hnn
  have HZ := hid hz
  have HT := hid ht
  rw [← hnn] at HR hl ⊢
  have H2 := hid (two_new w (ctO nm 0 0) (ctO ⟨#[]⟩ 0 0))
  obtain ⟨G, hG⟩ : ∃ G, G = w.heap.size := ⟨_, rfl⟩
  have HG := hid hG
  clear hr hnn hz ht
  go_enter Tryz.func11, Tryz.ntmps11
  go_wp2_with fail
  rw [← hG] at H2 ⊢
  clear hG
  generalize (w.alloc (.cells #[.string nm, .int .i64 0, .int .i64 0] 24)).alloc (.cells #[.string ⟨#[]⟩, .int .i64 0, .int .i64 0] 24) = w0 at H2 ⊢
  go_loopw [11] (fun i wr => ∃ k : Nat, k ≤ n ∧ i = .int .i64 k ∧ Hid (allVld (l.take k) = true) ∧ Hid (WrR w wr G nm (tA (l.take k)) (tD (l.take k)))) (fun i _ => n - (intOf i).toNat)
  case atStart => exact ⟨0, Nat.zero_le _, rfl, hid (by rw [List.take_zero]; rfl), hid ⟨by rw [List.take_zero]; exact H2.out.2.1, H2.out.2.2, H2.out.1⟩⟩
  case round =>
    obtain ⟨k, hk, rfl, HV, HI⟩ := hrel
    clear H2
    by_cases hlt : k < n
    · obtain ⟨x, hx⟩ : ∃ x, l[k]? = some x := ⟨_, List.getElem?_eq_getElem (by have := HN.out; omega)⟩
      have hbw : Below w.heap.size w wr := by have := HI.out.b; rw [HG.out] at this; exact this
      obtain ⟨b1, o1, u, e1, hb1, d0, d1, d2, d3, d4, d5, hu⟩ := rdH_at (HR.out.below hbw) hx
      subst e1
      have hxl := List.mem_of_getElem? hx
      have HTA := hid (tA_take hx)
      have hle := tAD_le (l.take k)
      have htk := tA_part l k
      have hxr := (HZ.out x hxl).1
      have HNB := hid (one_new wr (hkO x u))
      have HI1 := hid (HI.out.later HNB.out.1)
      have HU := hid (hu.below HNB.out.1)
      have HVa := hid (hvalid_any HU.out (HZ.out x hxl))
      unfold HkV at HVa
      have i1 : (0 : Int) ≤ (k : Int) := by omega
      have i2 : (k : Int) < (n : Int) := by omega
      obtain ⟨ua, uc, hus⟩ := hu.shape
      cases ev : Hu.vld x with
      | false =>
        have HE := hid (of_no (nm := nm) (vld_not hx ev))
        have e100 : errV (vldN x) = .iface 51 (.int .i64 100) := by unfold vldN; rw [ev]; rfl
        have e100' : errV (ofN l) = .iface 51 (.int .i64 100) := by rw [HE.out.2]; rfl
        have HEE := hid (And.intro HE.out.1 e100')
        rw [e100] at HVa
        subst hus
        clear hx hbw hb1 hu hxl hle htk hxr HE e100 e100' HI ev
        go_wp2_with fail
        generalize wr.alloc (.cells #[.int .i64 x.a, .int .i64 x.n, .int .i64 x.b, .int .i64 x.m, .string x.head, .slice ua x.rows.length uc] 48) = w1 at HI1 HVa ⊢
        refine HVa.out.mono ?_
        rintro e w2 ⟨rfl, hb2⟩
        have HI2 := hid (HI1.out.later hb2)
        clear hb2 HVa HI1
        go_wp2_with (guard_target =~ wpList _ _ _ (_ :: _) _ _; refine wpList_stK 24 #[.string ⟨#[]⟩, .int .i64 0, .int .i64 0] rfl rfl HI2.out.r ct_size rfl rfl rfl rfl ?_; intro w3 hk3 hkp3; have HK3 := hid hk3; have HB3 := hid (kept_below HI2.out.b hkp3 (Nat.le_succ _) (lt_of_heap HI2.out.r)); clear hk3 hkp3)
        exact bodyPost_ret (results_ct2 Tryz.results11 rfl HK3.out rfl) rfl ⟨by first | (rw [HEE.out.1, HEE.out.2]; done) | (rw [HEE.out.1, HEE.out.2]; rfl), by have := HB3.out; rw [HG.out] at this; exact this⟩
      | true =>
        have e0 : errV (vldN x) = .nilIface := by unfold vldN; rw [ev]; rfl
        rw [e0] at HVa
        have HV2 := hid (vld_upto hx HV.out ev)
        have HTK : Hid (0 ≤ tA (l.take k) ∧ tA (l.take k) ≤ 2147483647 ∧ 0 ≤ tD (l.take k) ∧ tD (l.take k) ≤ 2147483647 ∧ x.rows.length < 5864062014800) := hid (by have := HT.out; omega)
        subst hus
        obtain ⟨sA, hsA⟩ : ∃ s, s = tA (l.take k) := ⟨_, rfl⟩
        obtain ⟨sD, hsD⟩ : ∃ s, s = tD (l.take k) := ⟨_, rfl⟩
        rw [← hsA, ← hsD] at HI1 HTK HTA
        obtain ⟨tA', htA'⟩ : ∃ s, s = tA (l.take (k + 1)) := ⟨_, rfl⟩
        obtain ⟨tD', htD'⟩ : ∃ s, s = tD (l.take (k + 1)) := ⟨_, rfl⟩
        have HTE := hid (And.intro htA' htD')
        rw [← htA', ← htD'] at HTA
        clear hx hbw hb1 hu hxl hle htk hxr HI ev e0 hsA hsD htA' htD'
        go_wp2_with fail
        obtain ⟨E, hE⟩ : ∃ E, E = wr.heap.size := ⟨_, rfl⟩
        rw [← hE]
        rw [← hE] at HNB
        clear hE
        have HE1 := hid HNB.out.2
        clear HNB
        generalize wr.alloc (.cells #[.int .i64 x.a, .int .i64 x.n, .int .i64 x.b, .int .i64 x.m, .string x.head, .slice ua x.rows.length uc] 48) = w1 at HI1 HVa HU HE1 ⊢
        refine HVa.out.mono ?_
        rintro e w2 ⟨rfl, hb2⟩
        have HI2 := hid (HI1.out.later hb2)
        have HE2 : Hid (w2.heap[E]? = some (hkO x (.slice ua x.rows.length uc))) := hid ((hb2.block E (lt_of_heap HE1.out)).trans HE1.out)
        have HWR := hid (withRows_any ⟨nm, sA, sD⟩ (RdX.below HU.out hb2) HTK.out.2.2.2.2 ⟨HTK.out.1, HTK.out.2.1⟩ ⟨HTK.out.2.2.1, HTK.out.2.2.2.1⟩)
        unfold CtV at HWR
        simp only at HWR
        rw [← HTA.out.1, ← HTA.out.2] at HWR
        have y0 : w2.cell? ⟨G, 0, none⟩ = some (.string nm) := cell_of_blk HI2.out.c 0
        have y1 : w2.cell? ⟨G, 1, none⟩ = some (.int .i64 sA) := cell_of_blk HI2.out.c 1
        have y2 : w2.cell? ⟨G, 2, none⟩ = some (.int .i64 sD) := cell_of_blk HI2.out.c 2
        have e5 : w2.cell? ⟨E, 5, none⟩ = some (.slice ua x.rows.length uc) := cell_of_blk HE2.out 5
        clear hb2 HVa HI1 HU HE1
        go_wp2_with fail
        refine HWR.out.mono ?_
        rintro e w3 ⟨rfl, hb3⟩
        have HI3 := hid (HI2.out.later hb3)
        clear hb3 HWR HI2 y0 y1 y2 e5 HE2
        go_wp2_with (guard_target =~ wpList _ _ _ (_ :: _) _ _; refine wpList_stK 24 #[.string nm, .int .i64 tA', .int .i64 tD'] rfl rfl HI3.out.c ct_size rfl rfl rfl rfl ?_; intro w4 hk4 hkp4; have HI4 : Hid (WrR w w4 G nm tA' tD') := hid ⟨hk4, (hkp4.block _ (lt_of_heap HI3.out.r) (by omega)).trans HI3.out.r, kept_below HI3.out.b hkp4 (Nat.le_refl _) (lt_of_heap HI3.out.c)⟩; clear hk4 hkp4)
        go_roundw
        case rel => exact ⟨k + 1, by omega, by go_num, HV2, hid (by rw [← HTE.out.1, ← HTE.out.2]; exact HI4.out)⟩
        case measure => simp [intOf]; omega
    · have HTt : Hid (l.take k = l) := hid (List.take_of_length_le (by have := HN.out; omega))
      rw [HTt.out] at HI HV
      have HE := hid (of_yes (nm := nm) HV.out)
      have hle := tAD_le l
      have htl := HT.out
      have hok : okC ⟨nm, tA l, tD l⟩ = true := okC_iff.2 ⟨⟨by show 0 ≤ tA l; omega, by show tA l ≤ _; omega⟩, by show 0 ≤ tD l; omega, by show tD l ≤ _; omega⟩
      have HIs := hid (ctIs_any ⟨nm, tA l, tD l⟩ wr)
      rw [hok] at HIs
      unfold CtV at HIs
      simp only at HIs
      have HEE : Hid (ofV nm l = .agg #[.string nm, .int .i64 (tA l), .int .i64 (tD l)] ∧ errV (ofN l) = .nilIface) := hid ⟨HE.out.1, by rw [HE.out.2]; rfl⟩
      obtain ⟨sA, hsA⟩ : ∃ s, s = tA l := ⟨_, rfl⟩
      obtain ⟨sD, hsD⟩ : ∃ s, s = tD l := ⟨_, rfl⟩
      rw [← hsA, ← hsD] at HI HIs HEE
      clear hle htl hok HE hsA hsD
      have y0 : wr.cell? ⟨G, 0, none⟩ = some (.string nm) := cell_of_blk HI.out.c 0
      have y1 : wr.cell? ⟨G, 1, none⟩ = some (.int .i64 sA) := cell_of_blk HI.out.c 1
      have y2 : wr.cell? ⟨G, 2, none⟩ = some (.int .i64 sD) := cell_of_blk HI.out.c 2
      go_wp2_with fail
      refine HIs.out.mono ?_
      rintro e w2 ⟨rfl, hb2⟩
      have HI2 := hid (HI.out.later hb2)
      clear hb2 HIs HI y0 y1 y2
      have y0 : w2.cell? ⟨G, 0, none⟩ = some (.string nm) := cell_of_blk HI2.out.c 0
      have y1 : w2.cell? ⟨G, 1, none⟩ = some (.int .i64 sA) := cell_of_blk HI2.out.c 1
      have y2 : w2.cell? ⟨G, 2, none⟩ = some (.int .i64 sD) := cell_of_blk HI2.out.c 2
      go_wp2_with (guard_target =~ wpList _ _ _ (_ :: _) _ _; refine wpList_stK 24 #[.string nm, .int .i64 sA, .int .i64 sD] rfl rfl HI2.out.r ct_size rfl rfl rfl rfl ?_; intro w3 hk3 hkp3; have HK3 := hid hk3; have HB3 := hid (kept_below HI2.out.b hkp3 (Nat.le_succ _) (lt_of_heap HI2.out.r)); clear hk3 hkp3)
      exact bodyPost_ret (results_ct2 Tryz.results11 rfl HK3.out rfl) rfl ⟨by first | (rw [HEE.out.1, HEE.out.2]; done) | (rw [HEE.out.1, HEE.out.2]; rfl), by have := HB3.out; rw [HG.out] at this; exact this⟩
set_option maxHeartbeats 2000000 in
theorem of_any {w : World} {v : Value} {l : List Hk} (nm : ByteArray) (hr : RdH w v l) (hl : l.length ≤ 1954687338260) (hz : ∀ h ∈ l, SzH h) (ht : tA l ≤ 2147483647 ∧ tD l ≤ 2147483647) :
    Calls Tryz.prog 5 #[.string nm, v] w fun e w' => e = .returned (.tuple #[ofV nm l, errV (ofN l)]) ∧ Below w.heap.size w w' := by
  have HN := hid (one_new w (ctO ⟨#[]⟩ 0 0))
  have HW := hid (withHunks_any nm (hr.below HN.out.1) hl hz ht)
  obtain ⟨a, cp, rfl⟩ := hr.shape
  unfold CtV at HW
  simp only at HW
  obtain ⟨cs, hcs, hsz, hall⟩ : ∃ cs : Array Value, ofV nm l = .agg cs ∧ cs.size = 3 ∧ cs.toList.all (·.oneCell') = true := by
    cases h : allVld l with
    | false => exact ⟨_, (of_no h).1, rfl, rfl⟩
    | true => exact ⟨_, (of_yes h).1, rfl, rfl⟩
  obtain ⟨er, her⟩ : ∃ er, er = errV (ofN l) := ⟨_, rfl⟩
  rw [← her] at HW ⊢
  rw [hcs] at HW ⊢
  have HSZ := hid (And.intro hsz hall)
  obtain ⟨n, hnn⟩ : ∃ n, n = l.length := ⟨_, rfl⟩
  rw [← hnn] at HW ⊢
  obtain ⟨G, hG⟩ : ∃ G, G = w.heap.size := ⟨_, rfl⟩
  have HG := hid hG
  clear hr hl hz ht hcs her hnn hsz hall
  go_enter Tryz.func5, Tryz.ntmps5
  go_wp2_with fail
  rw [← hG] at HN ⊢
  clear hG
  generalize w.alloc (.cells #[.string ⟨#[]⟩, .int .i64 0, .int .i64 0] 24) = w1 at HN HW ⊢
  refine HW.out.mono ?_
  rintro e w2 ⟨rfl, hb2⟩
  have HK : Hid (w2.heap[G]? = some (ctO ⟨#[]⟩ 0 0)) := hid ((hb2.block _ (lt_of_heap HN.out.2)).trans HN.out.2)
  have HB2 : Hid (Below G w w2) := hid (HN.out.1.trans (hb2.mono (Nat.le_of_lt (lt_of_heap HN.out.2))))
  clear hb2 HW HN
  go_wp2_with (guard_target =~ wpList _ _ _ (_ :: _) _ _; refine wpList_stK 24 cs rfl rfl HK.out (by rw [ct_size, HSZ.out.1]) (by rw [HSZ.out.1]; rfl) HSZ.out.2 rfl rfl ?_; intro w3 hk3 hkp3; have HK3 := hid hk3; have HB3 := hid (kept_below HB2.out hkp3 (Nat.le_refl _) (lt_of_heap HK.out)); clear hk3 hkp3)
  exact bodyPost_ret (results_ct2 Tryz.results5 rfl HK3.out HSZ.out.1) rfl ⟨rfl, by have := HB3.out; rw [HG.out] at this; exact this⟩
end Go.Proofs.YthnibchlgcgalaaGreatDoor.Sx
