/-
  The walk of trim: what both sides of a box begin and end with.
-/
import Derived.Test.YtdilmgcdebobaaaV5
import Derived.BigQuiet
import Derived.Deep.QuietTactic
import Derived.Deep.LoopGhost
namespace Go.Proofs.Ytdilmgcdebobaaa
open Go.RowKit
open Ed (Ch Run Pr)

/-- how many numbers are alike from two places on -/
def hdN (a b : List Int) : Nat → Nat → Nat → Nat
  | 0, _, _ => 0
  | f + 1, x, y => if a[x]? = b[y]? then hdN a b f (x + 1) (y + 1) + 1 else 0
theorem hdN_le (a b : List Int) : ∀ f x y, hdN a b f x y ≤ f
  | 0, _, _ => Nat.le_refl _
  | f + 1, x, y => by
    unfold hdN
    split
    · have := hdN_le a b f (x + 1) (y + 1); omega
    · omega
theorem hdN_if (a b : List Int) : ∀ (f x y i : Nat), i ≤ hdN a b f x y → i < f → (a[x + i]? = b[y + i]? ↔ i < hdN a b f x y)
  | 0, _, _, _, _, h => by omega
  | f + 1, x, y, i, h1, h2 => by
    unfold hdN at h1 ⊢
    split
    · rename_i hc
      rw [if_pos hc] at h1
      cases i with
      | zero => simpa using hc
      | succ i =>
        have := hdN_if a b f (x + 1) (y + 1) i (by omega) (by omega)
        rw [show x + (i + 1) = x + 1 + i by omega, show y + (i + 1) = y + 1 + i by omega, this]
        omega
    · rename_i hc
      rw [if_neg hc] at h1
      obtain rfl : i = 0 := by omega
      simpa using hc
/-- how many are alike ahead of two places -/
def tlN (a b : List Int) : Nat → Nat → Nat → Nat
  | 0, _, _ => 0
  | f + 1, x, y => if a[x - 1]? = b[y - 1]? then tlN a b f (x - 1) (y - 1) + 1 else 0
theorem tlN_le (a b : List Int) : ∀ f x y, tlN a b f x y ≤ f
  | 0, _, _ => Nat.le_refl _
  | f + 1, x, y => by
    unfold tlN
    split
    · have := tlN_le a b f (x - 1) (y - 1); omega
    · omega
theorem tlN_if (a b : List Int) : ∀ (f x y i : Nat), i ≤ tlN a b f x y → i < f → (a[x - 1 - i]? = b[y - 1 - i]? ↔ i < tlN a b f x y)
  | 0, _, _, _, _, h => by omega
  | f + 1, x, y, i, h1, h2 => by
    unfold tlN at h1 ⊢
    split
    · rename_i hc
      rw [if_pos hc] at h1
      cases i with
      | zero => simpa using hc
      | succ i =>
        have := tlN_if a b f (x - 1) (y - 1) i (by omega) (by omega)
        rw [show x - 1 - (i + 1) = x - 1 - 1 - i by omega, show y - 1 - (i + 1) = y - 1 - 1 - i by omega, this]
        omega
    · rename_i hc
      rw [if_neg hc] at h1
      obtain rfl : i = 0 := by omega
      simpa using hc
def upM (m : List Int) (x y : Nat) : Nat → List Int
  | 0 => m
  | k + 1 => (upM m x y k).set (x + k) ((y + k : Nat) : Int)
def dnM (m : List Int) (x y : Nat) : Nat → List Int
  | 0 => m
  | k + 1 => (dnM m x y k).set (x - (k + 1)) ((y - (k + 1) : Nat) : Int)
theorem upM_len (m : List Int) (x y : Nat) : ∀ k, (upM m x y k).length = m.length
  | 0 => rfl
  | k + 1 => by rw [upM, List.length_set, upM_len m x y k]
theorem dnM_len (m : List Int) (x y : Nat) : ∀ k, (dnM m x y k).length = m.length
  | 0 => rfl
  | k + 1 => by rw [dnM, List.length_set, dnM_len m x y k]
abbrev boxC (x y X Y : Nat) : Obj := .cells #[.int .i64 x, .int .i64 y, .int .i64 X, .int .i64 Y] 40
abbrev zbox : Obj := .cells #[.int .i64 0, .int .i64 0, .int .i64 0, .int .i64 0] 40
abbrev pairC (va vb vm pm pp : Value) : Obj := .cells #[va, vb, vm, pm, pp] 53

structure TrAt (w2 w : World) (gm W x y X Y : Nat) (m : List Int) : Prop where
  box : w.heap[W]? = some (boxC x y X Y)
  res : w.heap[W + 1]? = some zbox
  row : IlR w gm m
  kept : Kept (fun j => j = gm ∨ j = W) w2 w
theorem TrAt.drewN {w2 w : World} {gm W x y X Y : Nat} {m : List Int} (h : TrAt w2 w gm W x y X Y m) (q : Nat) : TrAt w2 (w.drewN q) gm W x y X Y m := ⟨h.box, h.res, h.row.far rfl, h.kept.drewN q⟩
theorem TrAt.mate {w2 w : World} {gm W x y X Y : Nat} {m : List Int} (h : TrAt w2 w gm W x y X Y m) (h1 : gm < W) (k : Nat) (v : Int) : TrAt w2 (w.setCell ⟨gm, k, none⟩ (.int .i64 v)) gm W x y X Y (m.set k v) :=
  ⟨(set_other w (by omega)).trans h.box, (set_other w (by omega)).trans h.res, h.row.set k v, h.kept.set (.inl rfl) _⟩
theorem TrAt.set0 {w2 w : World} {gm W x y X Y : Nat} {m : List Int} (h : TrAt w2 w gm W x y X Y m) (h1 : gm < W) (v : Nat) : TrAt w2 (w.setCell ⟨W, 0, none⟩ (.int .i64 v)) gm W v y X Y m :=
  ⟨set_heap w W 0 _ _ _ h.box, (set_other w (by omega)).trans h.res, h.row.far (set_other w (by omega)), h.kept.set (.inr rfl) _⟩
theorem TrAt.set1 {w2 w : World} {gm W x y X Y : Nat} {m : List Int} (h : TrAt w2 w gm W x y X Y m) (h1 : gm < W) (v : Nat) : TrAt w2 (w.setCell ⟨W, 1, none⟩ (.int .i64 v)) gm W x v X Y m :=
  ⟨set_heap w W 1 _ _ _ h.box, (set_other w (by omega)).trans h.res, h.row.far (set_other w (by omega)), h.kept.set (.inr rfl) _⟩
theorem TrAt.set2 {w2 w : World} {gm W x y X Y : Nat} {m : List Int} (h : TrAt w2 w gm W x y X Y m) (h1 : gm < W) (v : Nat) : TrAt w2 (w.setCell ⟨W, 2, none⟩ (.int .i64 v)) gm W x y v Y m :=
  ⟨set_heap w W 2 _ _ _ h.box, (set_other w (by omega)).trans h.res, h.row.far (set_other w (by omega)), h.kept.set (.inr rfl) _⟩
theorem TrAt.set3 {w2 w : World} {gm W x y X Y : Nat} {m : List Int} (h : TrAt w2 w gm W x y X Y m) (h1 : gm < W) (v : Nat) : TrAt w2 (w.setCell ⟨W, 3, none⟩ (.int .i64 v)) gm W x y X v m :=
  ⟨set_heap w W 3 _ _ _ h.box, (set_other w (by omega)).trans h.res, h.row.far (set_other w (by omega)), h.kept.set (.inr rfl) _⟩

set_option maxHeartbeats 8000000 in
set_option maxRecDepth 100000 in
theorem trim_any {w0 w : World} {g gm x y X Y : Nat} {va vb pm pp : Value} {a b m : List Int} (hv : RdI w0 va a) (hu : RdI w0 vb b) (hla : a.length ≤ 4194304) (hlb : b.length ≤ 4194304) (hB : Below w0.heap.size w0 w) (hg : w0.heap.size ≤ g) (hgm : w0.heap.size ≤ gm) (hne : g ≠ gm)
    (hG : w.heap[g]? = some (pairC va vb (.slice (some ⟨gm, 0, none⟩) a.length a.length) pm pp)) (hm : IlR w gm m) (hml : m.length = a.length) (h1 : x ≤ X) (h2 : X ≤ a.length) (h3 : y ≤ Y) (h4 : Y ≤ b.length)
    (H T : Nat) (hH : H = hdN a b (min (X - x) (Y - y)) x y) (hT : T = tlN a b (min (X - x - H) (Y - y - H)) X Y) :
    Calls Try.prog 41 #[.pointer (some ⟨g, 0, none⟩), .agg #[.int .i64 x, .int .i64 y, .int .i64 X, .int .i64 Y]] w fun e w' =>
      e = .returned (.agg #[.int .i64 (x + H : Nat), .int .i64 (y + H : Nat), .int .i64 (X - T : Nat), .int .i64 (Y - T : Nat)]) ∧ IlR w' gm (dnM (upM m x y H) X Y T) ∧ Kept (fun j => j = gm) w w' := by
  have hHl : H ≤ min (X - x) (Y - y) := by rw [hH]; exact hdN_le _ _ _ _ _
  have hTl : T ≤ min (X - x - H) (Y - y - H) := by rw [hT]; exact tlN_le _ _ _ _ _
  have HIF : Hid (∀ i, i ≤ H → i < min (X - x) (Y - y) → (a[x + i]? = b[y + i]? ↔ i < H)) := hid (fun i hi hl => by rw [hH] at hi ⊢; exact hdN_if a b _ x y i hi hl)
  have TIF : Hid (∀ i, i ≤ T → i < min (X - x - H) (Y - y - H) → (a[X - 1 - i]? = b[Y - 1 - i]? ↔ i < T)) := hid (fun i hi hl => by rw [hT] at hi ⊢; exact tlN_if a b _ X Y i hi hl)
  obtain ⟨av, cv, rfl⟩ := hv.shape
  obtain ⟨au, cu, rfl⟩ := hu.shape
  have HV := hid hv
  have HU := hid hu
  have HB := hid hB
  have HG := hid hG
  have HM := hid hm
  have HML := hid hml
  have hgl := lt_of_heap hG
  have hgml := hm.lt
  have hbs := hB.size
  obtain ⟨NA, hNA⟩ : ∃ NA, NA = a.length := ⟨_, rfl⟩
  obtain ⟨NB, hNB⟩ : ∃ NB, NB = b.length := ⟨_, rfl⟩
  rw [← hNA] at HG hla h2 HML
  rw [← hNB] at HG hlb h4
  have HNA := hid hNA
  have HNB := hid hNB
  rw [← hNA] at HV
  rw [← hNB] at HU
  obtain ⟨W, hW⟩ : ∃ W, W = w.heap.size := ⟨_, rfl⟩
  obtain ⟨w2, hw2⟩ : ∃ w2, w2 = (w.alloc (boxC x y X Y)).alloc (zbox) := ⟨_, rfl⟩
  have hb2 : Below w.heap.size w w2 := by rw [hw2]; exact ((Below.refl _ _).alloc (Nat.le_refl _) _).alloc (by simp) _
  have hs2 : w2.heap.size = W + 2 := by rw [hw2, hW]; simp
  have e0 : w2.heap[W]? = some (boxC x y X Y) := by
    rw [hw2, hW]
    exact ((Below.refl _ _).alloc (Nat.le_refl _) _ |>.block w.heap.size (by simp)).trans (heap_alloc_new w _)
  have e1 : w2.heap[W + 1]? = some (zbox) := by
    rw [hw2, hW]
    have := heap_alloc_new (w.alloc (boxC x y X Y)) (zbox)
    simpa using this
  have HE0 := hid e0
  have HE1 := hid e1
  have HS2 := hid hs2
  have HB2 := hid hb2
  have HWW := hid hW
  have HW2 := hid hw2
  rw [← hW] at hgl hgml
  clear hv hu hB hG hm hml hNA hNB hW hw2 hb2 hs2 e0 e1 hH hT
  go_enter Try.func41, Try.ntmps41
  go_wp2_with fail
  rw [← HW2.out, ← HWW.out]
  have HK0 := hid (Kept.refl (fun j => j = gm ∨ j = W) w2)
  have HM2 : Hid (IlR w2 gm m) := hid (HM.out.far (HB2.out.block gm HM.out.lt))
  have HG2 : Hid (w2.heap[g]? = _) := hid ((HB2.out.block g (lt_of_heap HG.out)).trans HG.out)
  have HBW : Hid (Below w0.heap.size w0 w2) := hid (HB.out.trans (HB2.out.mono hbs))
  clear HB HM HG
  go_loopg [] H (fun k wr => ∃ h : Nat, h ≤ H ∧ k = H - h ∧ Hid (TrAt w2 wr gm W (x + h) (y + h) X Y (upM m x y h)))
  case atStart => exact ⟨0, Nat.zero_le _, rfl, hid ⟨HE0.out, HE1.out, HM2.out, HK0.out⟩⟩
  case round =>
    clear HE0 HE1 HM2 HK0
    obtain ⟨h, hh, hk, HT⟩ := hrel
    have HK := hid HT.out.kept
    have hWs : W + 2 = w2.heap.size := HS2.out.symm
    have HGr : Hid (wr.heap[g]? = _) := hid ((HK.out.block g (lt_of_heap HG2.out) (by rintro (e | e) <;> omega)).trans HG2.out)
    have HBr : Hid (Below w0.heap.size w0 wr) := hid (HBW.out.trans (HK.out.below (fun j e => by rcases e with e | e <;> omega) HBW.out.size))
    obtain ⟨p, hp⟩ : ∃ p, p = x + h := ⟨_, rfl⟩
    obtain ⟨r, hr⟩ : ∃ r, r = y + h := ⟨_, rfl⟩
    rw [← hp, ← hr] at HT
    have HE0 := hid HT.out.box
    have HPp := hid hp
    have HRr := hid hr
    clear hp hr
    have c0 := cell_of_blk HE0.out 0
    have c1 := cell_of_blk HE0.out 1
    have c2 := cell_of_blk HE0.out 2
    have c3 := cell_of_blk HE0.out 3
    have cf := fun o => frozen_of_blk HE0.out o
    have p0 := cell_of_blk HGr.out 0
    have p1 := cell_of_blk HGr.out 1
    have p2 := cell_of_blk HGr.out 2
    simp only [List.getElem?_toArray, List.getElem?_cons_zero, List.getElem?_cons_succ] at c0 c1 c2 c3 p0 p1 p2
    go_upto_region 1 with fail
    go_cut [35] (fun c wx => c = .bool (decide (h < H)) ∧ ∃ q, wx = wr.drewN q)
    case first =>
      by_cases hx : p < X
      · have e1 : decide ((p : Int) < (X : Int)) = true := decide_eq_true (by omega)
        by_cases hy : r < Y
        · have e2 : decide ((r : Int) < (Y : Int)) = true := decide_eq_true (by omega)
          obtain ⟨z, hz⟩ : ∃ z, a[p]? = some z := ⟨_, List.getElem?_eq_getElem (by have := HNA.out; omega)⟩
          obtain ⟨z', hz'⟩ : ∃ z', b[r]? = some z' := ⟨_, List.getElem?_eq_getElem (by have := HNB.out; omega)⟩
          have HE : Hid ((z == z') = decide (h < H)) := hid (by
            have h5 := HPp.out
            have h6 := HRr.out
            have := HIF.out h hh (by omega)
            rw [← h5, ← h6] at this
            rw [hz, hz', Option.some.injEq] at this
            rw [Bool.eq_iff_iff, beq_iff_eq, decide_eq_true_eq]
            exact this)
          obtain ⟨b1, o1, rfl, hb1, d1⟩ := rdI_at (HNA.out ▸ HV.out) hz
          obtain ⟨b2, o2, rfl, hb2, d2⟩ := rdI_at (HNB.out ▸ HU.out) hz'
          have d1' := (HBr.out.cell (p := ⟨b1, o1 + p, none⟩) hb1).trans d1
          have d2' := (HBr.out.cell (p := ⟨b2, o2 + r, none⟩) hb2).trans d2
          have i1 : (0 : Int) ≤ (p : Int) := by omega
          have i2 : (p : Int) < (NA : Int) := by omega
          have i3 : (0 : Int) ≤ (r : Int) := by omega
          have i4 : (r : Int) < (NB : Int) := by omega
          clear hz hz' d1 d2
          go_quiet (fail)
          go_wp2
          go_meet
          exact ⟨by rw [HE.out], _, rfl⟩
        · have e2 : decide ((r : Int) < (Y : Int)) = false := decide_eq_false (by omega)
          have HE : Hid (decide (h < H) = false) := hid (decide_eq_false (by have := HPp.out; have := HRr.out; omega))
          go_quiet (fail)
          go_wp2
          go_meet
          exact ⟨by rw [HE.out], _, rfl⟩
      · have e1 : decide ((p : Int) < (X : Int)) = false := decide_eq_false (by omega)
        have HE : Hid (decide (h < H) = false) := hid (decide_eq_false (by have := HPp.out; have := HRr.out; omega))
        go_quiet (fail)
        go_wp2
        go_meet
        exact ⟨by rw [HE.out], _, rfl⟩
    case rest =>
      obtain ⟨rfl, q, rfl⟩ := hcut
      have c0' : (wr.drewN q).cell? ⟨W, 0, none⟩ = _ := c0
      have c1' : (wr.drewN q).cell? ⟨W, 1, none⟩ = _ := c1
      have c2' : (wr.drewN q).cell? ⟨W, 2, none⟩ = _ := c2
      have c3' : (wr.drewN q).cell? ⟨W, 3, none⟩ = _ := c3
      have p0' : (wr.drewN q).cell? ⟨g, 0, none⟩ = _ := p0
      have p1' : (wr.drewN q).cell? ⟨g, 1, none⟩ = _ := p1
      have p2' : (wr.drewN q).cell? ⟨g, 2, none⟩ = _ := p2
      have HT3 := hid (HT.out.drewN q)
      generalize wr.drewN q = w3 at c0' c1' c2' c3' p0' p1' p2' HT3 ⊢
      clear c0 c1 c2 c3 p0 p1 p2 cf HE0 HT HK HGr HBr wr
      by_cases hlt : h < H
      · rw [decide_eq_true hlt]
        have hpl : p < NA := by have := HPp.out; omega
        have i1 : (0 : Int) ≤ (p : Int) := by omega
        have i2 : (p : Int) < (NA : Int) := by omega
        have i3 : IntKind.i64.wrap ((p : Int) + 1) = (p : Int) + 1 := wrapOk (by omega) (by omega)
        have i4 : IntKind.i64.wrap ((r : Int) + 1) = (r : Int) + 1 := wrapOk (by have := HRr.out; omega) (by have := HRr.out; omega)
        have mf := fun o => HT3.out.row.frozen o
        have cf := fun o => frozen_of_blk HT3.out.box o
        have hmp : w3.cell? ⟨gm, p, none⟩ ≠ none := by
          obtain ⟨z, hz⟩ : ∃ z, (upM m x y h)[p]? = some z := ⟨_, List.getElem?_eq_getElem (by rw [upM_len, HML.out]; exact hpl)⟩
          rw [HT3.out.row.cell hz]; simp
        have hWg : W ≠ gm := by omega
        have hgW : g ≠ W := by omega
        go_wp2_with fail
        refine wp_region_qtail 9 (by kernel_rfl) (by kernel_rfl) ?_
        simp only [List.take_succ_cons, List.take_zero, List.drop_succ_cons, List.drop_zero]
        repeat go_big_quiet_step (fail)
        refine wpQuiet_nil ?_
        go_wp2
        go_roundg (H - (h + 1))
        case measure => omega
        case rel =>
          refine ⟨h + 1, by omega, rfl, hid ?_⟩
          have t := ((((HT3.out.drewN 1).mate hgml p r).set0 hgml (p + 1)).set1 hgml (r + 1))
          have e1 := HPp.out
          have e2 := HRr.out
          rw [← Nat.add_assoc, ← Nat.add_assoc, ← e1, ← e2, upM, ← e1, ← e2]
          exact t
      · rw [decide_eq_false hlt]
        have hhH : h = H := by omega
        have HPH : Hid (p = x + H) := hid (by rw [← hhH]; exact HPp.out)
        have HRH : Hid (r = y + H) := hid (by rw [← hhH]; exact HRr.out)
        rw [hhH] at HT3
        clear hlt hh hk hhH HPp HRr h
        clear c0' c1' c2' c3' p0' p1' p2'
        go_wp2
        go_loopg [] T (fun k wr => ∃ t : Nat, t ≤ T ∧ k = T - t ∧ Hid (TrAt w2 wr gm W p r (X - t) (Y - t) (dnM (upM m x y H) X Y t)))
        case atStart => exact ⟨0, Nat.zero_le _, rfl, HT3⟩
        case round =>
          clear HT3 w3
          obtain ⟨t, ht, hk, HT⟩ := hrel
          have HK := hid HT.out.kept
          have HGr : Hid (wr.heap[g]? = _) := hid ((HK.out.block g (lt_of_heap HG2.out) (by rintro (e | e) <;> omega)).trans HG2.out)
          have HBr : Hid (Below w0.heap.size w0 wr) := hid (HBW.out.trans (HK.out.below (fun j e => by rcases e with e | e <;> omega) HBW.out.size))
          obtain ⟨MX, hMX⟩ : ∃ MX, MX = X - t := ⟨_, rfl⟩
          obtain ⟨MY, hMY⟩ : ∃ MY, MY = Y - t := ⟨_, rfl⟩
          rw [← hMX, ← hMY] at HT
          have HMX := hid hMX
          have HMY := hid hMY
          clear hMX hMY
          have HE0 := hid HT.out.box
          have c0 := cell_of_blk HE0.out 0
          have c1 := cell_of_blk HE0.out 1
          have c2 := cell_of_blk HE0.out 2
          have c3 := cell_of_blk HE0.out 3
          have p0 := cell_of_blk HGr.out 0
          have p1 := cell_of_blk HGr.out 1
          have p2 := cell_of_blk HGr.out 2
          simp only [List.getElem?_toArray, List.getElem?_cons_zero, List.getElem?_cons_succ] at c0 c1 c2 c3 p0 p1 p2
          go_upto_region 5 with fail
          go_cut [85] (fun c wx => c = .bool (decide (t < T)) ∧ ∃ q, wx = wr.drewN q)
          case first =>
            by_cases hx : p < MX
            · have e1 : decide ((p : Int) < (MX : Int)) = true := decide_eq_true (by omega)
              by_cases hy : r < MY
              · have e2 : decide ((r : Int) < (MY : Int)) = true := decide_eq_true (by omega)
                obtain ⟨PX, hPX⟩ : ∃ PX, PX = MX - 1 := ⟨_, rfl⟩
                obtain ⟨PY, hPY⟩ : ∃ PY, PY = MY - 1 := ⟨_, rfl⟩
                obtain ⟨z, hz⟩ : ∃ z, a[PX]? = some z := ⟨_, List.getElem?_eq_getElem (by have := HNA.out; have := HMX.out; omega)⟩
                obtain ⟨z', hz'⟩ : ∃ z', b[PY]? = some z' := ⟨_, List.getElem?_eq_getElem (by have := HNB.out; have := HMY.out; omega)⟩
                have HE : Hid ((z == z') = decide (t < T)) := hid (by
                  have h5 := HMX.out
                  have h6 := HMY.out
                  have h7 := HPH.out
                  have h8 := HRH.out
                  have := TIF.out t ht (by omega)
                  rw [show X - 1 - t = PX by omega, show Y - 1 - t = PY by omega, hz, hz', Option.some.injEq] at this
                  rw [Bool.eq_iff_iff, beq_iff_eq, decide_eq_true_eq]
                  exact this)
                obtain ⟨b1, o1, rfl, hb1, d1⟩ := rdI_at (HNA.out ▸ HV.out) hz
                obtain ⟨b2, o2, rfl, hb2, d2⟩ := rdI_at (HNB.out ▸ HU.out) hz'
                have d1' := (HBr.out.cell (p := ⟨b1, o1 + PX, none⟩) hb1).trans d1
                have d2' := (HBr.out.cell (p := ⟨b2, o2 + PY, none⟩) hb2).trans d2
                have j1 : IntKind.i64.wrap ((MX : Int) - 1) = (PX : Int) := (wrapOk (by omega) (by have := HMX.out; omega)).trans (by omega)
                have j2 : IntKind.i64.wrap ((MY : Int) - 1) = (PY : Int) := (wrapOk (by omega) (by have := HMY.out; omega)).trans (by omega)
                have i1 : (0 : Int) ≤ (PX : Int) := by omega
                have i2 : (PX : Int) < (NA : Int) := by have := HMX.out; omega
                have i3 : (0 : Int) ≤ (PY : Int) := by omega
                have i4 : (PY : Int) < (NB : Int) := by have := HMY.out; omega
                clear hz hz' d1 d2 hPX hPY
                go_quiet (fail)
                go_wp2
                go_meet
                exact ⟨by rw [HE.out], _, rfl⟩
              · have e2 : decide ((r : Int) < (MY : Int)) = false := decide_eq_false (by omega)
                have HE : Hid (decide (t < T) = false) := hid (decide_eq_false (by have := HMY.out; have := HRH.out; omega))
                go_quiet (fail)
                go_wp2
                go_meet
                exact ⟨by rw [HE.out], _, rfl⟩
            · have e1 : decide ((p : Int) < (MX : Int)) = false := decide_eq_false (by omega)
              have HE : Hid (decide (t < T) = false) := hid (decide_eq_false (by have := HMX.out; have := HPH.out; omega))
              go_quiet (fail)
              go_wp2
              go_meet
              exact ⟨by rw [HE.out], _, rfl⟩
          case rest =>
            obtain ⟨rfl, q, rfl⟩ := hcut
            have c0' : (wr.drewN q).cell? ⟨W, 0, none⟩ = _ := c0
            have c1' : (wr.drewN q).cell? ⟨W, 1, none⟩ = _ := c1
            have c2' : (wr.drewN q).cell? ⟨W, 2, none⟩ = _ := c2
            have c3' : (wr.drewN q).cell? ⟨W, 3, none⟩ = _ := c3
            have p2' : (wr.drewN q).cell? ⟨g, 2, none⟩ = _ := p2
            have HT3 := hid (HT.out.drewN q)
            generalize wr.drewN q = w3 at c0' c1' c2' c3' p2' HT3 ⊢
            clear c0 c1 c2 c3 p0 p1 p2 HE0 HT HK HGr HBr wr
            have cf := fun o => frozen_of_blk HT3.out.box o
            have hWg : W ≠ gm := by omega
            have hgW : g ≠ W := by omega
            by_cases hlt : t < T
            · rw [decide_eq_true hlt]
              obtain ⟨PX, hPX⟩ : ∃ PX, PX = MX - 1 := ⟨_, rfl⟩
              obtain ⟨PY, hPY⟩ : ∃ PY, PY = MY - 1 := ⟨_, rfl⟩
              have hMX1 : 0 < MX := by have := HMX.out; omega
              have hMY1 : 0 < MY := by have := HMY.out; omega
              have hpl : PX < NA := by have := HMX.out; omega
              have i1 : (0 : Int) ≤ (PX : Int) := by omega
              have i2 : (PX : Int) < (NA : Int) := by omega
              have j1 : IntKind.i64.wrap ((MX : Int) - 1) = (PX : Int) := (wrapOk (by omega) (by have := HMX.out; omega)).trans (by omega)
              have j2 : IntKind.i64.wrap ((MY : Int) - 1) = (PY : Int) := (wrapOk (by omega) (by have := HMY.out; omega)).trans (by omega)
              have HPX := hid hPX
              have HPY := hid hPY
              have mf := fun o => HT3.out.row.frozen o
              have hmp : w3.cell? ⟨gm, PX, none⟩ ≠ none := by
                obtain ⟨z, hz⟩ : ∃ z, (dnM (upM m x y H) X Y t)[PX]? = some z := ⟨_, List.getElem?_eq_getElem (by rw [dnM_len, upM_len, HML.out]; exact hpl)⟩
                rw [HT3.out.row.cell hz]; simp
              clear hPX hPY
              go_wp2_with fail
              refine wp_region_qtail 9 (by kernel_rfl) (by kernel_rfl) ?_
              simp only [List.take_succ_cons, List.take_zero, List.drop_succ_cons, List.drop_zero]
              repeat go_big_quiet_step (fail)
              refine wpQuiet_nil ?_
              go_wp2
              go_roundg (T - (t + 1))
              case measure => omega
              case rel =>
                refine ⟨t + 1, by omega, rfl, hid ?_⟩
                have u := ((((HT3.out.set2 hgml PX).set3 hgml PY).drewN 1).mate hgml PX PY)
                have e1 := HMX.out
                have e2 := HMY.out
                have e3 := HPX.out
                have e4 := HPY.out
                rw [dnM, show X - (t + 1) = PX by omega, show Y - (t + 1) = PY by omega]
                exact u
            · rw [decide_eq_false hlt]
              have htT : t = T := by omega
              rw [htT] at HT3 HMX HMY
              have r4 := fun o => frozen_of_blk HT3.out.res o
              have r0 := cell_of_blk HT3.out.res 0
              have r1 := cell_of_blk HT3.out.res 1
              have r2 := cell_of_blk HT3.out.res 2
              have r3 := cell_of_blk HT3.out.res 3
              simp only [List.getElem?_toArray, List.getElem?_cons_zero, List.getElem?_cons_succ] at r0 r1 r2 r3
              clear ht hk htT hlt
              go_wp2
              refine bodyPost_ret (v := .agg #[.int .i64 p, .int .i64 r, .int .i64 MX, .int .i64 MY]) (by simp [results, Try.results41, go_sem, r0, r1, r2, r3]) rfl ⟨?_, ?_, ?_⟩
              · rw [HPH.out, HRH.out, HMX.out, HMY.out]
              · exact (((HT3.out.row.far (set_other _ (by omega))).far (set_other _ (by omega))).far (set_other _ (by omega))).far (set_other _ (by omega))
              · have k1 : Kept (fun j => j = gm ∨ j = W ∨ j = W + 1) w2 w3 := ⟨HT3.out.kept.os, HT3.out.kept.tape, HT3.out.kept.output, HT3.out.kept.size, fun j hj hx => HT3.out.kept.block j hj (fun e => hx (by rcases e with e | e; exact .inl e; exact .inr (.inl e)))⟩
                have k2 := (((k1.set (k := 0) (.inr (.inr rfl)) (.int .i64 p)).set (k := 1) (.inr (.inr rfl)) (.int .i64 r)).set (k := 2) (.inr (.inr rfl)) (.int .i64 MX)).set (k := 3) (.inr (.inr rfl)) (.int .i64 MY)
                have hWw := HWW.out
                exact (Kept.of_below HB2.out).step k2 (fun j e => by rcases e with e | e | e; exact .inl e; exact .inr (by omega); exact .inr (by omega))
end Go.Proofs.Ytdilmgcdebobaaa
