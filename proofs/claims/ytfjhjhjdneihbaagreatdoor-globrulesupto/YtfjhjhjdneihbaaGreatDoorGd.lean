/-
  The walks of what reads a byte, a set's mark, a range's mark, and of a class added to a set.
-/
import Derived.Test.YtfjhjhjdneihbaaGreatDoorGc
import Derived.Test.YtfjhjhjdneihbaaGreatDoorShelf
namespace Go.Proofs.YtfjhjhjdneihbaaGreatDoor
open Go.RowKit

theorem pre1 (t : List UInt8) (c : UInt8) : Lib.hasPrefix t [c] = decide (t.head? = some c) := by
  cases t with
  | nil => rfl
  | cons a t =>
    unfold Lib.hasPrefix
    rw [Bool.eq_iff_iff]
    simp [List.isPrefixOf]
    exact eq_comm
theorem bs (l : List UInt8) : (ByteArray.mk l.toArray).data.toList = l := by simp
theorem ext_drop (x : ByteArray) (k : Nat) : x.extract k x.size = ⟨(x.data.toList.drop k).toArray⟩ := by
  rw [← bytes_eta (x.extract k x.size), Lib.extract_data]
  rw [List.take_of_length_le (by rw [List.length_drop, size_data]; exact Nat.le_refl _)]
theorem ret2 {a b c d : Value} (h1 : a = c) (h2 : b = d) : Ending.returned (.tuple #[a, b]) = .returned (.tuple #[c, d]) := by rw [h1, h2]
theorem ret3 {a b c d e f : Value} (h1 : a = d) (h2 : b = e) (h3 : c = f) : Ending.returned (.tuple #[a, b, c]) = .returned (.tuple #[d, e, f]) := by rw [h1, h2, h3]
abbrev globErr : Value := .iface 36 (.int .i64 40)

theorem flV_eq (f : UInt8 → Bool) : flV f = .agg #[.int .u64 (wd f 0), .int .u64 (wd f 1), .int .u64 (wd f 2), .int .u64 (wd f 3)] := rfl
theorem heap_a0 (w : World) (a b c : Obj) : (((w.alloc a).alloc b).alloc c).heap[w.heap.size]? = some a := by
  rw [Below.heap_alloc _ _ _ (by simp; omega), Below.heap_alloc _ _ _ (by simp)]
  exact heap_alloc_new _ _
theorem heap_a1 (w : World) (a b c : Obj) : (((w.alloc a).alloc b).alloc c).heap[w.heap.size + 1]? = some b := by
  rw [Below.heap_alloc _ _ _ (by simp)]
  have e : w.heap.size + 1 = (w.alloc a).heap.size := by simp
  rw [e]
  exact heap_alloc_new _ _
theorem heap_a2 (w : World) (a b c : Obj) : (((w.alloc a).alloc b).alloc c).heap[w.heap.size + 1 + 1]? = some c := by
  have e : w.heap.size + 1 + 1 = ((w.alloc a).alloc b).heap.size := by simp
  rw [e]
  exact heap_alloc_new _ _
/-- four cells written: the block behind it -/
theorem heap_set4 {w : World} {b : Nat} {f : UInt8 → Bool} {t : TypeId} (g : UInt8 → Bool) (h : w.heap[b]? = some (.cells (flC f) t (0, 0))) :
    ((((w.setCell ⟨b, 0, none⟩ (.int .u64 (wd g 0))).setCell ⟨b, 1, none⟩ (.int .u64 (wd g 1))).setCell ⟨b, 2, none⟩ (.int .u64 (wd g 2))).setCell ⟨b, 3, none⟩ (.int .u64 (wd g 3))).heap[b]? = some (.cells (flC g) t (0, 0)) := by
  have h1 := heap_setCell_same w b 0 _ t (.int .u64 (wd g 0)) h
  have h2 := heap_setCell_same _ b 1 _ t (.int .u64 (wd g 1)) h1
  have h3 := heap_setCell_same _ b 2 _ t (.int .u64 (wd g 2)) h2
  have h4 := heap_setCell_same _ b 3 _ t (.int .u64 (wd g 3)) h3
  rw [h4]; rfl
theorem heap_set4_other {w : World} {b k : Nat} (g : UInt8 → Bool) (h : k ≠ b) :
    ((((w.setCell ⟨b, 0, none⟩ (.int .u64 (wd g 0))).setCell ⟨b, 1, none⟩ (.int .u64 (wd g 1))).setCell ⟨b, 2, none⟩ (.int .u64 (wd g 2))).setCell ⟨b, 3, none⟩ (.int .u64 (wd g 3))).heap[k]? = w.heap[k]? := by
  rw [heap_setCell_other _ _ _ _ h, heap_setCell_other _ _ _ _ h, heap_setCell_other _ _ _ _ h, heap_setCell_other _ _ _ _ h]
/-- a set's four cells, as facts for the walk -/
theorem cells4 {w : World} {b : Nat} {f : UInt8 → Bool} {t : TypeId} (h : w.heap[b]? = some (.cells (flC f) t (0, 0))) :
    w.cell? ⟨b, 0, none⟩ = some (.int .u64 (wd f 0)) ∧ w.cell? ⟨b, 1, none⟩ = some (.int .u64 (wd f 1)) ∧ w.cell? ⟨b, 2, none⟩ = some (.int .u64 (wd f 2)) ∧ w.cell? ⟨b, 3, none⟩ = some (.int .u64 (wd f 3)) :=
  ⟨cell_of_blk h 0, cell_of_blk h 1, cell_of_blk h 2, cell_of_blk h 3⟩

/-! ### a byte -/
def rbT : Option (UInt8 × List UInt8) → Value
  | none => .tuple #[.int .u8 0, .string ⟨#[]⟩, globErr]
  | some (c, r) => .tuple #[.int .u8 c.toNat, .string ⟨r.toArray⟩, .nilIface]
theorem rb_trim (t : List UInt8) : Pg.rb t = match Lib.trimPrefix t [92] with | [] => none | c :: r => some (c, r) := by
  unfold Lib.trimPrefix
  rw [pre1]
  cases t with
  | nil => rfl
  | cons a t =>
    by_cases ha : a = 92
    · subst ha
      rw [if_pos (by simp)]
      simp only [Pg.rb, if_true]
      cases t <;> rfl
    · rw [if_neg (by simpa using ha)]
      simp only [Pg.rb, if_neg ha]

set_option maxHeartbeats 1000000 in
theorem readByte_any (s : ByteArray) (w : World) :
    Calls Tryz.prog 74 #[.string s] w fun e w' => e = .returned (rbT (Pg.rb s.data.toList)) ∧ Below w.heap.size w w' := by
  obtain ⟨X, hX⟩ : ∃ X : ByteArray, X = ⟨(Lib.trimPrefix s.data.toList [92]).toArray⟩ := ⟨_, rfl⟩
  have hd : X.data.toList = Lib.trimPrefix s.data.toList [92] := by rw [hX]
  have HX := hid hX
  have HR := hid (rb_trim s.data.toList)
  clear hX
  by_cases h0 : X.size = 0
  · have he := empty_yes X h0
    have HN : Hid (Pg.rb s.data.toList = none) := hid (by rw [HR.out, ← hd, nil_data X h0])
    clear h0 hd
    go_enter Tryz.func74, Tryz.ntmps74
    go_wp2_with fail
    refine (Tryz.strings_TrimPrefix s ⟨#[92]⟩ _).mono ?_
    rintro e w1 ⟨rfl, rfl⟩
    rw [show (ByteArray.mk #[92]).data.toList = [92] from rfl, ← HX.out]
    go_wp2
    go_ret3
    exact ⟨by rw [HN.out]; rfl, Below.refl _ _⟩
  · have he := empty_no X h0
    have h1 : 1 ≤ X.size := by omega
    have h1' : (1 : Int) ≤ (X.size : Int) := by omega
    have h1'' : 0 < X.size := by omega
    have HN : Hid (Pg.rb s.data.toList = some (X[0], X.data.toList.drop 1)) := hid (by rw [HR.out, ← hd, data1 X h1]; rfl)
    have HE := hid (ext_drop X 1)
    clear h0 hd
    go_enter Tryz.func74, Tryz.ntmps74
    go_wp2_with fail
    refine (Tryz.strings_TrimPrefix s ⟨#[92]⟩ _).mono ?_
    rintro e w1 ⟨rfl, rfl⟩
    rw [show (ByteArray.mk #[92]).data.toList = [92] from rfl, ← HX.out]
    go_wp2
    go_region
    all_goals go_wp2
    all_goals go_ret3
    all_goals exact ⟨by rw [HN.out]; exact ret3 rfl (congrArg Value.string HE.out) rfl, (Below.refl _ _).drew⟩

/-! ### the marks -/
def cutT (t : List UInt8) : List UInt8 := if Pg.isNot t then t.drop 1 else t
theorem cutT_yes {t : List UInt8} (h : Pg.isNot t = true) : cutT t = t.drop 1 := by unfold cutT; rw [if_pos h]
theorem cutT_no {t : List UInt8} (h : Pg.isNot t = false) : cutT t = t := by unfold cutT; rw [if_neg (by rw [h]; simp)]
set_option maxHeartbeats 1000000 in
theorem cutNot_any (s : ByteArray) (w : World) :
    Calls Tryz.prog 92 #[.string s] w fun e w' => e = .returned (.tuple #[.string ⟨(cutT s.data.toList).toArray⟩, .bool (Pg.isNot s.data.toList)]) ∧ w' = w := by
  have p1 := pre1 s.data.toList 33
  have p2 := pre1 s.data.toList 94
  have HE := hid (ext_drop s 1)
  by_cases h1 : s.data.toList.head? = some 33
  · have HN : Hid (Pg.isNot s.data.toList = true) := hid (by unfold Pg.isNot; rw [decide_eq_true h1]; rfl)
    have h2 : 1 ≤ s.size := by
      rw [← size_data]
      cases hl : s.data.toList with
      | nil => rw [hl] at h1; cases h1
      | cons _ _ => simp
    have h2' : (1 : Int) ≤ (s.size : Int) := by omega
    rw [decide_eq_true h1] at p1
    have P1 := hid p1
    clear p1 p2 h1
    go_enter Tryz.func92, Tryz.ntmps92
    go_wp2_with fail
    refine (Tryz.strings_HasPrefix s ⟨#[33]⟩ _).mono ?_
    rintro e w1 ⟨rfl, rfl⟩
    rw [show (ByteArray.mk #[33]).data.toList = [33] from rfl, P1.out]
    go_wp2
    go_ret2
    exact ⟨by rw [cutT_yes HN.out, HN.out]; exact ret2 (congrArg Value.string HE.out) rfl, rfl⟩
  · rw [decide_eq_false h1] at p1
    have P1 := hid p1
    by_cases h3 : s.data.toList.head? = some 94
    · have HN : Hid (Pg.isNot s.data.toList = true) := hid (by unfold Pg.isNot; rw [decide_eq_true h3]; simp)
      have h2 : 1 ≤ s.size := by
        rw [← size_data]
        cases hl : s.data.toList with
        | nil => rw [hl] at h3; cases h3
        | cons _ _ => simp
      have h2' : (1 : Int) ≤ (s.size : Int) := by omega
      rw [decide_eq_true h3] at p2
      have P2 := hid p2
      clear p1 p2 h1 h3
      go_enter Tryz.func92, Tryz.ntmps92
      go_wp2_with fail
      refine (Tryz.strings_HasPrefix s ⟨#[33]⟩ _).mono ?_
      rintro e w1 ⟨rfl, rfl⟩
      rw [show (ByteArray.mk #[33]).data.toList = [33] from rfl, P1.out]
      go_wp2_with fail
      refine (Tryz.strings_HasPrefix s ⟨#[94]⟩ _).mono ?_
      rintro e w1 ⟨rfl, rfl⟩
      rw [show (ByteArray.mk #[94]).data.toList = [94] from rfl, P2.out]
      go_wp2
      go_ret2
      exact ⟨by rw [cutT_yes HN.out, HN.out]; exact ret2 (congrArg Value.string HE.out) rfl, rfl⟩
    · have HN : Hid (Pg.isNot s.data.toList = false) := hid (by unfold Pg.isNot; rw [decide_eq_false h3, decide_eq_false h1]; rfl)
      rw [decide_eq_false h3] at p2
      have P2 := hid p2
      clear p1 p2 h1 h3
      go_enter Tryz.func92, Tryz.ntmps92
      go_wp2_with fail
      refine (Tryz.strings_HasPrefix s ⟨#[33]⟩ _).mono ?_
      rintro e w1 ⟨rfl, rfl⟩
      rw [show (ByteArray.mk #[33]).data.toList = [33] from rfl, P1.out]
      go_wp2_with fail
      refine (Tryz.strings_HasPrefix s ⟨#[94]⟩ _).mono ?_
      rintro e w1 ⟨rfl, rfl⟩
      rw [show (ByteArray.mk #[94]).data.toList = [94] from rfl, P2.out]
      go_wp2
      go_ret2
      exact ⟨by rw [cutT_no HN.out, HN.out]; exact ret2 (congrArg Value.string (bytes_eta s).symm) rfl, rfl⟩

theorem rng_trim (t : List UInt8) : Pg.rng t = (Lib.hasPrefix t [45] && !Lib.hasPrefix (Lib.trimPrefix t [45]) [93] && !Lib.hasPrefix (Lib.trimPrefix t [45]) [91, 58]) := by
  cases t with
  | nil => rfl
  | cons a t =>
    by_cases ha : a = 45
    · subst ha
      have e1 : Lib.hasPrefix (45 :: t) [45] = true := by rw [pre1]; simp
      have e2 : Lib.trimPrefix (45 :: t) [45] = t := by unfold Lib.trimPrefix; rw [if_pos e1]; rfl
      rw [e1, e2, pre1]
      simp only [Pg.rng]
      rfl
    · have e1 : Lib.hasPrefix (a :: t) [45] = false := by rw [pre1]; simpa using ha
      rw [e1]
      simp only [Pg.rng]
      rw [decide_eq_false ha]; rfl
set_option maxHeartbeats 1000000 in
theorem beginsRange_any (s : ByteArray) (w : World) :
    Calls Tryz.prog 101 #[.string s] w fun e w' => e = .returned (.bool (Pg.rng s.data.toList)) ∧ w' = w := by
  have HR := hid (rng_trim s.data.toList)
  obtain ⟨X, hX⟩ : ∃ X : ByteArray, X = ⟨(Lib.trimPrefix s.data.toList [45]).toArray⟩ := ⟨_, rfl⟩
  have hd : X.data.toList = Lib.trimPrefix s.data.toList [45] := by rw [hX]
  rw [← hd] at HR
  have HX := hid hX
  clear hX hd
  cases h1 : Lib.hasPrefix s.data.toList [45] with
  | false =>
    have HF : Hid (false = Pg.rng s.data.toList) := hid (by rw [HR.out, h1]; rfl)
    have H1 := hid h1
    clear h1
    go_enter Tryz.func101, Tryz.ntmps101
    go_wp2_with fail
    refine (Tryz.strings_CutPrefix s ⟨#[45]⟩ _).mono ?_
    rintro e w1 ⟨rfl, rfl⟩
    rw [show (ByteArray.mk #[45]).data.toList = [45] from rfl, H1.out, ← HX.out]
    go_wp2
    go_ret
    exact ⟨ret_bool HF.out, rfl⟩
  | true =>
    have H1 := hid h1
    rw [h1] at HR
    clear h1
    cases h2 : Lib.hasPrefix X.data.toList [93] with
    | true =>
      have HF : Hid (false = Pg.rng s.data.toList) := hid (by rw [HR.out, h2]; rfl)
      have H2 := hid h2
      clear h2
      go_enter Tryz.func101, Tryz.ntmps101
      go_wp2_with fail
      refine (Tryz.strings_CutPrefix s ⟨#[45]⟩ _).mono ?_
      rintro e w1 ⟨rfl, rfl⟩
      rw [show (ByteArray.mk #[45]).data.toList = [45] from rfl, H1.out, ← HX.out]
      go_wp2_with fail
      refine (Tryz.strings_HasPrefix X ⟨#[93]⟩ _).mono ?_
      rintro e w1 ⟨rfl, rfl⟩
      rw [show (ByteArray.mk #[93]).data.toList = [93] from rfl, H2.out]
      go_wp2
      go_ret
      exact ⟨ret_bool HF.out, rfl⟩
    | false =>
      have HF : Hid ((!Lib.hasPrefix X.data.toList [91, 58]) = Pg.rng s.data.toList) := hid (by rw [HR.out, h2]; rfl)
      have H2 := hid h2
      clear h2
      go_enter Tryz.func101, Tryz.ntmps101
      go_wp2_with fail
      refine (Tryz.strings_CutPrefix s ⟨#[45]⟩ _).mono ?_
      rintro e w1 ⟨rfl, rfl⟩
      rw [show (ByteArray.mk #[45]).data.toList = [45] from rfl, H1.out, ← HX.out]
      go_wp2_with fail
      refine (Tryz.strings_HasPrefix X ⟨#[93]⟩ _).mono ?_
      rintro e w1 ⟨rfl, rfl⟩
      rw [show (ByteArray.mk #[93]).data.toList = [93] from rfl, H2.out]
      go_wp2_with fail
      refine (Tryz.strings_HasPrefix X ⟨#[91, 58]⟩ _).mono ?_
      rintro e w1 ⟨rfl, rfl⟩
      rw [show (ByteArray.mk #[91, 58]).data.toList = [91, 58] from rfl]
      go_wp2
      go_ret
      exact ⟨ret_bool HF.out, rfl⟩

/-! ### a class added to a set -/
/-- the bytes of p below n -/
def pk (p : UInt8 → Bool) (n : Nat) : UInt8 → Bool := fun c => p c && decide (c.toNat < n)
theorem pk_zero (f p : UInt8 → Bool) : Pg.or2 f (pk p 0) = f := by funext c; simp [Pg.or2, pk]
theorem pk_all (f p : UInt8 → Bool) : Pg.or2 f (pk p 256) = Pg.or2 f p := by
  funext c
  have := c.toNat_lt
  simp only [Pg.or2, pk]
  rw [decide_eq_true (show c.toNat < 256 by omega), Bool.and_true]
theorem pk_yes (f p : UInt8 → Bool) (k : Nat) (hk : k < 256) (h : p (UInt8.ofNat k) = true) : Pg.addR (Pg.or2 f (pk p k)) (UInt8.ofNat k) (UInt8.ofNat k) = Pg.or2 f (pk p (k + 1)) := by
  funext c
  have e : (UInt8.ofNat k).toNat = k := by rw [UInt8.toNat_ofNat']; omega
  simp only [Pg.addR, Pg.or2, pk, Pg.bt, e, Bool.or_assoc]
  congr 1
  by_cases hc : c.toNat = k
  · have : c = UInt8.ofNat k := UInt8.toNat_inj.1 (by rw [e, hc])
    rw [this, h, e]
    simp
  · rw [Bool.eq_iff_iff]
    simp only [Bool.or_eq_true, Bool.and_eq_true, decide_eq_true_eq]
    constructor
    · rintro (⟨a, b⟩ | ⟨a, b⟩)
      · exact ⟨a, by omega⟩
      · omega
    · rintro ⟨a, b⟩
      exact .inl ⟨a, by omega⟩
theorem pk_no (f p : UInt8 → Bool) (k : Nat) (hk : k < 256) (h : p (UInt8.ofNat k) = false) : Pg.or2 f (pk p (k + 1)) = Pg.or2 f (pk p k) := by
  funext c
  have e : (UInt8.ofNat k).toNat = k := by rw [UInt8.toNat_ofNat']; omega
  simp only [Pg.or2, pk]
  congr 1
  by_cases hc : c.toNat = k
  · have : c = UInt8.ofNat k := UInt8.toNat_inj.1 (by rw [e, hc])
    rw [this, h]; rfl
  · congr 1
    rw [decide_eq_decide]
    omega

set_option maxHeartbeats 2000000 in
theorem withClass_any (f p : UInt8 → Bool) (nm : ByteArray) (vf : Value) (w : World) (ht : Tells w vf p) :
    Calls Tryz.prog 104 #[flV f, .agg #[.string nm, vf]] w fun e w' => e = .returned (flV (Pg.or2 f p)) ∧ Below w.heap.size w w' := by
  obtain ⟨g, lb, rfl, eg, hT⟩ := ht
  have HT := hid hT
  clear hT
  go_enter Tryz.func104, Tryz.ntmps104
  go_wp2
  go_loopw [7] (fun i wr => ∃ k : Nat, k ≤ 256 ∧ i = .int .i64 k ∧ Below w.heap.size w wr ∧ wr.heap[w.heap.size]? = some (.cells (flC (Pg.or2 f (pk p k))) 102 (0, 0)) ∧ wr.heap[w.heap.size + 1]? = some (.cells #[.string nm, .func (.func g) #[] lb] 185 (0, 0)) ∧ wr.heap[w.heap.size + 1 + 1]? = some (.cells (flC Pg.no) 102 (0, 0))) (fun i _ => 256 - (intOf i).toNat)
  case atStart =>
    refine ⟨0, by omega, rfl, (((Below.refl _ _).alloc (Nat.le_refl _) _).alloc (by simp) _).alloc (by simp; omega) _, ?_, heap_a1 _ _ _ _, ?_⟩
    · rw [pk_zero]
      exact heap_a0 _ _ _ _
    · rw [show flC Pg.no = #[.int .u64 0, .int .u64 0, .int .u64 0, .int .u64 0] by simp [flC, wd_no]]
      exact heap_a2 _ _ _ _
  case round =>
    obtain ⟨k, hk, rfl, hb, hB, hC, hD⟩ := hrel
    by_cases hlt : k < 256
    · have hc1 : wr.cell? ⟨w.heap.size + 1, 1, none⟩ = some (.func (.func g) #[] lb) := cell_of_blk hC 1
      have HB := hid hB
      have HC := hid hC
      have HD := hid hD
      clear hB hC hD
      have hk1 : (0 : Int) ≤ (k : Int) := by omega
      have hk2 : (k : Int) < 256 := by omega
      have ek : (((UInt8.ofNat k).toNat : Nat) : Int) = (k : Int) := by rw [UInt8.toNat_ofNat']; omega
      have HS := HT.out wr (UInt8.ofNat k) hb
      unfold FnGives at HS
      simp only [ek] at HS
      have HW := with_any (Pg.or2 f (pk p k)) (UInt8.ofNat k) (UInt8.ofNat k)
      rw [ek] at HW
      have HWW := hid HW
      have HSS := hid HS
      clear HS HW ek
      go_wp2_with fail
      refine HSS.out.mono ?_
      rintro e w2 ⟨rfl, q, rfl⟩
      have hb2 := below_drewN hb q
      have HB2 : Hid ((wr.drewN q).heap[w.heap.size]? = _) := HB
      have HC2 : Hid ((wr.drewN q).heap[w.heap.size + 1]? = _) := HC
      have HD2 : Hid ((wr.drewN q).heap[w.heap.size + 1 + 1]? = _) := HD
      generalize wr.drewN q = W at hb2 HB2 HC2 HD2
      clear HB HC HD hb hc1 HSS
      cases hp : p (UInt8.ofNat k) with
      | true =>
        have HP := hid (pk_yes f p k hlt hp)
        clear hp
        obtain ⟨c0, c1, c2, c3⟩ := cells4 HB2.out
        go_wp2_with fail
        refine (HWW.out W).mono ?_
        rintro e w3 ⟨rfl, hb3⟩
        rw [HP.out]
        have lt0 := lt_of_heap HB2.out
        have lt1 := lt_of_heap HC2.out
        have lt2 := lt_of_heap HD2.out
        have HB3 := hid ((hb3.block _ lt0).trans HB2.out)
        have HC3 := hid ((hb3.block _ lt1).trans HC2.out)
        have HD3 := hid ((hb3.block _ lt2).trans HD2.out)
        have hB3 := hb2.trans (hb3.mono hb2.size)
        clear c0 c1 c2 c3 hb2 hb3 HB2 HC2 HD2 lt0 lt1 lt2 HWW HP
        obtain ⟨c0, c1, c2, c3⟩ := cells4 HB3.out
        have f0 := free_of_blk HB3.out 0
        have f1 := free_of_blk HB3.out 1
        have f2 := free_of_blk HB3.out 2
        have f3 := free_of_blk HB3.out 3
        rw [flV_eq (Pg.or2 f (pk p (k + 1)))]
        go_wp2
        go_roundw
        case rel =>
          refine ⟨k + 1, by omega, by go_num, (((hB3.setCell (Nat.le_refl _) _).setCell (Nat.le_refl _) _).setCell (Nat.le_refl _) _).setCell (Nat.le_refl _) _, heap_set4 _ HB3.out, (heap_set4_other _ (by omega)).trans HC3.out, (heap_set4_other _ (by omega)).trans HD3.out⟩
        case measure => simp [intOf]; omega
      | false =>
        have HP := hid (pk_no f p k hlt hp)
        clear hp HWW
        go_wp2
        go_roundw
        case rel => exact ⟨k + 1, by omega, by go_num, hb2, by rw [HP.out]; exact HB2.out, HC2.out, HD2.out⟩
        case measure => simp [intOf]; omega
    · obtain rfl : k = 256 := by omega
      rw [pk_all] at hB
      obtain ⟨c0, c1, c2, c3⟩ := cells4 hB
      obtain ⟨d0, d1, d2, d3⟩ := cells4 hD
      have f0 := free_of_blk hD 0
      have f1 := free_of_blk hD 1
      have f2 := free_of_blk hD 2
      have f3 := free_of_blk hD 3
      clear hB hC hD
      go_wp2
      refine bodyPost_ret (v := flV (Pg.or2 f p)) (by simp [results, Tryz.results104, go_sem, flC, d0, d1, d2, d3]) rfl ⟨rfl, ?_⟩
      exact (((hb.setCell (by simp; omega) _).setCell (by simp; omega) _).setCell (by simp; omega) _).setCell (by simp; omega) _
end Go.Proofs.YtfjhjhjdneihbaaGreatDoor
