/-
  The names of a path: strings.Split, slices.DeleteFunc; slices.Contains of truth values; the walk of Ignored.
-/
import Derived.Test.YtfjhjhjdneihbaaGreatDoorGs
import Derived.Test.YtfjhjhjdneihbaaGreatDoorPp
import Derived.Lib.Split
import Derived.Lib.IndexBytes
import Derived.Lib.SlicesS
import Derived.Lib.MapLaws
namespace Go.Proofs.YtfjhjhjdneihbaaGreatDoor
open Go.RowKit Go.Sort

theorem index_slash (l : List UInt8) : (Lib.index l [47] = -1 ∧ (47 : UInt8) ∉ l) ∨ ∃ i : Nat, Lib.index l [47] = i ∧ i < l.length ∧ l = l.take i ++ 47 :: l.drop (i + 1) ∧ (47 : UInt8) ∉ l.take i := by
  rw [Lib.index_one]
  induction l with
  | nil => exact .inl ⟨rfl, by simp⟩
  | cons c r ih =>
    unfold Lib.indexByte
    by_cases hc : c = 47
    · refine .inr ⟨0, by rw [hc]; rfl, by simp, by simp [hc], by simp⟩
    · have e : (c == 47) = false := beq_eq_false_iff_ne.2 hc
      rw [if_neg (by rw [e]; simp)]
      rcases ih with ⟨h1, h2⟩ | ⟨i, h1, h2, h3, h4⟩
      · refine .inl ⟨by rw [h1]; rfl, fun h => ?_⟩
        rcases List.mem_cons.1 h with h | h
        · exact hc h.symm
        · exact h2 h
      · refine .inr ⟨i + 1, ?_, by simpa using h2, ?_, ?_⟩
        · rw [h1, if_neg (by simp)]; omega
        · rw [List.take_succ_cons, List.drop_succ_cons, List.cons_append, ← h3]
        · rw [List.take_succ_cons]
          intro h
          rcases List.mem_cons.1 h with h | h
          · exact hc h.symm
          · exact h4 h
theorem splitK_pieces : ∀ (f : Nat) (l : List UInt8), l.length < f → Lib.splitK [47] 0 (Lib.countFrom [47] f l) l = Pp.pieces l
  | 0, l, h => by omega
  | f + 1, l, h => by
    unfold Lib.countFrom
    rcases index_slash l with ⟨h1, h2⟩ | ⟨i, h1, h2, h3, h4⟩
    · rw [if_pos (by rw [h1]; rfl), Lib.splitK, Pp.pieces_none l h2]
    · have e : ¬ ((Lib.index l [47] == -1) = true) := by rw [h1]; simp
      rw [if_neg e, Nat.add_comm, Lib.splitK, if_neg e, h1]
      have e2 : ((i : Int)).toNat = i := by omega
      rw [e2]
      have ih := splitK_pieces f (l.drop (i + 1)) (by rw [List.length_drop]; omega)
      show l.take (i + 0) :: Lib.splitK [47] 0 (Lib.countFrom [47] f (l.drop (i + 1))) (l.drop (i + 1)) = _
      rw [ih, Nat.add_zero]
      conv => rhs; rw [h3]
      rw [Pp.pieces_first _ _ h4]
theorem split_pieces (s : ByteArray) : Lib.splitB ⟨#[47]⟩ 0 (Lib.countB s ⟨#[47]⟩) s = BL (Pp.pieces s.data.toList) := by
  have h := Lib.splitB_data ⟨#[47]⟩ 0 (Lib.countB s ⟨#[47]⟩) s
  have h2 := splitK_pieces (s.data.toList.length + 1) s.data.toList (by omega)
  have h3 : DL (Lib.splitB ⟨#[47]⟩ 0 (Lib.countB s ⟨#[47]⟩) s) = Pp.pieces s.data.toList := h.trans h2
  rw [← h3, BL_DL]


/-- internal/bytealg.MaxLen holds some number -/
def MaxVar (w : World) : Prop := ∃ m, w.cell? ⟨1, 0, none⟩ = some (.int .i64 m)
theorem MaxVar.below {w w' : World} (h : MaxVar w) (hb : Below w.heap.size w w') : MaxVar w' := by
  obtain ⟨m, hm⟩ := h
  exact ⟨m, (hb.cell (p := ⟨1, 0, none⟩) (lt_of_cell hm)).trans hm⟩
theorem oneCell_string : OneCell Value.string := fun _ => rfl
theorem enter_none : ∀ args w, (callFunc 20 args).run Tryz.prog w = .ok (.enter 20 args) w := enters_of Tryz.func20 (by kernel_rfl) rfl
def ns0 (x : ByteArray) : Bool := x.data.toList.isEmpty
theorem none_any (x : ByteArray) (w : World) : Calls Tryz.prog 20 #[.string x] w fun e w' => e = .returned (.bool (ns0 x)) ∧ w' = w := by
  have HE : Hid (x.toList.isEmpty = ns0 x) := hid (by rw [ByteArray.toList_eq]; rfl)
  go_enter Tryz.func20, Tryz.ntmps20
  go_wp2
  go_ret
  exact ⟨ret_bool HE.out, rfl⟩
theorem gives_none (x : ByteArray) (W : World) : FnGives Tryz.prog 20 #[] #[.string x] (.bool (ns0 x)) W :=
  (none_any x W).mono fun _ _ ⟨he, hw⟩ => ⟨he, 0, hw⟩
theorem left_eq (L : List (List UInt8)) : DL ((BL L).filter fun x => !ns0 x) = L.filter fun x => !x.isEmpty := by
  induction L with
  | nil => rfl
  | cons x r ih =>
    have e : ns0 ⟨x.toArray⟩ = x.isEmpty := by unfold ns0; simp
    have eb : BL (x :: r) = ⟨x.toArray⟩ :: BL r := rfl
    rw [eb, List.filter_cons, List.filter_cons, e]
    cases x.isEmpty with
    | true => exact ih
    | false =>
      show DL (_ :: _) = _
      simp only [Bool.not_false, if_true]
      rw [← ih]
      simp [DL]

theorem below_put {B : Nat} {w0 w : World} {g q : Nat} {d : Array ByteArray} (h : Below B w0 w) (hg : B ≤ g) : Below B w0 (putRow Value.string (Sort.ahead w q) g 0 d) :=
  ⟨h.os, h.tape, h.output, by simpa [putRow, mapBlock, Sort.ahead] using h.size, fun k hk => by
    rw [← h.block k hk]
    simp [putRow, mapBlock, Sort.ahead, Array.getElem?_modify, show g ≠ k by omega]⟩

/-- slices.DeleteFunc(pieces, its function), over a row that the call made -/
theorem delete_any (b : Nat) (L : List (List UInt8)) (w : World) (h : w.heap[b]? = some (.cells (SV L).toArray 9)) (hL : L.length ≤ 4611686018427387904) (B : Nat) (hB : B ≤ b) :
    Calls Tryz.prog 18 #[.slice (some ⟨b, 0, none⟩) L.length L.length, .func (.func 20) #[] #[]] w fun e w' => ∃ v, e = .returned v ∧ Rd w' v (BL (L.filter fun x => !x.isEmpty)) ∧ Below B w w' := by
  have hcell : ∀ j (hj : j < L.length), w.cell? ⟨b, j, none⟩ = some (.string ⟨(L[j]).toArray⟩) := fun j hj => by
    simp [World.cell?, h, SV, hj]
  have hfz : ∀ j, w.frozen? ⟨b, j, none⟩ = false := fun j => by simp [World.frozen?, h]
  have hH : Holds Value.string w b 0 (BL L).toArray := by
    intro j hj
    have hj' : j < L.length := by simpa [BL_length] using hj
    rw [Nat.zero_add]
    refine ⟨?_, hfz j⟩
    rw [hcell j hj', getElem!_pos (BL L).toArray j hj]
    simp [BL]
  have K := Tryz.slices_DeleteFunc Value.string oneCell_string ns0 20 #[] enter_none ByteArray.empty (fun w => Tryz.zeroValue9 w) b 0 L.length (BL L).toArray w
    (fun W x _ => gives_none x W) (fun _ _ _ x _ => gives_none x _) hH (by simp [BL_length]; omega) (by simp [BL_length])
  have es : (BL L).toArray.size = L.length := by simp [BL_length]
  rw [es] at K
  refine K.mono ?_
  rintro e w' ⟨rfl, q, rfl⟩
  have el : (BL L).toArray.toList = BL L := by simp
  rw [el]
  have hbl : (BL L).filter (fun x => !ns0 x) = BL (L.filter fun x => !x.isEmpty) := by rw [← left_eq, BL_DL]
  rw [hbl]
  have hlen : (BL (L.filter fun x => !x.isEmpty)).length ≤ L.length := by rw [BL_length]; exact List.length_filter_le _ _
  generalize hF : BL (L.filter fun x => !x.isEmpty) = F at hlen
  have hput : Holds Value.string (putRow Value.string (Sort.ahead w q) b 0 (F ++ List.replicate (L.length - F.length) ByteArray.empty).toArray) b 0 (F ++ List.replicate (L.length - F.length) ByteArray.empty).toArray :=
    holds_putRow Value.string (Sort.ahead w q) b 0 (BL L).toArray _ (holds_ahead Value.string w q b 0 _ hH) (by simp [BL_length]; omega)
  have hbl2 : Below B w (putRow Value.string (Sort.ahead w q) b 0 (F ++ List.replicate (L.length - F.length) ByteArray.empty).toArray) := below_put (Below.refl _ _) hB
  refine ⟨_, rfl, .inr ⟨b, 0, L.length, rfl, hlen, ?_, fun j x hj => ?_⟩, hbl2⟩
  · exact Nat.lt_of_lt_of_le (lt_of_heap h) hbl2.size
  · have hjF : j < F.length := by
      rcases Nat.lt_or_ge j F.length with k | k
      · exact k
      · rw [List.getElem?_eq_none k] at hj; cases hj
    have hjs : j < (F ++ List.replicate (L.length - F.length) ByteArray.empty).toArray.size := by simp; omega
    rw [(hput j hjs).1, getElem!_pos _ j hjs]
    have : F[j]? = some F[j] := List.getElem?_eq_getElem hjF
    rw [this] at hj
    simp [hjF, Option.some.inj hj]

/-- the names of a path -/
def nms (l : List UInt8) : List (List UInt8) := (Pp.pieces l).filter fun x => !x.isEmpty
theorem split_any (s : ByteArray) (w : World) (hs : s.size ≤ 4294967280) (hm : MaxVar w) :
    Calls Tryz.prog 19 #[.string s, .string ⟨#[47]⟩] w fun e w' => e = .returned (.slice (some ⟨w.heap.size, 0, none⟩) (Pp.pieces s.data.toList).length (Pp.pieces s.data.toList).length) ∧ w' = w.alloc (.cells (SV (Pp.pieces s.data.toList)).toArray 9) := by
  obtain ⟨m, hm⟩ := hm
  refine (Tryz.strings_Split s ⟨#[47]⟩ m w (by omega) hm (by decide)).mono ?_
  rintro e w' ⟨rfl, rfl⟩
  have h := split_pieces s
  have hlen := Lib.splitB_all ⟨#[47]⟩ (by decide) 0 (Lib.countB s ⟨#[47]⟩) s rfl
  rw [h, BL_length] at hlen
  rw [h, SV_BL, hlen]
  exact ⟨rfl, rfl⟩

theorem any_take {N k : Nat} {f : Nat → Bool} (hk : k < N) (h : f k = true) : (List.range N).any f = true := List.any_eq_true.2 ⟨k, List.mem_range.2 hk, h⟩
theorem any_none {N : Nat} {f : Nat → Bool} (h : ∀ j, j < N → f j = false) : (List.range N).any f = false := by
  rw [Bool.eq_false_iff]
  intro h1
  obtain ⟨j, hj, hf⟩ := List.any_eq_true.1 h1
  rw [h j (List.mem_range.1 hj)] at hf
  cases hf
theorem ret_intE {w w0 : World} {n : Int} {N : Nat} {f : Nat → Bool} (h : decide (0 ≤ n) = (List.range N).any f) (hw : w = w0) : (∃ m : Int, Ending.returned (.int .i64 n) = .returned (.int .i64 m) ∧ decide (0 ≤ m) = (List.range N).any f) ∧ w = w0 := ⟨⟨n, rfl, h⟩, hw⟩
set_option maxHeartbeats 1000000 in
theorem index_true {g N : Nat} {f : Nat → Bool} {w : World} (h : BoolR w g N f) (hN : N ≤ 100000000) :
    Calls Tryz.prog 44 #[.slice (some ⟨g, 0, none⟩) N N, .bool true] w fun e w' => (∃ n : Int, e = .returned (.int .i64 n) ∧ decide (0 ≤ n) = (List.range N).any f) ∧ w' = w := by
  have HH := hid h
  clear h
  go_enter Tryz.func44, Tryz.ntmps44
  go_wp2
  go_loopw [8] (fun t8 wr => ∃ k : Nat, k ≤ N ∧ t8 = .int .i64 k ∧ wr = w ∧ Hid (∀ j, j < k → f j = false)) (fun t8 _ => N - (intOf t8).toNat)
  case atStart => exact ⟨0, Nat.zero_le _, rfl, rfl, hid (fun j hj => by omega)⟩
  case round =>
    obtain ⟨k, hk, rfl, hwr, HF⟩ := hrel
    obtain rfl : w = wr := hwr.symm
    by_cases hlt : k < N
    · have hc := HH.out.cell hlt
      cases hf : f k with
      | true =>
        rw [hf] at hc
        have HE : Hid (decide ((0 : Int) ≤ (k : Int)) = (List.range N).any f) := hid (by rw [any_take hlt hf]; exact decide_eq_true (by omega))
        clear hf
        go_wp2
        go_ret
        exact ret_intE HE.out rfl
      | false =>
        rw [hf] at hc
        have HF2 : Hid (∀ j, j < k + 1 → f j = false) := hid (fun j hj => by
          by_cases e : j = k
          · rw [e]; exact hf
          · exact HF.out j (by omega))
        clear hf
        go_wp2
        go_roundw
        case rel => exact ⟨k + 1, by omega, by go_num, by first | rfl | trivial, HF2⟩
        case measure => simp [intOf]; omega
    · have HE : Hid (decide ((0 : Int) ≤ -1) = (List.range N).any f) := hid (by rw [any_none (fun j hj => HF.out j (by omega))]; rfl)
      go_wp2
      go_ret
      exact ret_intE HE.out rfl
set_option maxHeartbeats 1000000 in
theorem contains_true {g N : Nat} {f : Nat → Bool} {w : World} (h : BoolR w g N f) (hN : N ≤ 100000000) :
    Calls Tryz.prog 22 #[.slice (some ⟨g, 0, none⟩) N N, .bool true] w fun e w' => e = .returned (.bool ((List.range N).any f)) ∧ w' = w := by
  have HC := hid (index_true h hN)
  clear h
  go_enter Tryz.func22, Tryz.ntmps22
  go_wp2_with fail
  refine HC.out.mono ?_
  rintro e w' ⟨⟨n, rfl, hn⟩, rfl⟩
  have HN := hid hn
  clear hn
  go_wp2
  go_ret
  exact ⟨ret_bool HN.out, rfl⟩

/-! ### rules in memory -/
structure Ru where
  ps : List Pg.Pi
  dirs : Bool
  back : Bool
def RuleAt (w : World) (b o : Nat) (r : Ru) : Prop := ∃ bp c, w.cell? ⟨b, o, none⟩ = some (.slice (some ⟨bp, 0, none⟩) r.ps.length c) ∧ w.cell? ⟨b, o + 1, none⟩ = some (.bool r.dirs) ∧ w.cell? ⟨b, o + 2, none⟩ = some (.bool r.back) ∧ bp < w.heap.size ∧ PcAt w bp r.ps
def RulesAt (w : World) (br : Nat) (rs : List Ru) : Prop :=
  ∃ a c, w.cell? ⟨br, 0, none⟩ = some (.slice a rs.length c) ∧ rs.length ≤ c ∧ (rs = [] ∨ ∃ b, a = some ⟨b, 0, none⟩ ∧ b < w.heap.size ∧ ∀ (j : Nat) r, rs[j]? = some r → RuleAt w b (j * 3) r)
theorem RuleAt.later {w w' : World} {b o : Nat} {r : Ru} (h : RuleAt w b o r) (hl : b < w.heap.size) (hb : Below w.heap.size w w') : RuleAt w' b o r := by
  obtain ⟨bp, c, h1, h2, h3, h4, h5⟩ := h
  exact ⟨bp, c, (hb.cell (p := ⟨b, o, none⟩) hl).trans h1, (hb.cell (p := ⟨b, o + 1, none⟩) hl).trans h2, (hb.cell (p := ⟨b, o + 2, none⟩) hl).trans h3, Nat.lt_of_lt_of_le h4 hb.size, h5.later h4 hb⟩
theorem RulesAt.later {w w' : World} {br : Nat} {rs : List Ru} (h : RulesAt w br rs) (hb : Below w.heap.size w w') : RulesAt w' br rs := by
  obtain ⟨a, c, h1, h2, h3⟩ := h
  refine ⟨a, c, (hb.cell (p := ⟨br, 0, none⟩) (lt_of_cell h1)).trans h1, h2, ?_⟩
  rcases h3 with h3 | ⟨b, ha, hl, h3⟩
  · exact .inl h3
  · exact .inr ⟨b, ha, Nat.lt_of_lt_of_le hl hb.size, fun j r hj => (h3 j r hj).later hl hb⟩
/-- which beginnings of a path rules ignore -/
def ign (dir : Bool) (ns : List (List UInt8)) : List Ru → (Nat → Bool) → Nat → Bool
  | [], f => f
  | r :: rs, f => ign dir ns rs (mrk r.ps r.dirs r.back dir ns f)
theorem ign_snoc (dir : Bool) (ns : List (List UInt8)) (r : Ru) : ∀ (rs : List Ru) (f : Nat → Bool), ign dir ns (rs ++ [r]) f = mrk r.ps r.dirs r.back dir ns (ign dir ns rs f)
  | [], _ => rfl
  | _ :: rs, _ => ign_snoc dir ns r rs _
/-- whether rules ignore a path -/
def igP (rs : List Ru) (path : List UInt8) (dir : Bool) : Bool := (List.range (nms path).length).any (ign dir (nms path) rs fun _ => false)
/-- rules of a text of at most 4194304 bytes are no greater than this -/
def Fits (rs : List Ru) : Prop := ∀ r ∈ rs, r.ps.length ≤ 100000000 ∧ ∀ P, some P ∈ r.ps → P.length ≤ 1024

theorem piece_le : ∀ (l x : List UInt8), x ∈ Pp.pieces l → x.length ≤ l.length
  | [], x, h => by simp [Pp.pieces] at h; subst h; simp
  | c :: r, x, h => by
    have ih := piece_le r
    have hne := Pp.pieces_ne r
    unfold Pp.pieces at h
    split at h
    · rcases List.mem_cons.1 h with rfl | h
      · simp
      · have := ih x h; simp; omega
    · cases hp : Pp.pieces r with
      | nil => exact absurd hp hne
      | cons y t =>
        rw [hp] at h ih
        simp only [List.headD_cons, List.tail_cons] at h
        rcases List.mem_cons.1 h with rfl | h
        · have := ih y (by simp); simp; omega
        · have := ih x (by simp [h]); simp; omega
theorem nms_sizes (l : List UInt8) : (nms l).length ≤ l.length + 1 ∧ ∀ x ∈ BL (nms l), x.size ≤ l.length := by
  refine ⟨Nat.le_trans (List.length_filter_le _ _) (Pp.pieces_length l), fun x hx => ?_⟩
  obtain ⟨y, hy, rfl⟩ := List.mem_map.1 hx
  rw [size_mk]
  exact piece_le l y (List.mem_filter.1 hy).1

theorem Tryz.infoBoolT : (Tryz.prog.info? 4).map (fun i => (i.zero, i.size, i.bytes)) = some (some (.bool false), 1, 1) := by kernel_rfl
set_option maxHeartbeats 4000000 in
set_option maxRecDepth 100000 in
theorem ignored_any {br : Nat} {rs : List Ru} (p : ByteArray) (dir : Bool) {w : World} (h : RulesAt w br rs) (hF : Fits rs) (hp : p.size ≤ 10000000) (hrs : rs.length ≤ 100000000) (hm : MaxVar w) :
    Calls Tryz.prog 7 #[.pointer (some ⟨br, 0, none⟩), .string p, .bool dir] w fun e w' => e = .returned (.bool (igP rs p.data.toList dir)) ∧ Below w.heap.size w w' := by
  have HH := hid h
  have HF := hid hF
  clear h hF
  go_enter Tryz.func7, Tryz.ntmps7
  go_wp2_with fail
  refine (split_any p _ (by omega) hm).mono ?_
  rintro e w1 ⟨rfl, rfl⟩
  have hbS : Below w.heap.size w (w.alloc (.cells (SV (Pp.pieces p.data.toList)).toArray 9)) := (Below.refl _ _).alloc (Nat.le_refl _) _
  have hpl := Pp.pieces_length p.data.toList
  rw [size_data] at hpl
  go_wp2_with fail
  refine (delete_any w.heap.size (Pp.pieces p.data.toList) _ (heap_alloc_new _ _) (by omega) w.heap.size (Nat.le_refl _)).mono ?_
  rintro e w2 ⟨vn, rfl, hRd, hb2⟩
  have hB2 : Below w.heap.size w w2 := hbS.trans hb2
  obtain ⟨hN1, hN2⟩ := nms_sizes p.data.toList
  rw [size_data] at hN1 hN2
  have hRd' : Rd w2 vn (BL (nms p.data.toList)) := hRd
  have HIG : Hid (igP rs p.data.toList dir = (List.range (nms p.data.toList).length).any (ign dir (nms p.data.toList) rs fun _ => false)) := hid rfl
  obtain ⟨NS, hNS⟩ : ∃ NS, NS = nms p.data.toList := ⟨_, rfl⟩
  rw [← hNS] at hN1 hN2 hRd' HIG
  clear hNS hRd hb2 hbS hpl
  have hBl : (BL NS).length = NS.length := BL_length NS
  have HDB : Hid (DL (BL NS) = NS) := hid (DL_BL NS)
  obtain ⟨an, cn, rfl⟩ := hRd'.shape
  have HRd := hid hRd'
  have HN2 := hid hN2
  obtain ⟨i0, hi, hz0, hz1, hz2⟩ := info_parts Tryz.infoBoolT
  have HR2 := hid (HH.out.later hB2)
  rw [hBl] at HRd ⊢
  clear hRd' hN2 HH hm
  obtain ⟨ar, cr, hcr, hrc, hrr⟩ := HR2.out
  have HRR := hid hrr
  clear hrr
  go_wp2_with (at_make; refine wpList_make_full _ rfl _ _ 60 rfl w2.heap.size 4 i0 (.bool false) 1 Tryz.underlying60 hi hz0 hz1 .i64 .i64 _ _ NS.length rfl rfl (by omega) (by omega) (by rw [hz2]; omega) (by unfold maxLen; omega) (Nat.le_refl _) ?_; intro w3 hown hgrow; have HB3 := hid (BoolR.made hown); have hb3 := (Below.refl w2.heap.size w2).grown hgrow (Nat.le_refl _) (fun k hk => by cases hk); have hcr3 := (hb3.cell (p := ⟨br, 0, none⟩) (lt_of_cell hcr)).trans hcr; clear hown hgrow)
  clear hBl hcr hcr3
  go_loopw [22] (fun t22 wr => ∃ k : Nat, k ≤ rs.length ∧ t22 = .int .i64 k ∧ BoolR wr w2.heap.size NS.length (ign dir NS (rs.take k) fun _ => false) ∧ Below w2.heap.size w2 wr) (fun t22 _ => rs.length - (intOf t22).toNat)
  case atStart => exact ⟨0, Nat.zero_le _, rfl, HB3.out, hb3⟩
  case round =>
    obtain ⟨k, hk, rfl, hR, hb⟩ := hrel
    have HR := hid hR
    have HBr := hid hb
    have hz := hb.size
    clear HB3 hb3 hR hb
    by_cases hlt : k < rs.length
    · obtain ⟨r, hr⟩ : ∃ r, rs[k]? = some r := ⟨_, List.getElem?_eq_getElem hlt⟩
      obtain ⟨b, rfl, hbl, hRA⟩ : ∃ b, ar = some ⟨b, 0, none⟩ ∧ b < w2.heap.size ∧ ∀ (j : Nat) r, rs[j]? = some r → RuleAt w2 b (j * 3) r := by
        rcases HRR.out with hz | h
        · rw [hz] at hlt; simp at hlt
        · exact h
      obtain ⟨bp, cp, h1, h2, h3, h4, h5⟩ := hRA k r hr
      have g1 := (HBr.out.cell (p := ⟨b, k * 3, none⟩) hbl).trans h1
      have g2 := (HBr.out.cell (p := ⟨b, k * 3 + 1, none⟩) hbl).trans h2
      have g3 := (HBr.out.cell (p := ⟨b, k * 3 + 2, none⟩) hbl).trans h3
      have HT : Hid (rs.take (k + 1) = rs.take k ++ [r]) := hid (by rw [List.take_add_one, hr]; rfl)
      obtain ⟨hf1, hf2⟩ := HF.out r (List.mem_of_getElem? hr)
      obtain ⟨ps, ds, bk⟩ := r
      simp only at g1 g2 g3 h4 h5 hf1 hf2
      have HP5 := hid h5
      have HF2 := hid hf2
      clear hRA h1 h2 h3 h5 hf2 hr
      have hbo : Below wr.heap.size wr (wr.alloc (.cells #[.slice (some ⟨bp, 0, none⟩) ps.length cp, .bool ds, .bool bk] 46)) := (Below.refl _ _).alloc (Nat.le_refl _) _
      have hM := mark_any (w1 := w2) (w := wr.alloc (.cells #[.slice (some ⟨bp, 0, none⟩) ps.length cp, .bool ds, .bool bk] 46)) (c := cp) (dirs := ds) (back := bk) (dir := dir) (xs := BL NS) (gi := w2.heap.size) (f := ign dir NS (rs.take k) fun _ => false) HP5.out h4 HRd.out (Nat.le_refl _) (HBr.out.trans (hbo.mono hz)) (by rw [BL_length]; exact HR.out.later hbo) hf1 (by rw [BL_length]; omega) (fun x hx => by have := HN2.out x hx; omega) HF2.out
      rw [BL_length, HDB.out] at hM
      have HM := hid hM
      clear hM hbo
      go_wp2_with fail
      refine HM.out.mono ?_
      rintro e w5 ⟨rfl, hR5, hb5⟩
      have HR5 : Hid (BoolR w5 w2.heap.size NS.length (ign dir NS (rs.take (k + 1)) fun _ => false)) := hid (by rw [HT.out, ign_snoc]; exact hR5)
      clear hR5 HM HR
      go_wp2
      go_roundw
      case rel => exact ⟨k + 1, by omega, by go_num, HR5.out, hb5⟩
      case measure => simp [intOf]; omega
    · have HE : Hid (BoolR wr w2.heap.size NS.length (ign dir NS rs fun _ => false)) := hid (by
        have h := HR.out
        rwa [List.take_of_length_le (by omega)] at h)
      clear HR
      go_wp2_with fail
      refine (contains_true HE.out (by omega)).mono ?_
      rintro e w9 ⟨rfl, rfl⟩
      rw [← HIG.out]
      go_wp2
      go_ret
      exact ⟨rfl, hB2.trans (HBr.out.mono hB2.size)⟩
end Go.Proofs.YtfjhjhjdneihbaaGreatDoor
