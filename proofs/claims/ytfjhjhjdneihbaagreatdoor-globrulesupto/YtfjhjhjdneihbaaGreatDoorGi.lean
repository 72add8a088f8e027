/-
  The walk of Compile.
-/
import Derived.Test.YtfjhjhjdneihbaaGreatDoorGh
import Derived.Deep.RegionLaw
import Derived.Deep.AppendLies
namespace Go.Proofs.YtfjhjhjdneihbaaGreatDoor
open Go.RowKit

theorem Tryz.infoPart : (Tryz.prog.info? 104).map (fun i => (i.zero, i.size, i.bytes)) = some (some (.agg #[.int .u64 0, .int .u64 0, .int .u64 0, .int .u64 0, .bool false]), 5, 40) := by kernel_rfl

/-- a part lies there -/
def PtAt (w : World) (b o : Nat) (p : Pg.Pt) : Prop := FlAt w b o p.set ∧ w.cell? ⟨b, o + 4, none⟩ = some (.bool p.star)
/-- a pattern lies there -/
def GlobAt (w : World) (bg : Nat) (P : List Pg.Pt) : Prop :=
  ∃ a c, w.cell? ⟨bg, 0, none⟩ = some (.slice a P.length c) ∧ P.length ≤ c ∧ (P = [] ∨ ∃ b, a = some ⟨b, 0, none⟩ ∧ b < w.heap.size ∧ ∀ (j : Nat) p, P[j]? = some p → PtAt w b (j * 5) p)
theorem PtAt.later {w w' : World} {b o : Nat} {p : Pg.Pt} (h : PtAt w b o p) (hl : b < w.heap.size) (hb : Below w.heap.size w w') : PtAt w' b o p :=
  ⟨fun j hj => (hb.cell (p := ⟨b, o + j, none⟩) hl).trans (h.1 j hj), (hb.cell (p := ⟨b, o + 4, none⟩) hl).trans h.2⟩
theorem GlobAt.later {w w' : World} {bg : Nat} {P : List Pg.Pt} (h : GlobAt w bg P) (hb : Below w.heap.size w w') : GlobAt w' bg P := by
  obtain ⟨a, c, h1, h2, h3⟩ := h
  refine ⟨a, c, (hb.cell (p := ⟨bg, 0, none⟩) (lt_of_cell h1)).trans h1, h2, ?_⟩
  rcases h3 with h3 | ⟨b, ha, hl, h3⟩
  · exact .inl h3
  · exact .inr ⟨b, ha, Nat.lt_of_lt_of_le hl hb.size, fun j p hj => (h3 j p hj).later hl hb⟩
/-- the cells of a row of parts -/
def ptsC (P : List Pg.Pt) : List Value := (P.map fun p => (ptC p).toList).flatten
theorem ptsC_len : ∀ P : List Pg.Pt, (ptsC P).length = P.length * 5
  | [] => rfl
  | p :: P => by
    have := ptsC_len P
    show ((ptC p).toList ++ ptsC P).length = _
    rw [List.length_append, this, List.length_cons]
    show 5 + _ = _
    omega
theorem ptsC_snoc (P : List Pg.Pt) (p : Pg.Pt) : ptsC (P ++ [p]) = ptsC P ++ (ptC p).toList := by simp [ptsC]
theorem ptsC_at : ∀ (P : List Pg.Pt) (j : Nat) (p : Pg.Pt) (k : Nat), P[j]? = some p → k < 5 → (ptsC P)[j * 5 + k]? = (ptC p)[k]?
  | [], j, p, k, h, _ => by simp at h
  | q :: P, 0, p, k, h, hk => by
    cases h
    show ((ptC q).toList ++ ptsC P)[0 * 5 + k]? = _
    rw [List.getElem?_append_left (by show 0 * 5 + k < 5; omega)]
    simp
  | q :: P, j + 1, p, k, h, hk => by
    have ih := ptsC_at P j p k (by simpa using h) hk
    show ((ptC q).toList ++ ptsC P)[(j + 1) * 5 + k]? = _
    have e : (ptC q).toList.length = 5 := rfl
    rw [List.getElem?_append_right (by rw [e]; omega), e, show (j + 1) * 5 + k - 5 = j * 5 + k by omega, ih]

theorem own_ge {w : World} {base n : Nat} {e : TypeId} {size : Nat} {v : Value} {xs : List Value} (h : w.ownsRow base e size v n xs) : ∀ k, v.ownBlock = some k → base ≤ k := by
  intro k hk
  rcases h.2 with ⟨hv, _⟩ | ⟨g, cap, cur, hv, hg, _⟩
  · subst hv; cases hk
  · subst hv; cases hk; exact hg
theorem own_stays {w w' : World} {base n : Nat} {e : TypeId} {size : Nat} {v : Value} {xs : List Value} (h : w.ownsRow base e size v n xs) (hb : Below w.heap.size w w') : w'.ownsRow base e size v n xs := by
  refine ⟨h.1, ?_⟩
  rcases h.2 with h | ⟨g, cap, cur, hv, hg, hh, r⟩
  · exact .inl h
  · exact .inr ⟨g, cap, cur, hv, hg, (hb.block g (lt_of_heap hh)).trans hh, r⟩
theorem own_shape {w : World} {base n : Nat} {e : TypeId} {size : Nat} {v : Value} {xs : List Value} (h : w.ownsRow base e size v n xs) : ∃ a c, v = .slice a n c ∧ n ≤ c := by
  rcases h.2 with ⟨hv, hn⟩ | ⟨g, cap, cur, hv, hg, hh, hc, _⟩
  · exact ⟨_, _, by rw [hv, hn], by omega⟩
  · exact ⟨_, _, hv, hc⟩
/-- a row of parts that the call itself made is a pattern's -/
theorem glob_of_own {w : World} {base bg : Nat} {v : Value} {P : List Pg.Pt} (hc : w.cell? ⟨bg, 0, none⟩ = some v) (h : w.ownsRow base 104 5 v P.length (ptsC P)) : GlobAt w bg P := by
  have h' := h
  rcases h.2 with ⟨hv, hn⟩ | ⟨g, cap, cur, hv, hg, hh, hcp, _⟩
  · subst hv
    exact ⟨none, 0, by rw [hc, hn], by omega, .inl (List.length_eq_zero_iff.1 hn)⟩
  · subst hv
    refine ⟨_, cap, hc, hcp, .inr ⟨g, rfl, lt_of_heap hh, fun j p hj => ?_⟩⟩
    have hjl : j < P.length := by
      rcases Nat.lt_or_ge j P.length with k | k
      · exact k
      · rw [List.getElem?_eq_none k] at hj; cases hj
    have key : ∀ k, k < 5 → w.cell? ⟨g, j * 5 + k, none⟩ = (ptC p)[k]? := by
      intro k hk
      have := h'.cellAt (j * 5 + k) (by omega)
      rw [ptsC_at P j p k hj hk] at this
      exact this
    refine ⟨fun k hk => ?_, (key 4 (by omega)).trans rfl⟩
    rw [key k (by omega)]
    match k, hk with
    | 0, _ => rfl
    | 1, _ => rfl
    | 2, _ => rfl
    | 3, _ => rfl

theorem pt_one (p : Pg.Pt) : ∀ u ∈ (ptC p).toList, u.oneCell' = true := by
  intro u hu
  simp [ptC] at hu
  rcases hu with rfl | rfl | rfl | rfl | rfl <;> rfl
theorem far_block {W w5 : World} {o ob : Obj} {v : Value} {b : Nat} (hg : ((W.alloc o).drew).grownBy w5 v.ownBlock) (hlt : b < W.heap.size) (hne : v.ownBlock ≠ some b) (hB : W.heap[b]? = some ob) : w5.heap[b]? = some ob := by
  rw [hg.block b (by simp; omega) (fun e => hne e.symm)]
  exact (Below.heap_alloc _ _ _ hlt).trans hB
/-- a pattern lies there, in blocks from B on -/
def GlobB (w : World) (B bg : Nat) (P : List Pg.Pt) : Prop := GlobAt w bg P ∧ B ≤ bg ∧ ∀ a n c, w.cell? ⟨bg, 0, none⟩ = some (.slice (some a) n c) → B ≤ a.block
theorem GlobB.later {w w' : World} {B bg : Nat} {P : List Pg.Pt} (h : GlobB w B bg P) (hb : Below w.heap.size w w') : GlobB w' B bg P := by
  obtain ⟨h1, h2, h3⟩ := h
  refine ⟨h1.later hb, h2, fun a n c hc => h3 a n c ?_⟩
  obtain ⟨a', c', k1, _⟩ := h1
  rw [← hb.cell (p := ⟨bg, 0, none⟩) (lt_of_cell k1)]
  exact hc
theorem GlobB.mono {w : World} {B B' bg : Nat} {P : List Pg.Pt} (h : GlobB w B bg P) (hB : B' ≤ B) : GlobB w B' bg P := ⟨h.1, Nat.le_trans hB h.2.1, fun a n c hc => Nat.le_trans hB (h.2.2 a n c hc)⟩
theorem globB_of_own {w : World} {base bg : Nat} {v : Value} {P : List Pg.Pt} (hc : w.cell? ⟨bg, 0, none⟩ = some v) (h : w.ownsRow base 104 5 v P.length (ptsC P)) (hbg : base ≤ bg) : GlobB w base bg P :=
  ⟨glob_of_own hc h, hbg, fun a n c h2 => by
    rw [hc] at h2
    have e := Option.some.inj h2
    rcases h.2 with ⟨hv, _⟩ | ⟨g, cap, cur, hv, hg, _⟩
    · rw [hv] at e; cases e
    · rw [hv] at e; cases e; exact hg⟩
def CpF (B : Nat) (x : Option (List Pg.Pt)) (e : Ending) (w' : World) : Prop :=
  (x = none ∧ e = .returned (.tuple #[.pointer none, globErr])) ∨ ∃ P bg, x = some P ∧ e = .returned (.tuple #[.pointer (some ⟨bg, 0, none⟩), .nilIface]) ∧ GlobB w' B bg P
/-- what Compile answers for a text that is not too long -/
def CpP (x : Option (List Pg.Pt)) (e : Ending) (w' : World) : Prop :=
  (x = none ∧ e = .returned (.tuple #[.pointer none, globErr])) ∨ ∃ P bg, x = some P ∧ e = .returned (.tuple #[.pointer (some ⟨bg, 0, none⟩), .nilIface]) ∧ GlobAt w' bg P
theorem data_ne {X : ByteArray} (h : 1 ≤ X.size) : X.data.toList ≠ [] := fun e => by have := data_nil X e; omega

set_option maxHeartbeats 4000000 in
set_option maxRecDepth 100000 in
theorem compile_anyF (s : ByteArray) (w : World) (h : s.size ≤ 1024) :
    Calls Tryz.prog 25 #[.string s] w fun e w' => CpF w.heap.size (Pg.comp s.data.toList) e w' ∧ Below w.heap.size w w' := by
  obtain ⟨i0, hi, hz0, hz1, hz2⟩ := info_parts Tryz.infoPart
  have mk := run_make (P := Tryz.prog) w 97 104 i0 _ Tryz.underlying97 hi hz0 .i64 .i64 0 s.size (Int.le_refl _) (by omega) (by rw [hz2]; omega) (by omega)
  have hsz0 := size_madeCells (.agg #[.int .u64 0, .int .u64 0, .int .u64 0, .int .u64 0, .bool false] : Value).cells (s.size * i0.size)
  simp only [Int.toNat_zero, Int.toNat_natCast] at mk
  generalize madeCells (.agg #[.int .u64 0, .int .u64 0, .int .u64 0, .int .u64 0, .bool false] : Value).cells (s.size * i0.size) = M at mk hsz0
  rw [hz1] at hsz0
  have H0 : Hid (((w.alloc (.cells M 104)).alloc (.cells #[.slice (some ⟨w.heap.size, 0, none⟩) 0 s.size] 99)).ownsRow w.heap.size 104 5 (.slice (some ⟨w.heap.size, 0, none⟩) 0 s.size) ([] : List Pg.Pt).length (ptsC [])) := hid
    (World.ownsRow.alloc ⟨rfl, .inr ⟨w.heap.size, s.size, M, rfl, Nat.le_refl _, heap_alloc_new _ _, Nat.zero_le _, by unfold maxLen; omega, hsz0, rfl⟩⟩ _)
  have HM := hid hsz0
  have hb0 : Below w.heap.size w ((w.alloc (.cells M 104)).alloc (.cells #[.slice (some ⟨w.heap.size, 0, none⟩) 0 s.size] 99)) := ((Below.refl _ _).alloc (Nat.le_refl _) _).alloc (by simp) _
  have HB0 : Hid (((w.alloc (.cells M 104)).alloc (.cells #[.slice (some ⟨w.heap.size, 0, none⟩) 0 s.size] 99)).heap[w.heap.size + 1]? = some (.cells #[.slice (some ⟨w.heap.size, 0, none⟩) 0 s.size] 99 (0, 0))) := hid (heap_b1 _ _ _)
  clear hsz0
  go_enter Tryz.func25, Tryz.ntmps25
  go_wp2
  go_loopw [0] (fun t wr => ∃ (X : ByteArray) (P : List Pg.Pt) (v : Value), t = .string X ∧ wr.heap[w.heap.size + 1]? = some (.cells #[v] 99 (0, 0)) ∧ wr.ownsRow w.heap.size 104 5 v P.length (ptsC P) ∧ v.ownBlock ≠ some (w.heap.size + 1) ∧ Below w.heap.size w wr ∧ P.length + X.size ≤ s.size ∧ Hid ((Pg.comp X.data.toList).map (P ++ ·) = Pg.comp s.data.toList)) (fun t _ => lenOf t)
  case atStart =>
    refine ⟨s, [], _, rfl, HB0.out, H0.out, by simp [Value.ownBlock], hb0, by simp, ?_⟩
    show (Pg.comp s.data.toList).map ([] ++ ·) = _
    cases Pg.comp s.data.toList <;> rfl
  case round =>
    obtain ⟨X, P, v, rfl, hB, hown, hne, hb, hlen, HQ⟩ := hrel
    clear H0 hb0 HB0 mk
    have HB := hid hB
    have HO := hid hown
    have hlt := lt_of_heap hB
    clear hB
    by_cases hX : X.size = 0
    · have he := empty_yes X hX
      have HR : Hid (Pg.comp s.data.toList = some P) := hid (by rw [← HQ.out, nil_data X hX, Pg.comp_nil]; simp)
      have HG := hid (globB_of_own (bg := w.heap.size + 1) (cell_of_blk HB.out 0) HO.out (Nat.le_succ _))
      clear hX
      go_wp2
      go_ret2
      exact ⟨.inr ⟨P, _, HR.out, rfl, HG.out⟩, hb⟩
    · have he := empty_no X hX
      have h1 : 1 ≤ X.size := by omega
      have hne' := data_ne h1
      clear hX
      go_wp2_with fail
      refine (readPart_any X wr h1).mono ?_
      rintro e w2 ⟨hP, hb2⟩
      have HB2 := hid ((hb2.block _ hlt).trans HB.out)
      have HO2 := hid (own_stays HO.out hb2)
      have hB2 := hb.trans (hb2.mono hb.size)
      have hz2' := hb2.size
      clear HB HO hb hb2 hown
      rcases hP with ⟨hr, q, rfl⟩ | ⟨p, r, hr, rfl⟩
      · have HR : Hid (Pg.comp s.data.toList = none) := hid (by rw [← HQ.out, Pg.comp_none hne' hr]; rfl)
        clear hr hne'
        unfold ptV ptC
        go_wp2
        go_ret2
        exact ⟨.inl ⟨HR.out, rfl⟩, hB2.alloc hB2.size _⟩
      · have HS := hid (Pg.comp_step (out := P) hne' hr)
        rw [HQ.out] at HS
        have hrl := Pg.rp_len hr
        rw [size_data] at hrl
        obtain ⟨Y, hY⟩ : ∃ Y : ByteArray, Y = ⟨r.toArray⟩ := ⟨_, rfl⟩
        have hYd : Y.data.toList = r := by rw [hY]
        have hYs : Y.size = r.length := by rw [hY]; exact size_mk r
        rw [← hY]
        rw [← hYd] at HS
        clear hr hne' hY hYd HQ
        obtain ⟨ad, cp, rfl, hcp⟩ := own_shape HO2.out
        have hWd : Below w2.heap.size w2 (w2.alloc (.cells (ptC p) 104)) := (Below.refl _ _).alloc (Nat.le_refl _) _
        have HB3 := hid ((hWd.block _ (lt_of_heap HB2.out)).trans HB2.out)
        have HO3 := hid (own_stays HO2.out hWd)
        have hB3 : Below w.heap.size w (w2.alloc (.cells (ptC p) 104)) := hB2.alloc hB2.size _
        have HP3 : Hid ((w2.alloc (.cells (ptC p) 104)).heap[w2.heap.size]? = some (.cells (ptC p) 104 (0, 0))) := hid (heap_alloc_new _ _)
        have hlt3 := lt_of_heap HB3.out
        have hz3 := hB3.size
        have cg := cell_of_blk HB3.out 0
        have fg := free_of_blk HB3.out 0
        obtain ⟨c0, c1, c2, c3, c4, _⟩ := cells5 HP3.out
        clear HB2 HO2 hB2 hWd
        unfold ptV ptC
        go_wp2
        have eW : (w2.alloc (.cells #[.int .u64 (wd p.set 0), .int .u64 (wd p.set 1), .int .u64 (wd p.set 2), .int .u64 (wd p.set 3), .bool p.star] 104)) = w2.alloc (.cells (ptC p) 104) := rfl
        rw [eW]
        clear eW
        generalize w2.alloc (.cells (ptC p) 104) = W at *
        go_region_law ((refine step_append_lies _ (by rfl) _ _ _ (by rfl) w.heap.size 104 i0 _ 5 40 Tryz.underlying97 hi hz0 hz1 hz2 rfl (by omega) (.slice ad P.length cp) P.length (ptsC P) (by rfl) ((HO3.out.alloc _).drew) ⟨W.heap.size, 0, none⟩ 1 1 (ptC p).toList (by rfl) (by rfl) (World.news_of_block (cs := ptC p) (t := 104) (fr := (0, 0)) (heap_alloc_new W _)) (pt_one p) (by omega) (by unfold maxLen; omega) (by omega) (by simp; omega) (W.heap.size + 1) (by simp) ?_; intro g cap w5 hown5 hgrow hat hlt5; have HF5 := hid (far_block hgrow hlt3 hne HB3.out); have cg5 := cell_of_blk HF5.out 0; have fg5 := free_of_blk HF5.out 0))
        all_goals go_wp2
        all_goals
          have hg1 : g ≠ w.heap.size + 1 := by
            rcases hat with h | h
            · exact fun e => hne (by rw [h, e])
            · omega
          have hb5 : Below w.heap.size w w5 := ((hB3.alloc hz3 _).drew).grown hgrow (by simp; omega) (own_ge HO3.out)
          have hown6 := ownsRow_setCell_other hown5 (a := ⟨w.heap.size + 1, 0, none⟩) (fun e => hg1 (by simpa [Value.ownBlock] using e)) (.slice (some ⟨g, 0, none⟩) (P.length + 1) cap)
          rw [← ptsC_snoc, show P.length + 1 = (P ++ [p]).length by simp] at hown6
          refine ⟨⟨Y, P ++ [p], _, rfl, one_setCell HF5.out, ?_, ?_, hb5.setCell (by simp) _, ?_, hid HS.out.symm⟩, ?_⟩
          · rw [show P.length + 1 = (P ++ [p]).length by simp]; exact hown6
          · exact fun e => hg1 (by simpa [Value.ownBlock] using e)
          · rw [List.length_append, List.length_singleton]; omega
          · show Y.size < X.size; omega
set_option maxHeartbeats 1000000 in
/-- a text that is too long -/
theorem compile_long (s : ByteArray) (w : World) (h : 1024 < s.size) :
    Calls Tryz.prog 25 #[.string s] w fun e w' => e = .returned (.tuple #[.pointer none, .iface 36 (.int .i64 2)]) ∧ w' = w := by
  go_enter Tryz.func25, Tryz.ntmps25
  go_wp2
  go_ret2
  exact ⟨rfl, rfl⟩
theorem compile_any (s : ByteArray) (w : World) (h : s.size ≤ 1024) :
    Calls Tryz.prog 25 #[.string s] w fun e w' => CpP (Pg.comp s.data.toList) e w' ∧ Below w.heap.size w w' :=
  (compile_anyF s w h).mono fun _ _ ⟨hc, hb⟩ => ⟨by
    rcases hc with hc | ⟨P, bg, h1, h2, h3⟩
    · exact .inl hc
    · exact .inr ⟨P, bg, h1, h2, h3.1⟩, hb⟩
/-- what Compile answers -/
def cmp (t : List UInt8) : Option (List Pg.Pt) := if 1024 < t.length then none else Pg.comp t
def cmpN (t : List UInt8) : Nat := if 1024 < t.length then 2 else if (Pg.comp t).isNone then 40 else 0
def CmP (t : List UInt8) (e : Ending) (w' : World) : Prop :=
  (cmp t = none ∧ (cmpN t = 2 ∨ cmpN t = 40) ∧ e = .returned (.tuple #[.pointer none, .iface 36 (.int .i64 (cmpN t))])) ∨ ∃ P bg, cmp t = some P ∧ cmpN t = 0 ∧ e = .returned (.tuple #[.pointer (some ⟨bg, 0, none⟩), .nilIface]) ∧ GlobAt w' bg P
def CmF (B : Nat) (t : List UInt8) (e : Ending) (w' : World) : Prop :=
  (cmp t = none ∧ (cmpN t = 2 ∨ cmpN t = 40) ∧ e = .returned (.tuple #[.pointer none, .iface 36 (.int .i64 (cmpN t))])) ∨ ∃ P bg, cmp t = some P ∧ cmpN t = 0 ∧ e = .returned (.tuple #[.pointer (some ⟨bg, 0, none⟩), .nilIface]) ∧ GlobB w' B bg P
theorem compile_allF (s : ByteArray) (w : World) :
    Calls Tryz.prog 25 #[.string s] w fun e w' => CmF w.heap.size s.data.toList e w' ∧ Below w.heap.size w w' := by
  by_cases h : 1024 < s.size
  · have h' : 1024 < s.data.toList.length := by rw [size_data]; exact h
    refine (compile_long s w h).mono ?_
    rintro e w' ⟨rfl, rfl⟩
    have e2 : cmpN s.data.toList = 2 := by unfold cmpN; rw [if_pos h']
    exact ⟨.inl ⟨by unfold cmp; rw [if_pos h'], .inl e2, by rw [e2]; rfl⟩, Below.refl _ _⟩
  · have h' : ¬ 1024 < s.data.toList.length := by rw [size_data]; exact h
    refine (compile_anyF s w (by omega)).mono ?_
    rintro e w' ⟨hc, hb⟩
    refine ⟨?_, hb⟩
    rcases hc with ⟨h1, h2⟩ | ⟨P, bg, h1, h2, h3⟩
    · have e2 : cmpN s.data.toList = 40 := by unfold cmpN; rw [if_neg h', h1]; rfl
      exact .inl ⟨by unfold cmp; rw [if_neg h']; exact h1, .inr e2, by rw [e2]; exact h2⟩
    · have e2 : cmpN s.data.toList = 0 := by unfold cmpN; rw [if_neg h', h1]; rfl
      exact .inr ⟨P, bg, by unfold cmp; rw [if_neg h']; exact h1, e2, h2, h3⟩
theorem compile_all (s : ByteArray) (w : World) :
    Calls Tryz.prog 25 #[.string s] w fun e w' => CmP s.data.toList e w' ∧ Below w.heap.size w w' := by
  by_cases h : 1024 < s.size
  · have h' : 1024 < s.data.toList.length := by rw [size_data]; exact h
    refine (compile_long s w h).mono ?_
    rintro e w' ⟨rfl, rfl⟩
    have e2 : cmpN s.data.toList = 2 := by unfold cmpN; rw [if_pos h']
    exact ⟨.inl ⟨by unfold cmp; rw [if_pos h'], .inl e2, by rw [e2]; rfl⟩, Below.refl _ _⟩
  · have h' : ¬ 1024 < s.data.toList.length := by rw [size_data]; exact h
    refine (compile_any s w (by omega)).mono ?_
    rintro e w' ⟨hc, hb⟩
    refine ⟨?_, hb⟩
    rcases hc with ⟨h1, h2⟩ | ⟨P, bg, h1, h2, h3⟩
    · have e2 : cmpN s.data.toList = 40 := by unfold cmpN; rw [if_neg h', h1]; rfl
      exact .inl ⟨by unfold cmp; rw [if_neg h']; exact h1, .inr e2, by rw [e2]; exact h2⟩
    · have e2 : cmpN s.data.toList = 0 := by unfold cmpN; rw [if_neg h', h1]; rfl
      exact .inr ⟨P, bg, by unfold cmp; rw [if_neg h']; exact h1, e2, h2, h3⟩
end Go.Proofs.YtfjhjhjdneihbaaGreatDoor
