/-
  The walk of the document's Compile.
-/
import Derived.Test.YtfjhjhjdneihbaaGreatDoorRs
import Derived.Deep.AppendLies
import Derived.Great.BuildSlice
namespace Go.Proofs.YtfjhjhjdneihbaaGreatDoor
open Go.RowKit

theorem Tryz.infoRef3 : (Tryz.prog.info? 130).map (fun i => (i.zero, i.size, i.bytes)) = some (some (.agg (rpC ⟨false, Pg.no⟩)), 257, 257) := by kernel_rfl
/-- the cells of a row of the document's parts -/
def rptsC (P : List Pg.Pt) : List Value := (P.map fun p => (rpC p).toList).flatten
theorem rptsC_len : ∀ P : List Pg.Pt, (rptsC P).length = P.length * 257
  | [] => rfl
  | p :: P => by
    have := rptsC_len P
    show ((rpC p).toList ++ rptsC P).length = _
    rw [List.length_append, this, List.length_cons, Array.length_toList, rpC_size]
    omega
theorem rptsC_snoc (P : List Pg.Pt) (p : Pg.Pt) : rptsC (P ++ [p]) = rptsC P ++ (rpC p).toList := by simp [rptsC]
theorem rptsC_at : ∀ (P : List Pg.Pt) (j : Nat) (p : Pg.Pt) (k : Nat), P[j]? = some p → k < 257 → (rptsC P)[j * 257 + k]? = (rpC p)[k]?
  | [], j, p, k, h, _ => by simp at h
  | q :: P, 0, p, k, h, hk => by
    cases h
    show ((rpC q).toList ++ rptsC P)[0 * 257 + k]? = _
    rw [List.getElem?_append_left (by rw [Array.length_toList, rpC_size]; omega)]
    simp
  | q :: P, j + 1, p, k, h, hk => by
    have ih := rptsC_at P j p k (by simpa using h) hk
    show ((rpC q).toList ++ rptsC P)[(j + 1) * 257 + k]? = _
    have e : (rpC q).toList.length = 257 := by rw [Array.length_toList, rpC_size]
    rw [List.getElem?_append_right (by rw [e]; omega), e, show (j + 1) * 257 + k - 257 = j * 257 + k by omega, ih]
/-- a row of the document's parts that the call itself made -/
def OwnP (w : World) (B : Nat) (v : Value) (P : List Pg.Pt) : Prop := w.ownsRow B 130 257 v P.length (rptsC P)
theorem OwnP.nil (w : World) (B : Nat) : OwnP w B (.slice none 0 0) [] := World.ownsRow_nil _ _ _ _
theorem OwnP.alloc {w : World} {B : Nat} {v : Value} {P : List Pg.Pt} (h : OwnP w B v P) (o : Obj) : OwnP (w.alloc o) B v P := World.ownsRow.alloc h o
theorem OwnP.stays {w w' : World} {B : Nat} {v : Value} {P : List Pg.Pt} (h : OwnP w B v P) (hb : Below w.heap.size w w') : OwnP w' B v P := own_stays h hb
/-- append of one part, at a plain region -/
theorem wpList_append_part {w : World} {ops : Array Oper} {rest : List Oper} {o : Oper} {a : Act} {Q : Exit → Act → World → Prop} (hgd : o.guard = none) (s x : Operand)
    (ho : o.op = .call { callee := .builtin .append, args := #[s, x], argTypes := #[72, 72] }) (B : Nat) (v : Value) (P : List Pg.Pt) (hs : a.eval s = v) (hown : OwnP w B v P)
    (g : Nat) (p : Pg.Pt) (hx : a.eval x = .slice (some ⟨g, 0, none⟩) 1 1) (hg : w.heap[g]? = some (.cells (rpC p) 130 (0, 0))) (hfit : P.length ≤ 100000) (hB : B ≤ w.heap.size)
    (h : ∀ v' w', OwnP w' B v' (P ++ [p]) → Below B w w' → wpList Tryz.prog ops Q rest (a.put o.dst v') w') : wpList Tryz.prog ops Q (o :: rest) a w := by
  obtain ⟨i0, hi, hz0, hz1, hz2⟩ := info_parts Tryz.infoRef3
  refine wpList_append_own _ hgd s x 72 ho B 130 i0 (.agg (rpC ⟨false, Pg.no⟩)) 257 257 Tryz.underlying72 hi hz0 hz1 hz2 (rpC_size _) (by decide) v P.length (rptsC P) hs hown ⟨g, 0, none⟩ 1 1 (rpC p).toList hx (by rw [Array.length_toList, rpC_size]) (World.news_of_block hg) ?_ ?_ ?_ hB ?_
  · intro u hu
    exact (Array.all_eq_true_iff_forall_mem.1 (rpC_one p)) u (by simpa using hu)
  · unfold maxLen; omega
  · omega
  · intro v' w' h2 h3 _
    refine h v' w' ?_ ((Below.refl _ _).grown h3 hB (own_ge hown))
    unfold OwnP
    rw [rptsC_snoc, List.length_append]
    exact h2

/-- a row of one part -/
theorem wpList_bs {ops : Array Oper} {rest : List Oper} {o : Oper} {a : Act} {w : World} {Q : Exit → Act → World → Prop} {x : Operand} (ho : o.op = .buildSlice 72 1 #[(0, x)]) (hgd : o.guard = none) {p : Pg.Pt} (hx : a.eval x = .agg (rpC p))
    (h : wpList Tryz.prog ops Q rest (a.put o.dst (.slice (some ⟨w.heap.size, 0, none⟩) 1 1)) (w.alloc (.cells (rpC p) 130))) : wpList Tryz.prog ops Q (o :: rest) a w := by
  obtain ⟨i0, hi, hz0, hz1, hz2⟩ := info_parts Tryz.infoRef3
  refine wpList_buildSlice hgd 72 130 1 _ ho (rpC p) i0 _ Tryz.underlying72 hi hz0 (by rw [hz1]; omega) (by rw [hz1]; omega) ?_ h
  rw [hz1]
  have e := Great.fill_whole (s := 257) (by omega) [.agg (rpC p)] ((Array.range (1 * 257)).map ((Value.agg (rpC ⟨false, Pg.no⟩)).cells[· % (Value.agg (rpC ⟨false, Pg.no⟩)).cells.size]!)) (by intro v hv; rw [List.mem_singleton] at hv; subst hv; exact rpC_size p) (by simp)
  have e1 : (#[(0, x)].map fun (i, x) => (i, a.eval x)).toList = (([.agg (rpC p)] : List Value).zipIdx 0).map fun x => (x.2, x.1) := by simp [hx]
  rw [e1, e]
  simp [Value.cells]
theorem set_star : (rpC ⟨false, Pg.no⟩).setIfInBounds 0 (.bool true) = rpC Pg.star := by
  apply Array.ext_getElem?
  intro j
  rw [Array.getElem?_setIfInBounds, rpC_size]
  cases j with
  | zero => rw [if_pos rfl, if_pos (by omega), rpC_star]; rfl
  | succ j => rfl

theorem rp_c42 (r : List UInt8) : Pg.rp (42 :: r) = some (Pg.star, r) := rfl
theorem rp_c63 (r : List UInt8) : Pg.rp (63 :: r) = some (⟨false, Pg.turn true Pg.no⟩, r) := rfl
theorem rp_c92 (d : UInt8) (r : List UInt8) : Pg.rp (92 :: d :: r) = some (Pg.lit d, r) := rfl
theorem rp_end : Pg.rp [92] = none := rfl
theorem rp_c91 (r : List UInt8) : Pg.rp (91 :: r) = (Pg.rset r).map fun x => (⟨false, x.1⟩, x.2) := rfl
theorem rp_oth (c : UInt8) (r : List UInt8) (h1 : c ≠ 42) (h2 : c ≠ 63) (h3 : c ≠ 91) (h4 : c ≠ 92) : Pg.rp (c :: r) = some (Pg.lit c, r) := by
  show (if c = 42 then some ((⟨true, Pg.no⟩ : Pg.Pt), r) else if c = 63 then some (⟨false, Pg.turn true Pg.no⟩, r) else if c = 91 then (Pg.rset r).map fun x => (⟨false, x.1⟩, x.2) else (Pg.rb (c :: r)).map fun x => (⟨false, Pg.addR Pg.no x.1 x.1⟩, x.2)) = _
  rw [if_neg h1, if_neg h2, if_neg h3]
  have e : Pg.rb (c :: r) = some (c, r) := by
    show (if c = 92 then (match r with | [] => none | d :: r' => some (d, r')) else some (c, r)) = _
    rw [if_neg h4]
  rw [e]
  rfl
theorem rp_br {s : ByteArray} {k fr n : Nat} {nt : Bool} {p : Pg.Pt} (he : s.data.toList.drop k = 91 :: s.data.toList.drop (k + 1)) (hn : Pg.isNot (s.data.toList.drop (k + 1)) = nt) (hf : fr = if nt then k + 2 else k + 1) (hP : SetP s fr nt p n) :
    (n = 0 ∧ Pg.rp (s.data.toList.drop k) = none) ∨ (1 ≤ n ∧ n ≤ s.size ∧ Pg.rp (s.data.toList.drop k) = some (p, s.data.toList.drop n)) := by
  have e : (if Pg.isNot (s.data.toList.drop (k + 1)) then (s.data.toList.drop (k + 1)).drop 1 else s.data.toList.drop (k + 1)) = s.data.toList.drop fr := by
    rw [hn, hf]
    cases nt with
    | true => rw [if_pos rfl, if_pos rfl, List.drop_drop]
    | false => rw [if_neg (by simp), if_neg (by simp)]
  rw [he, rp_c91]
  unfold Pg.rset
  rw [e, hn]
  rcases hP with ⟨h1, h2⟩ | ⟨h1, h2, g, h3, h4⟩
  · exact .inl ⟨h1, by rw [h2]; rfl⟩
  · exact .inr ⟨h1, h2, by rw [h4, h3]; rfl⟩
theorem own_lt {w : World} {base n : Nat} {e : TypeId} {size : Nat} {v : Value} {xs : List Value} (h : w.ownsRow base e size v n xs) : ∀ k, v.ownBlock = some k → k < w.heap.size := by
  intro k hk
  rcases h.2 with ⟨hv, _⟩ | ⟨g, cap, cur, hv, hg, hh, _⟩
  · subst hv; cases hk
  · subst hv; cases hk; exact lt_of_heap hh

/-- what Compile answers for a text that is not too long -/
def RcP (x : Option (List Pg.Pt)) (e : Ending) (B : Nat) (w' : World) : Prop :=
  (x = none ∧ e = .returned (.tuple #[.slice none 0 0, .int .i64 40])) ∨ ∃ P v, x = some P ∧ e = .returned (.tuple #[v, .int .i64 0]) ∧ OwnP w' B v P

set_option maxHeartbeats 8000000 in
set_option maxRecDepth 100000 in
theorem refCompile_any (s : ByteArray) (w : World) (h : s.size ≤ 1024) :
    Calls Tryz.prog 35 #[.string s] w fun e w' => RcP (Pg.comp s.data.toList) e w.heap.size w' ∧ Below w.heap.size w w' := by
  have hz := zeroPart
  have hzs := rpC_size ⟨false, Pg.no⟩
  go_enter Tryz.func35, Tryz.ntmps35
  go_wp2
  go_loopw [4, 5] (fun v i wr => ∃ (k : Nat) (P : List Pg.Pt), k ≤ s.size ∧ i = .int .i64 k ∧ OwnP wr w.heap.size v P ∧ Below w.heap.size w wr ∧ P.length ≤ k ∧ Hid ((Pg.comp (s.data.toList.drop k)).map (P ++ ·) = Pg.comp s.data.toList)) (fun _ i _ => s.size - (intOf i).toNat)
  case atStart =>
    refine ⟨0, [], by omega, rfl, OwnP.nil _ _, Below.refl _ _, by simp, ?_⟩
    show (Pg.comp s.data.toList).map ([] ++ ·) = _
    cases Pg.comp s.data.toList <;> rfl
  case round =>
    obtain ⟨k, P, hk, rfl, hown, hb, hPk, HQ⟩ := hrel
    have hzb := hb.size
    by_cases hlt : k < s.size
    · have i0 : (k : Int) < (s.size : Int) := by omega
      have ed := drop_head s k hlt
      have hne : s.data.toList.drop k ≠ [] := by rw [ed]; simp
      by_cases h1 : s[k] = 42
      · have t1 := byte_eq h1 (m := 42) rfl
        have HS := hid (Pg.comp_step (out := P) hne (by rw [ed, h1, rp_c42] : Pg.rp (s.data.toList.drop k) = some (Pg.star, s.data.toList.drop (k + 1))))
        rw [HQ.out] at HS
        have hst := set_star
        clear h1 ed hne HQ
        go_wp2_with (first | (guard_target =~ wpList _ _ _ (_ :: _) _ _; refine wpList_bs (p := Pg.star) rfl rfl rfl ?_) | (at_builtin; refine wpList_append_part rfl _ _ rfl w.heap.size _ P rfl (hown.alloc _) _ Pg.star rfl (heap_alloc_new _ _) (by omega) (by simp; omega) ?_; intro v' w' ho' hb'))
        have hb2 := (hb.alloc hzb _).trans hb'
        go_roundw
        case rel => exact ⟨k + 1, P ++ [Pg.star], by omega, by go_num, ho', hb2, by simp; omega, hid HS.out.symm⟩
        case measure => simp [intOf]; omega
      · have t1 := byte_ne h1 (m := 42) rfl
        by_cases h2 : s[k] = 63
        · have t2 := byte_eq h2 (m := 63) rfl
          have HS := hid (Pg.comp_step (out := P) hne (by rw [ed, h2, rp_c63] : Pg.rp (s.data.toList.drop k) = some (⟨false, Pg.turn true Pg.no⟩, s.data.toList.drop (k + 1))))
          rw [HQ.out] at HS
          clear h1 h2 ed hne HQ
          obtain ⟨w1, rfl⟩ : ∃ w1, w1 = wr := ⟨_, rfl⟩
          have HG0 : Hid ((w1.alloc (.cells (rpC ⟨false, Pg.no⟩) 130)).heap[w1.heap.size]? = some (.cells (rpC ⟨false, Pg.no⟩) 130 (0, 0))) := hid (heap_alloc_new _ _)
          have hst := setRow_id HG0.out
          have HOB := hid (own_lt hown)
          go_wp2
          clear hst
          go_loopw [7] (fun i wr => ∃ j : Nat, j ≤ 256 ∧ i = .int .i64 j ∧ Below w.heap.size w wr ∧ wr.heap[w1.heap.size]? = some (.cells (rpC ⟨false, fl Pg.no true j⟩) 130 (0, 0)) ∧ OwnP wr w.heap.size u4 P) (fun i _ => 256 - (intOf i).toNat)
          case atStart => exact ⟨0, by omega, rfl, hb.alloc hzb _, by rw [fl_zero]; exact HG0.out, hown.alloc _⟩
          case round =>
            obtain ⟨j, hj, rfl, hb2, hC2, hO2⟩ := hrel
            have HC2 := hid hC2
            have HO2 := hid hO2
            clear hC2 hO2 hb hown HG0
            by_cases hjl : j < 256
            · have j0 : (0 : Int) ≤ (j : Int) := by omega
              have j1 : (j : Int) < 256 := by omega
              have hc := part_cell j hjl HC2.out
              have hf := free_of_blk HC2.out (1 + j)
              have HO3 := hid (ownsRow_setCell_other HO2.out (a := ⟨w1.heap.size, 1 + j, none⟩) (fun e => Nat.lt_irrefl _ (HOB.out _ e)) (.bool true))
              go_wp2
              go_roundw
              case rel => exact ⟨j + 1, by omega, by go_num, hb2.setCell (by simpa using hzb) _, by rw [← upd_fl Pg.no true j hjl]; exact part_set hjl HC2.out, HO3.out⟩
              case measure => simp [intOf]; omega
            · obtain rfl : j = 256 := by omega
              rw [fl_all] at HC2
              have hz2 := hb2.size
              go_wp2_with (first | (guard_target =~ wpList _ _ _ (_ :: _) _ _; refine wpList_ld rfl rfl HC2.out rfl ?_) | (guard_target =~ wpList _ _ _ (_ :: _) _ _; refine wpList_bs (p := ⟨false, Pg.turn true Pg.no⟩) rfl rfl rfl ?_) | (at_builtin; refine wpList_append_part rfl _ _ rfl w.heap.size _ P rfl (HO2.out.alloc _) _ ⟨false, Pg.turn true Pg.no⟩ rfl (heap_alloc_new _ _) (by omega) (by simp; omega) ?_; intro v' w' ho' hb'))
              have hb3 := (hb2.alloc hz2 _).trans hb'
              go_roundw
              case rel => exact ⟨k + 1, P ++ [⟨false, Pg.turn true Pg.no⟩], by omega, by go_num, ho', hb3, by simp; omega, hid HS.out.symm⟩
              case measure => simp [intOf]; omega
        · have t2 := byte_ne h2 (m := 63) rfl
          by_cases h4 : s[k] = 92
          · have t4 := byte_eq h4 (m := 92) rfl
            by_cases h5 : k + 1 < s.size
            · have i1 : (k : Int) + 1 < (s.size : Int) := by omega
              have HS := hid (Pg.comp_step (out := P) hne (by rw [ed, drop_head s (k + 1) h5, h4, rp_c92] : Pg.rp (s.data.toList.drop k) = some (Pg.lit s[k + 1], s.data.toList.drop (k + 1 + 1))))
              rw [HQ.out] at HS
              clear h1 h2 h4 ed hne HQ
              go_wp2_with fail
              refine (one_any s[k + 1] _).mono ?_
              rintro e w2 ⟨rfl, hb2⟩
              have hown2 := hown.stays hb2
              have hB2 := hb.trans (hb2.mono hb.size)
              have hz2 := hB2.size
              go_wp2_with (first | (guard_target =~ wpList _ _ _ (_ :: _) _ _; refine wpList_bs (p := Pg.lit s[k + 1]) rfl rfl rfl ?_) | (at_builtin; refine wpList_append_part rfl _ _ rfl w.heap.size _ P rfl (hown2.alloc _) _ (Pg.lit s[k + 1]) rfl (heap_alloc_new _ _) (by omega) (by simp; omega) ?_; intro v' w' ho' hb'))
              have hb3 := (hB2.alloc hz2 _).trans hb'
              go_roundw
              case rel => exact ⟨k + 2, P ++ [Pg.lit s[k + 1]], by omega, by go_num, ho', hb3, by simp; omega, hid HS.out.symm⟩
              case measure => simp [intOf]; omega
            · have HR : Hid (Pg.comp s.data.toList = none) := hid (by rw [← HQ.out, Pg.comp_none hne (by rw [ed, h4, drop_past s (k + 1) (by omega), rp_end])]; rfl)
              clear h1 h2 h4 ed hne HQ
              go_wp2
              go_ret2
              exact ⟨.inl ⟨HR.out, rfl⟩, hb⟩
          · have t4 := byte_ne h4 (m := 92) rfl
            by_cases h3 : s[k] = 91
            · have t3 := byte_eq h3 (m := 91) rfl
              have hfr : ∃ nt : Bool, Pg.isNot (s.data.toList.drop (k + 1)) = nt ∧ ((nt = true ∧ ∃ h : k + 1 < s.size, (s[k + 1] = 33 ∨ (s[k + 1] ≠ 33 ∧ s[k + 1] = 94))) ∨ (nt = false ∧ (s.size ≤ k + 1 ∨ ∃ h : k + 1 < s.size, s[k + 1] ≠ 33 ∧ s[k + 1] ≠ 94))) := by
                refine ⟨_, rfl, ?_⟩
                by_cases h5 : k + 1 < s.size
                · rw [drop_head s (k + 1) h5]
                  by_cases h6 : s[k + 1] = 33
                  · exact .inl ⟨by simp [Pg.isNot, h6], h5, .inl h6⟩
                  · by_cases h7 : s[k + 1] = 94
                    · exact .inl ⟨by simp [Pg.isNot, h7], h5, .inr ⟨h6, h7⟩⟩
                    · exact .inr ⟨by simp [Pg.isNot, h6, h7], .inr ⟨h5, h6, h7⟩⟩
                · exact .inr ⟨by rw [drop_past s (k + 1) (by omega)]; rfl, .inl (by omega)⟩
              rw [h3] at ed
              have HE := hid ed
              clear h1 h2 h3 h4 ed
              obtain ⟨nt, hnt, hfr⟩ := hfr
              have HNt := hid hnt
              have hne' := hid hne
              clear hnt hne
              rcases hfr with ⟨rfl, h5, h6 | ⟨h6, h7⟩⟩ | ⟨rfl, h5 | ⟨h5, h6, h7⟩⟩
              · have i1 : (k : Int) + 1 < (s.size : Int) := by omega
                have t6 := byte_eq h6 (m := 33) rfl
                clear h6
                have e2 : ((k + 2 : Nat) : Int) = (k : Int) + 1 + 1 := by omega
                have HSet := set_any s (k + 2) true wr h (by omega)
                rw [e2] at HSet
                have HSet := hid HSet
                have HBr := hid (fun p n (hP : SetP s (k + 2) true p n) => rp_br HE.out HNt.out rfl hP)
                clear HE HNt e2
                go_wp2_with fail
                refine HSet.out.mono ?_
                rintro e w2 ⟨p, n, rfl, hP, hb2⟩
                have hP' := HBr.out p n hP
                have hown2 := hown.stays hb2
                have hB2 := hb.trans (hb2.mono hb.size)
                have hz2 := hB2.size
                have HG0 : Hid ((w2.alloc (.cells (rpC ⟨false, Pg.no⟩) 130)).heap[w2.heap.size]? = some (.cells (rpC ⟨false, Pg.no⟩) 130 (0, 0))) := hid (heap_alloc_new _ _)
                have HG1 := hid (setRow_same (q := p) HG0.out)
                have hst := st_part (q := p) HG0.out
                have hps := rpC_size p
                have HL : Hid (Below w2.heap.size w2 ((w2.alloc (.cells (rpC ⟨false, Pg.no⟩) 130)).setRow w2.heap.size (rpC p))) := hid (Below.setRow ((Below.refl _ _).alloc (Nat.le_refl _) _) (Nat.le_refl _) _)
                have HO3 := hid (hown2.stays HL.out)
                have hB3 := hB2.trans (HL.out.mono hz2)
                have hz3 := hB3.size
                clear HSet HBr hP hb hb2 hown hown2 hB2 HL
                rcases hP' with ⟨rfl, hr⟩ | ⟨hn1, hn2, hr⟩
                · have HR : Hid (Pg.comp s.data.toList = none) := hid (by rw [← HQ.out, Pg.comp_none hne'.out hr]; rfl)
                  clear hr
                  go_wp2
                  go_ret2
                  exact ⟨.inl ⟨HR.out, rfl⟩, hB3⟩
                · have HS := hid (Pg.comp_step (out := P) hne'.out hr)
                  rw [HQ.out] at HS
                  have hlen := Pg.rp_len hr
                  rw [List.length_drop, List.length_drop, size_data] at hlen
                  have t0 : ((n : Int) == 0) = false := ine (by omega)
                  clear hr
                  go_wp2_with (first | (guard_target =~ wpList _ _ _ (_ :: _) _ _; refine wpList_ld rfl rfl HG1.out rfl ?_) | (guard_target =~ wpList _ _ _ (_ :: _) _ _; refine wpList_bs (p := p) rfl rfl rfl ?_) | (at_builtin; refine wpList_append_part rfl _ _ rfl w.heap.size _ P rfl (HO3.out.alloc _) _ p rfl (heap_alloc_new _ _) (by omega) (hB3.alloc hz3 _).size ?_; intro v' w' ho' hb'))
                  have hb4 := (hB3.alloc hz3 _).trans hb'
                  go_roundw
                  case rel => exact ⟨n, P ++ [p], hn2, by go_num, ho', hb4, by simp; omega, hid HS.out.symm⟩
                  case measure => simp [intOf]; omega
              · have i1 : (k : Int) + 1 < (s.size : Int) := by omega
                have t6 := byte_ne h6 (m := 33) rfl
                have t7 := byte_eq h7 (m := 94) rfl
                clear h6 h7
                have e2 : ((k + 2 : Nat) : Int) = (k : Int) + 1 + 1 := by omega
                have HSet := set_any s (k + 2) true wr h (by omega)
                rw [e2] at HSet
                have HSet := hid HSet
                have HBr := hid (fun p n (hP : SetP s (k + 2) true p n) => rp_br HE.out HNt.out rfl hP)
                clear HE HNt e2
                go_wp2_with fail
                refine HSet.out.mono ?_
                rintro e w2 ⟨p, n, rfl, hP, hb2⟩
                have hP' := HBr.out p n hP
                have hown2 := hown.stays hb2
                have hB2 := hb.trans (hb2.mono hb.size)
                have hz2 := hB2.size
                have HG0 : Hid ((w2.alloc (.cells (rpC ⟨false, Pg.no⟩) 130)).heap[w2.heap.size]? = some (.cells (rpC ⟨false, Pg.no⟩) 130 (0, 0))) := hid (heap_alloc_new _ _)
                have HG1 := hid (setRow_same (q := p) HG0.out)
                have hst := st_part (q := p) HG0.out
                have hps := rpC_size p
                have HL : Hid (Below w2.heap.size w2 ((w2.alloc (.cells (rpC ⟨false, Pg.no⟩) 130)).setRow w2.heap.size (rpC p))) := hid (Below.setRow ((Below.refl _ _).alloc (Nat.le_refl _) _) (Nat.le_refl _) _)
                have HO3 := hid (hown2.stays HL.out)
                have hB3 := hB2.trans (HL.out.mono hz2)
                have hz3 := hB3.size
                clear HSet HBr hP hb hb2 hown hown2 hB2 HL
                rcases hP' with ⟨rfl, hr⟩ | ⟨hn1, hn2, hr⟩
                · have HR : Hid (Pg.comp s.data.toList = none) := hid (by rw [← HQ.out, Pg.comp_none hne'.out hr]; rfl)
                  clear hr
                  go_wp2
                  go_ret2
                  exact ⟨.inl ⟨HR.out, rfl⟩, hB3⟩
                · have HS := hid (Pg.comp_step (out := P) hne'.out hr)
                  rw [HQ.out] at HS
                  have hlen := Pg.rp_len hr
                  rw [List.length_drop, List.length_drop, size_data] at hlen
                  have t0 : ((n : Int) == 0) = false := ine (by omega)
                  clear hr
                  go_wp2_with (first | (guard_target =~ wpList _ _ _ (_ :: _) _ _; refine wpList_ld rfl rfl HG1.out rfl ?_) | (guard_target =~ wpList _ _ _ (_ :: _) _ _; refine wpList_bs (p := p) rfl rfl rfl ?_) | (at_builtin; refine wpList_append_part rfl _ _ rfl w.heap.size _ P rfl (HO3.out.alloc _) _ p rfl (heap_alloc_new _ _) (by omega) (hB3.alloc hz3 _).size ?_; intro v' w' ho' hb'))
                  have hb4 := (hB3.alloc hz3 _).trans hb'
                  go_roundw
                  case rel => exact ⟨n, P ++ [p], hn2, by go_num, ho', hb4, by simp; omega, hid HS.out.symm⟩
                  case measure => simp [intOf]; omega
              · have e2 : ((k + 1 : Nat) : Int) = (k : Int) + 1 := by omega
                have HSet := set_any s (k + 1) false wr h (by omega)
                rw [e2] at HSet
                have HSet := hid HSet
                have HBr := hid (fun p n (hP : SetP s (k + 1) false p n) => rp_br HE.out HNt.out rfl hP)
                clear HE HNt e2
                go_wp2_with fail
                refine HSet.out.mono ?_
                rintro e w2 ⟨p, n, rfl, hP, hb2⟩
                have hP' := HBr.out p n hP
                have hown2 := hown.stays hb2
                have hB2 := hb.trans (hb2.mono hb.size)
                have hz2 := hB2.size
                have HG0 : Hid ((w2.alloc (.cells (rpC ⟨false, Pg.no⟩) 130)).heap[w2.heap.size]? = some (.cells (rpC ⟨false, Pg.no⟩) 130 (0, 0))) := hid (heap_alloc_new _ _)
                have HG1 := hid (setRow_same (q := p) HG0.out)
                have hst := st_part (q := p) HG0.out
                have hps := rpC_size p
                have HL : Hid (Below w2.heap.size w2 ((w2.alloc (.cells (rpC ⟨false, Pg.no⟩) 130)).setRow w2.heap.size (rpC p))) := hid (Below.setRow ((Below.refl _ _).alloc (Nat.le_refl _) _) (Nat.le_refl _) _)
                have HO3 := hid (hown2.stays HL.out)
                have hB3 := hB2.trans (HL.out.mono hz2)
                have hz3 := hB3.size
                clear HSet HBr hP hb hb2 hown hown2 hB2 HL
                rcases hP' with ⟨rfl, hr⟩ | ⟨hn1, hn2, hr⟩
                · have HR : Hid (Pg.comp s.data.toList = none) := hid (by rw [← HQ.out, Pg.comp_none hne'.out hr]; rfl)
                  clear hr
                  go_wp2
                  go_ret2
                  exact ⟨.inl ⟨HR.out, rfl⟩, hB3⟩
                · have HS := hid (Pg.comp_step (out := P) hne'.out hr)
                  rw [HQ.out] at HS
                  have hlen := Pg.rp_len hr
                  rw [List.length_drop, List.length_drop, size_data] at hlen
                  have t0 : ((n : Int) == 0) = false := ine (by omega)
                  clear hr
                  go_wp2_with (first | (guard_target =~ wpList _ _ _ (_ :: _) _ _; refine wpList_ld rfl rfl HG1.out rfl ?_) | (guard_target =~ wpList _ _ _ (_ :: _) _ _; refine wpList_bs (p := p) rfl rfl rfl ?_) | (at_builtin; refine wpList_append_part rfl _ _ rfl w.heap.size _ P rfl (HO3.out.alloc _) _ p rfl (heap_alloc_new _ _) (by omega) (hB3.alloc hz3 _).size ?_; intro v' w' ho' hb'))
                  have hb4 := (hB3.alloc hz3 _).trans hb'
                  go_roundw
                  case rel => exact ⟨n, P ++ [p], hn2, by go_num, ho', hb4, by simp; omega, hid HS.out.symm⟩
                  case measure => simp [intOf]; omega
              · have i1 : (k : Int) + 1 < (s.size : Int) := by omega
                have t6 := byte_ne h6 (m := 33) rfl
                have t7 := byte_ne h7 (m := 94) rfl
                clear h6 h7
                have e2 : ((k + 1 : Nat) : Int) = (k : Int) + 1 := by omega
                have HSet := set_any s (k + 1) false wr h (by omega)
                rw [e2] at HSet
                have HSet := hid HSet
                have HBr := hid (fun p n (hP : SetP s (k + 1) false p n) => rp_br HE.out HNt.out rfl hP)
                clear HE HNt e2
                go_wp2_with fail
                refine HSet.out.mono ?_
                rintro e w2 ⟨p, n, rfl, hP, hb2⟩
                have hP' := HBr.out p n hP
                have hown2 := hown.stays hb2
                have hB2 := hb.trans (hb2.mono hb.size)
                have hz2 := hB2.size
                have HG0 : Hid ((w2.alloc (.cells (rpC ⟨false, Pg.no⟩) 130)).heap[w2.heap.size]? = some (.cells (rpC ⟨false, Pg.no⟩) 130 (0, 0))) := hid (heap_alloc_new _ _)
                have HG1 := hid (setRow_same (q := p) HG0.out)
                have hst := st_part (q := p) HG0.out
                have hps := rpC_size p
                have HL : Hid (Below w2.heap.size w2 ((w2.alloc (.cells (rpC ⟨false, Pg.no⟩) 130)).setRow w2.heap.size (rpC p))) := hid (Below.setRow ((Below.refl _ _).alloc (Nat.le_refl _) _) (Nat.le_refl _) _)
                have HO3 := hid (hown2.stays HL.out)
                have hB3 := hB2.trans (HL.out.mono hz2)
                have hz3 := hB3.size
                clear HSet HBr hP hb hb2 hown hown2 hB2 HL
                rcases hP' with ⟨rfl, hr⟩ | ⟨hn1, hn2, hr⟩
                · have HR : Hid (Pg.comp s.data.toList = none) := hid (by rw [← HQ.out, Pg.comp_none hne'.out hr]; rfl)
                  clear hr
                  go_wp2
                  go_ret2
                  exact ⟨.inl ⟨HR.out, rfl⟩, hB3⟩
                · have HS := hid (Pg.comp_step (out := P) hne'.out hr)
                  rw [HQ.out] at HS
                  have hlen := Pg.rp_len hr
                  rw [List.length_drop, List.length_drop, size_data] at hlen
                  have t0 : ((n : Int) == 0) = false := ine (by omega)
                  clear hr
                  go_wp2_with (first | (guard_target =~ wpList _ _ _ (_ :: _) _ _; refine wpList_ld rfl rfl HG1.out rfl ?_) | (guard_target =~ wpList _ _ _ (_ :: _) _ _; refine wpList_bs (p := p) rfl rfl rfl ?_) | (at_builtin; refine wpList_append_part rfl _ _ rfl w.heap.size _ P rfl (HO3.out.alloc _) _ p rfl (heap_alloc_new _ _) (by omega) (hB3.alloc hz3 _).size ?_; intro v' w' ho' hb'))
                  have hb4 := (hB3.alloc hz3 _).trans hb'
                  go_roundw
                  case rel => exact ⟨n, P ++ [p], hn2, by go_num, ho', hb4, by simp; omega, hid HS.out.symm⟩
                  case measure => simp [intOf]; omega
            · have t3 := byte_ne h3 (m := 91) rfl
              have HS := hid (Pg.comp_step (out := P) hne (by rw [ed, rp_oth _ _ h1 h2 h3 h4] : Pg.rp (s.data.toList.drop k) = some (Pg.lit s[k], s.data.toList.drop (k + 1))))
              rw [HQ.out] at HS
              clear h1 h2 h3 h4 ed hne HQ
              go_wp2_with fail
              refine (one_any s[k] _).mono ?_
              rintro e w2 ⟨rfl, hb2⟩
              have hown2 := hown.stays hb2
              have hB2 := hb.trans (hb2.mono hb.size)
              have hz2 := hB2.size
              go_wp2_with (first | (guard_target =~ wpList _ _ _ (_ :: _) _ _; refine wpList_bs (p := Pg.lit s[k]) rfl rfl rfl ?_) | (at_builtin; refine wpList_append_part rfl _ _ rfl w.heap.size _ P rfl (hown2.alloc _) _ (Pg.lit s[k]) rfl (heap_alloc_new _ _) (by omega) (by simp; omega) ?_; intro v' w' ho' hb'))
              have hb3 := (hB2.alloc hz2 _).trans hb'
              go_roundw
              case rel => exact ⟨k + 1, P ++ [Pg.lit s[k]], by omega, by go_num, ho', hb3, by simp; omega, hid HS.out.symm⟩
              case measure => simp [intOf]; omega
    · have HR : Hid (Pg.comp s.data.toList = some P) := hid (by rw [← HQ.out, drop_past s k (by omega), Pg.comp_nil]; simp)
      go_wp2
      go_ret2
      exact ⟨.inr ⟨P, _, HR.out, rfl, hown⟩, hb⟩
set_option maxHeartbeats 1000000 in
theorem refCompile_long (s : ByteArray) (w : World) (h : 1024 < s.size) :
    Calls Tryz.prog 35 #[.string s] w fun e w' => e = .returned (.tuple #[.slice none 0 0, .int .i64 2]) ∧ w' = w := by
  go_enter Tryz.func35, Tryz.ntmps35
  go_wp2
  go_ret2
  exact ⟨rfl, rfl⟩
/-- what the document's Compile answers -/
def RcA (t : List UInt8) (e : Ending) (B : Nat) (w' : World) : Prop :=
  (cmp t = none ∧ (cmpN t = 2 ∨ cmpN t = 40) ∧ e = .returned (.tuple #[.slice none 0 0, .int .i64 (cmpN t)])) ∨ ∃ P v, cmp t = some P ∧ cmpN t = 0 ∧ e = .returned (.tuple #[v, .int .i64 0]) ∧ OwnP w' B v P
theorem refCompile_all (s : ByteArray) (w : World) :
    Calls Tryz.prog 35 #[.string s] w fun e w' => RcA s.data.toList e w.heap.size w' ∧ Below w.heap.size w w' := by
  by_cases h : 1024 < s.size
  · have h' : 1024 < s.data.toList.length := by rw [size_data]; exact h
    refine (refCompile_long s w h).mono ?_
    rintro e w' ⟨rfl, rfl⟩
    have e2 : cmpN s.data.toList = 2 := by unfold cmpN; rw [if_pos h']
    exact ⟨.inl ⟨by unfold cmp; rw [if_pos h'], .inl e2, by rw [e2]; rfl⟩, Below.refl _ _⟩
  · have h' : ¬ 1024 < s.data.toList.length := by rw [size_data]; exact h
    refine (refCompile_any s w (by omega)).mono ?_
    rintro e w' ⟨hc, hb⟩
    refine ⟨?_, hb⟩
    rcases hc with ⟨h1, h2⟩ | ⟨P, v, h1, h2, h3⟩
    · have e2 : cmpN s.data.toList = 40 := by unfold cmpN; rw [if_neg h', h1]; rfl
      exact .inl ⟨by unfold cmp; rw [if_neg h']; exact h1, .inr e2, by rw [e2]; exact h2⟩
    · have e2 : cmpN s.data.toList = 0 := by unfold cmpN; rw [if_neg h', h1]; rfl
      exact .inr ⟨P, v, by unfold cmp; rw [if_neg h']; exact h1, e2, h2, h3⟩
end Go.Proofs.YtfjhjhjdneihbaaGreatDoor
