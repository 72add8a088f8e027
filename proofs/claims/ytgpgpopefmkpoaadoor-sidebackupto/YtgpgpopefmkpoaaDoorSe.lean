/-
  The law's marks and without.
-/
import Derived.Test.YtgpgpopefmkpoaaDoorS8
import Derived.Test.YtgpgpopefmkpoaaDoorSc
namespace Go.Proofs.YtgpgpopefmkpoaaDoor
open Go.RowKit

instance isM_dec (x : UInt8) : Decidable (isM x) := inferInstanceAs (Decidable (_ ∨ _))
theorem byte_ne {x c : UInt8} (h : x ≠ c) : ((x.toNat : Int) == (c.toNat : Int)) = false := ine fun e => h (UInt8.toNat_inj.1 (by omega))
set_option maxHeartbeats 4000000 in
theorem marks_any (s : ByteArray) (w : World) (hs : s.size ≤ 140737488355327) :
    Calls Tryd.prog 22 #[.string s] w fun e w' => ∃ b, e = .returned (.bool b) ∧ (b = false → Free s.data.toList) ∧ w' = w := by
  go_enter Tryd.func22, Tryd.ntmps22
  go_wp2
  go_loopw [3] (fun i wr => ∃ k : Nat, k ≤ s.size ∧ i = .int .i64 k ∧ wr = w ∧ Hid (Free (s.data.toList.take k))) (fun i _ => s.size - (intOf i).toNat)
  case atStart => exact ⟨0, Nat.zero_le _, rfl, rfl, hid (fun x hx => by simp at hx)⟩
  case round =>
    obtain ⟨k, hk, rfl, hwr, HF⟩ := hrel
    subst hwr
    by_cases hlt : k < s.size
    · have HX := hid (get_data hlt)
      by_cases hm : isM s[k]
      · rcases hm with e | e | e | e | e | e <;> (
          have q0 : s[k].toNat = _ := congrArg UInt8.toNat e
          clear e HX HF
          go_wp2
          go_ret
          exact ⟨true, rfl, (fun h => nomatch h), rfl⟩)
      · have HF2 : Hid (Free (s.data.toList.take (k + 1))) := hid (by
          rw [List.take_add_one, HX.out]
          exact Free.append HF.out (fun x hx => by simp at hx; subst hx; exact hm))
        have q1 : ((s[k].toNat : Int) == 91) = false := byte_ne (c := 91) (fun e => hm (.inl e))
        have q2 : ((s[k].toNat : Int) == 93) = false := byte_ne (c := 93) (fun e => hm (.inr (.inl e)))
        have q3 : ((s[k].toNat : Int) == 123) = false := byte_ne (c := 123) (fun e => hm (.inr (.inr (.inl e))))
        have q4 : ((s[k].toNat : Int) == 125) = false := byte_ne (c := 125) (fun e => hm (.inr (.inr (.inr (.inl e)))))
        have q5 : ((s[k].toNat : Int) == 43) = false := byte_ne (c := 43) (fun e => hm (.inr (.inr (.inr (.inr (.inl e))))))
        have q6 : ((s[k].toNat : Int) == 45) = false := byte_ne (c := 45) (fun e => hm (.inr (.inr (.inr (.inr (.inr e))))))
        clear hm HX HF
        go_wp2
        go_roundw
        case rel => exact ⟨k + 1, by omega, by go_num, by first | rfl | trivial, HF2⟩
        case measure => simp [intOf]; omega
    · have HE : Hid (Free s.data.toList) := hid (by have := HF.out; rwa [List.take_of_length_le (by rw [dsize]; omega)] at this)
      go_wp2
      go_ret
      exact ⟨false, rfl, fun _ => HE.out, rfl⟩
theorem one_newS (w : World) (A : Obj) : Below w.heap.size w (w.alloc A) ∧ (w.alloc A).heap[w.heap.size]? = some A := ⟨(Below.refl _ _).alloc (Nat.le_refl _) _, heap_alloc_new w A⟩
theorem byte_ownS {w : World} {B : Nat} {v : Value} {l : Sd.Bs} {c : UInt8} (h : w.ownsRow B 5 1 v (l.length + 1) (Lib.byteCells l ++ [.int .u8 c.toNat])) : OwB w B v (l ++ [c]) := by
  show w.ownsRow _ _ _ _ _ _
  rw [Lib.byteCells_append, List.length_append]; exact h
theorem two_yes {Z F : ByteArray} {x y : UInt8} {f : UInt8 × UInt8} (hz : Z.toList = [x, y]) (hf : F.toList = [f.1, f.2]) (h : (x, y) = f) : (Z.toList == F.toList) = true := by
  subst h; rw [hz, hf]; exact beq_self_eq_true _
theorem two_no {Z F : ByteArray} {x y : UInt8} {f : UInt8 × UInt8} (hz : Z.toList = [x, y]) (hf : F.toList = [f.1, f.2]) (h : (x, y) ≠ f) : (Z.toList == F.toList) = false := by
  rw [beq_eq_false_iff_ne, hz, hf]
  intro e
  apply h
  simp at e
  exact Prod.ext e.1 e.2
theorem one_no {Z F : ByteArray} {x : UInt8} {f : UInt8 × UInt8} (hz : Z.toList = [x]) (hf : F.toList = [f.1, f.2]) : (Z.toList == F.toList) = false := by
  rw [beq_eq_false_iff_ne, hz, hf]; simp
theorem ext_list (s : ByteArray) (k j : Nat) : (s.extract k j).toList = (s.data.toList.drop k).take (j - k) := by rw [ByteArray.toList_eq, ext_bB, bB_data]
set_option maxHeartbeats 8000000 in
set_option maxRecDepth 100000 in
theorem without_any {f t o c : UInt8 × UInt8} {F T O C : ByteArray} (s : ByteArray) (w : World) (hF : F.toList = [f.1, f.2]) (hT : T.toList = [t.1, t.2]) (hO : O.toList = [o.1, o.2]) (hC : C.toList = [c.1, c.2]) (hs : s.size ≤ 70368744177664) :
    Calls Tryd.prog 23 #[.string s, .string F, .string T, .string O, .string C] w fun e w' => e = .returned (.string (bB (wo f t o c false s.data.toList))) ∧ Below w.heap.size w w' := by
  obtain ⟨i0, hi, hz0, hz1, hz2⟩ := info_parts Tryd.infoByteS
  obtain ⟨W, hW⟩ : ∃ W, W = wo f t o c false s.data.toList := ⟨_, rfl⟩
  have HW := hid hW
  rw [← hW]
  have HF := hid hF
  have HTt := hid hT
  have HOo := hid hO
  have HC := hid hC
  clear hF hT hO hC hW
  go_enter Tryd.func23, Tryd.ntmps23
  go_wp2
  go_loopw [11, 12, 13] (fun v n i wr => ∃ (k : Nat) (b : Bool) (P : Sd.Bs), k ≤ s.size ∧ n = .bool b ∧ i = .int .i64 k ∧ Hid (W = P ++ wo f t o c b (s.data.toList.drop k)) ∧ Hid (OwB wr w.heap.size v P) ∧ Hid (P.length ≤ k) ∧ Hid (Below w.heap.size w wr)) (fun _ _ i _ => s.size - (intOf i).toNat)
  case atStart => exact ⟨0, false, [], Nat.zero_le _, rfl, rfl, hid (by rw [HW.out]; rfl), hid (World.ownsRow_nil _ _ _ _), hid (Nat.le_refl _), hid (Below.refl _ _)⟩
  case round =>
    obtain ⟨k, b, P, hk, rfl, rfl, HT, HO, HP, HB⟩ := hrel
    by_cases hlt : k < s.size
    · have HX := hid (get_data hlt)
      obtain ⟨x, hx⟩ : ∃ x, x = s[k] := ⟨_, rfl⟩
      have HX0 := hid hx
      rw [← hx] at HX
      have i1 : (0 : Int) ≤ (k : Int) := by omega
      have i2 : (k : Int) < (s.size : Int) := by omega
      have xe : s[k].toNat = x.toNat := by rw [hx]
      clear hx
      obtain ⟨j2, hj2⟩ : ∃ j2 : Nat, j2 = k + 2 := ⟨_, rfl⟩
      have iw : IntKind.i64.wrap ((k : Int) + 2) = (j2 : Int) := by rw [IntKind.wrap_i64]; omega
      obtain ⟨j, hj⟩ : ∃ j : Nat, j = min j2 s.size := ⟨_, rfl⟩
      have hm : min (j2 : Int) (s.size : Int) = (j : Int) := by omega
      have i3 : (k : Int) ≤ (j : Int) := by omega
      have i4 : (j : Int) ≤ (s.size : Int) := by omega
      have HZ := hid (ext_list s k j)
      by_cases h2 : k + 1 < s.size
      · have HY := hid (get_data h2)
        have hj3 : j - k = 2 := by omega
        have HD : Hid (s.data.toList.drop k = x :: s[k + 1] :: s.data.toList.drop (k + 2)) := hid (by
          obtain ⟨h1, e1⟩ := List.getElem?_eq_some_iff.1 HX.out
          obtain ⟨h3, e3⟩ := List.getElem?_eq_some_iff.1 HY.out
          rw [List.drop_eq_getElem_cons h1, e1, List.drop_eq_getElem_cons h3, e3])
        rw [hj3, HD.out] at HZ
        generalize s[k + 1] = y at HZ HD HY
        have HZ : Hid ((s.extract k j).toList = [x, y]) := hid HZ.out
        clear hj hj2 hj3 HY HX HX0
        by_cases g1 : (x, y) = f
        · have HT2 : Hid (W = P ++ wo f t o c true (s.data.toList.drop (k + 2))) := hid (by rw [HT.out, HD.out, wo, if_pos g1])
          have HP2 : Hid (P.length ≤ k + 2) := hid (by have := HP.out; omega)
          have q1 := two_yes HZ.out HF.out g1
          clear g1 HT HP HD HZ
          go_wp2
          go_roundw
          case rel => exact ⟨k + 2, true, P, by omega, rfl, by go_num, HT2, HO, HP2, HB⟩
          case measure => simp [intOf]; omega
        · have q1 := two_no HZ.out HF.out g1
          by_cases g2 : (x, y) = t
          · have HT2 : Hid (W = P ++ wo f t o c false (s.data.toList.drop (k + 2))) := hid (by rw [HT.out, HD.out, wo, if_neg g1, if_pos g2])
            have HP2 : Hid (P.length ≤ k + 2) := hid (by have := HP.out; omega)
            have q2 := two_yes HZ.out HTt.out g2
            clear g1 g2 HT HP HD HZ
            go_wp2
            go_roundw
            case rel => exact ⟨k + 2, false, P, by omega, rfl, by go_num, HT2, HO, HP2, HB⟩
            case measure => simp [intOf]; omega
          · have q2 := two_no HZ.out HTt.out g2
            by_cases g3 : (x, y) = o
            · have HT2 : Hid (W = P ++ wo f t o c b (s.data.toList.drop (k + 2))) := hid (by rw [HT.out, HD.out, wo, if_neg g1, if_neg g2, if_pos (.inl g3)])
              have HP2 : Hid (P.length ≤ k + 2) := hid (by have := HP.out; omega)
              have q3 := two_yes HZ.out HOo.out g3
              clear g1 g2 g3 HT HP HD HZ
              go_wp2
              go_roundw
              case rel => exact ⟨k + 2, b, P, by omega, rfl, by go_num, HT2, HO, HP2, HB⟩
              case measure => simp [intOf]; omega
            · have q3 := two_no HZ.out HOo.out g3
              by_cases g4 : (x, y) = c
              · have HT2 : Hid (W = P ++ wo f t o c b (s.data.toList.drop (k + 2))) := hid (by rw [HT.out, HD.out, wo, if_neg g1, if_neg g2, if_pos (.inr g4)])
                have HP2 : Hid (P.length ≤ k + 2) := hid (by have := HP.out; omega)
                have q4 := two_yes HZ.out HC.out g4
                clear g1 g2 g3 g4 HT HP HD HZ
                go_wp2
                go_roundw
                case rel => exact ⟨k + 2, b, P, by omega, rfl, by go_num, HT2, HO, HP2, HB⟩
                case measure => simp [intOf]; omega
              · have q4 := two_no HZ.out HC.out g4
                have HR : Hid (wo f t o c b (s.data.toList.drop k) = (if b then [] else [x]) ++ wo f t o c b (s.data.toList.drop (k + 1))) := hid (by
                  have e1 : s.data.toList.drop (k + 1) = y :: s.data.toList.drop (k + 2) := by rw [← List.tail_drop, HD.out]; rfl
                  rw [HD.out, e1, wo, if_neg g1, if_neg g2, if_neg (fun e => e.elim g3 g4)])
                clear g1 g2 g3 g4 HD HZ
                cases b
                · have HT2 : Hid (W = (P ++ [x]) ++ wo f t o c false (s.data.toList.drop (k + 1))) := hid (by rw [HT.out, HR.out, List.append_assoc]; rfl)
                  have HP2 : Hid ((P ++ [x]).length ≤ k + 1) := hid (by have := HP.out; rw [List.length_append]; show P.length + 1 ≤ _; omega)
                  have HN2 := hid (one_newS wr (.cells #[.int .u8 x.toNat] 5))
                  clear HT HR
                  go_wp2_with (at_builtin; refine wpList_append_own _ rfl _ _ 60 rfl w.heap.size 5 i0 (.int .u8 0) 1 1 Tryd.underlying60 hi hz0 hz1 hz2 rfl (by decide) _ _ _ rfl (own_stays HO.out HN2.out.1) ⟨wr.heap.size, 0, none⟩ 1 1 [.int .u8 x.toNat] rfl rfl ?a1 ?a2 ?a3 ?a4 ?a5 ?_)
                  case a1 =>
                    intro j u hj
                    match j, hj with
                    | 0, hj => simp at hj; subst hj; simp [Addr.add]
                  case a2 => first | rfl | (intro u hu; simp at hu; subst hu; rfl)
                  case a3 => have h1 := HP.out; unfold maxLen; omega
                  case a4 => have h1 := HP.out; omega
                  case a5 => exact Nat.le_trans HB.out.size HN2.out.1.size
                  intro v9 w9 hown9 hgrow9 _
                  have HB9 := hid ((HB.out.trans (HN2.out.1.mono HB.out.size)).grown hgrow9 (Nat.le_trans HB.out.size HN2.out.1.size) (own_ge HO.out))
                  have HO9 := hid (byte_ownS (l := P) (c := x) hown9)
                  clear hown9 hgrow9 HO HB HP
                  go_wp2_with fail
                  go_roundw
                  case rel => exact ⟨k + 1, false, P ++ [x], by omega, rfl, by go_num, HT2, HO9, HP2, HB9⟩
                  case measure => simp [intOf]; omega
                · have HT2 : Hid (W = P ++ wo f t o c true (s.data.toList.drop (k + 1))) := hid (by rw [HT.out, HR.out]; rfl)
                  have HP2 : Hid (P.length ≤ k + 1) := hid (Nat.le_succ_of_le HP.out)
                  clear HT HP HR
                  go_wp2
                  go_roundw
                  case rel => exact ⟨k + 1, true, P, by omega, rfl, by go_num, HT2, HO, HP2, HB⟩
                  case measure => simp [intOf]; omega
      · have hj3 : j - k = 1 := by omega
        have HD : Hid (s.data.toList.drop k = [x]) := hid (by
          obtain ⟨h1, e1⟩ := List.getElem?_eq_some_iff.1 HX.out
          rw [List.drop_eq_getElem_cons h1, e1, List.drop_eq_nil_of_le (by rw [dsize]; omega)])
        rw [hj3, HD.out] at HZ
        have HZ : Hid ((s.extract k j).toList = [x]) := hid HZ.out
        have q1 := one_no HZ.out HF.out
        have q2 := one_no HZ.out HTt.out
        have q3 := one_no HZ.out HOo.out
        have q4 := one_no HZ.out HC.out
        have HR : Hid (wo f t o c b (s.data.toList.drop k) = (if b then [] else [x]) ++ wo f t o c b (s.data.toList.drop (k + 1))) := hid (by
          have e1 : s.data.toList.drop (k + 1) = [] := List.drop_eq_nil_of_le (by rw [dsize]; omega)
          rw [HD.out, e1]
          cases b <;> rfl)
        clear hj hj2 hj3 HX HX0 HD HZ
        cases b
        · have HT2 : Hid (W = (P ++ [x]) ++ wo f t o c false (s.data.toList.drop (k + 1))) := hid (by rw [HT.out, HR.out, List.append_assoc]; rfl)
          have HP2 : Hid ((P ++ [x]).length ≤ k + 1) := hid (by have := HP.out; rw [List.length_append]; show P.length + 1 ≤ _; omega)
          have HN2 := hid (one_newS wr (.cells #[.int .u8 x.toNat] 5))
          clear HT HR
          go_wp2_with (at_builtin; refine wpList_append_own _ rfl _ _ 60 rfl w.heap.size 5 i0 (.int .u8 0) 1 1 Tryd.underlying60 hi hz0 hz1 hz2 rfl (by decide) _ _ _ rfl (own_stays HO.out HN2.out.1) ⟨wr.heap.size, 0, none⟩ 1 1 [.int .u8 x.toNat] rfl rfl ?a1 ?a2 ?a3 ?a4 ?a5 ?_)
          case a1 =>
            intro j u hj
            match j, hj with
            | 0, hj => simp at hj; subst hj; simp [Addr.add]
          case a2 => first | rfl | (intro u hu; simp at hu; subst hu; rfl)
          case a3 => have h1 := HP.out; unfold maxLen; omega
          case a4 => have h1 := HP.out; omega
          case a5 => exact Nat.le_trans HB.out.size HN2.out.1.size
          intro v9 w9 hown9 hgrow9 _
          have HB9 := hid ((HB.out.trans (HN2.out.1.mono HB.out.size)).grown hgrow9 (Nat.le_trans HB.out.size HN2.out.1.size) (own_ge HO.out))
          have HO9 := hid (byte_ownS (l := P) (c := x) hown9)
          clear hown9 hgrow9 HO HB HP
          go_wp2_with fail
          go_roundw
          case rel => exact ⟨k + 1, false, P ++ [x], by omega, rfl, by go_num, HT2, HO9, HP2, HB9⟩
          case measure => simp [intOf]; omega
        · have HT2 : Hid (W = P ++ wo f t o c true (s.data.toList.drop (k + 1))) := hid (by rw [HT.out, HR.out]; rfl)
          have HP2 : Hid (P.length ≤ k + 1) := hid (Nat.le_succ_of_le HP.out)
          clear HT HP HR
          go_wp2
          go_roundw
          case rel => exact ⟨k + 1, true, P, by omega, rfl, by go_num, HT2, HO, HP2, HB⟩
          case measure => simp [intOf]; omega
    · have HE : Hid (P = W) := hid (by rw [HT.out, List.drop_eq_nil_of_le (by rw [dsize]; omega)]; cases b <;> exact (List.append_nil _).symm)
      rw [HE.out] at HO
      have hcv := conv_ownS HO.out
      clear HT HP
      go_wp2
      go_ret
      exact ⟨rfl, HB.out⟩
end Go.Proofs.YtgpgpopefmkpoaaDoor
