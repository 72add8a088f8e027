/-
  Gathered by wip/genref.py: refCut_any, wpList_append_str.
-/
import Derived.Test.YtfjhjhjdneihbaaGreatDoorI0

namespace Go.Proofs.YtfjhjhjdneihbaaGreatDoor
open Go.RowKit

theorem slash_iff (c : UInt8) : ((c.toNat : Int) = 47) ↔ c = 47 :=
  ⟨fun h => UInt8.toNat_inj.1 (by show c.toNat = 47; omega), fun h => by subst h; rfl⟩
theorem Tryz.infoStr : (Tryz.prog.info? 9).map (fun i => (i.zero, i.size, i.bytes)) = some (some (.string ⟨#[]⟩), 1, 16) := by kernel_rfl
theorem pieces_hit (l : List UInt8) (fr k : Nat) (hk : l[k]? = some 47) (hfr : fr ≤ k) (hno : (47 : UInt8) ∉ (l.take k).drop fr) :
    Pp.pieces (l.drop fr) = (l.drop fr).take (k - fr) :: Pp.pieces (l.drop (k + 1)) := by
  have hlt : k < l.length := by
    rcases Nat.lt_or_ge k l.length with h | h
    · exact h
    · rw [List.getElem?_eq_none h] at hk; cases hk
  have e1 : l.drop k = 47 :: l.drop (k + 1) := by
    rw [List.drop_eq_getElem_cons hlt]
    rw [List.getElem?_eq_getElem hlt] at hk
    rw [Option.some.inj hk]
  have e2 : l.drop fr = (l.take k).drop fr ++ 47 :: l.drop (k + 1) := by
    rw [← e1]
    have : l = l.take k ++ l.drop k := (List.take_append_drop k l).symm
    conv => lhs; rw [this]
    rw [List.drop_append_of_le_length (by rw [List.length_take]; omega)]
  have el : ((l.take k).drop fr).length = k - fr := by rw [List.length_drop, List.length_take]; omega
  have e3 : (l.drop fr).take (k - fr) = (l.take k).drop fr := by
    rw [e2, ← el, List.take_left]
  rw [e3, e2, Pp.pieces_first _ _ hno]
theorem pieces_miss (l : List UInt8) (fr k : Nat) (c : UInt8) (hk : l[k]? = some c) (hc : c ≠ 47) (hfr : fr ≤ k) (hno : (47 : UInt8) ∉ (l.take k).drop fr) : (47 : UInt8) ∉ (l.take (k + 1)).drop fr := by
  have hlt : k < l.length := by
    rcases Nat.lt_or_ge k l.length with h | h
    · exact h
    · rw [List.getElem?_eq_none h] at hk; cases hk
  rw [List.take_add_one, hk, List.drop_append_of_le_length (by rw [List.length_take]; omega)]
  intro h
  rcases List.mem_append.1 h with h | h
  · exact hno h
  · simp at h; exact hc h.symm
set_option maxHeartbeats 2000000 in
set_option maxRecDepth 100000 in
theorem refCut_any (s : ByteArray) (L : List (List UInt8)) (hL : Pp.pieces s.data.toList = L) (w : World) (hs : s.size ≤ 4294967296) :
    Calls Tryz.prog 23 #[.string s] w fun e w' => ∃ v, e = .returned v ∧ OwnS w' w.heap.size v L ∧ Below w.heap.size w w' := by
  obtain ⟨i0, hi, hz0, hz1, hz2⟩ := info_parts Tryz.infoStr
  have HP := hid hL
  have hlen : L.length ≤ s.size + 1 := by
    have := Pp.pieces_length s.data.toList
    rw [hL, size_data] at this
    exact this
  clear hL
  go_enter Tryz.func23, Tryz.ntmps23
  go_wp2
  go_loopw [3, 4, 5] (fun v f i wr => ∃ (k fr : Nat) (done : List (List UInt8)), k ≤ s.size + 1 ∧ fr ≤ k ∧ i = .int .i64 k ∧ f = .int .i64 fr ∧ OwnS wr w.heap.size v done ∧
      Hid ((k ≤ s.size ∧ L = done ++ Pp.pieces (s.data.toList.drop fr) ∧ (47 : UInt8) ∉ (s.data.toList.take k).drop fr) ∨ (k = s.size + 1 ∧ L = done)) ∧ Below w.heap.size w wr) (fun _ _ i _ => s.size + 1 - (intOf i).toNat)
  case atStart => exact ⟨0, 0, [], Nat.zero_le _, Nat.le_refl _, rfl, rfl, OwnS.nil _ _, hid (.inl ⟨Nat.zero_le _, HP.out.symm, by simp⟩), Below.refl _ _⟩
  case round =>
    obtain ⟨k, fr, done, hk, hfr, rfl, rfl, hown, HC, hb⟩ := hrel
    have HW := hid hb.size
    by_cases hle : k ≤ s.size
    · have HC1 : Hid (L = done ++ Pp.pieces (s.data.toList.drop fr) ∧ (47 : UInt8) ∉ (s.data.toList.take k).drop fr) := hid (by
        rcases HC.out with ⟨_, h1, h2⟩ | ⟨h1, _⟩
        · exact ⟨h1, h2⟩
        · omega)
      clear HC
      by_cases hcut : k = s.size ∨ ∃ h : k < s.size, s[k] = 47
      · have HN : Hid (Pp.pieces (s.data.toList.drop fr) = (s.extract fr k).data.toList :: (if k = s.size then [] else Pp.pieces (s.data.toList.drop (k + 1)))) := hid (by
          rw [Lib.extract_data]
          rcases hcut with rfl | ⟨h, h47⟩
          · rw [if_pos rfl]
            have h2 := HC1.out.2
            rw [take_all s _ (Nat.le_refl _)] at h2
            rw [Pp.pieces_none _ h2, List.take_of_length_le (by rw [List.length_drop, size_data]; exact Nat.le_refl _)]
          · rw [if_neg (by omega)]
            exact pieces_hit s.data.toList fr k (by rw [at_data s k h, h47]) hfr HC1.out.2)
        have hfit : (done.length + 1) * 16 ≤ 140737488355328 := by
          have h1 := HC1.out.1
          rw [HN.out] at h1
          have h2 := congrArg List.length h1
          rw [List.length_append, List.length_cons] at h2
          omega
        have HC2 : Hid ((k + 1 ≤ s.size ∧ L = (done ++ [(s.extract fr k).data.toList]) ++ Pp.pieces (s.data.toList.drop (k + 1)) ∧ (47 : UInt8) ∉ (s.data.toList.take (k + 1)).drop (k + 1)) ∨ (k + 1 = s.size + 1 ∧ L = done ++ [(s.extract fr k).data.toList])) := hid (by
          have h1 := HC1.out.1
          rw [HN.out] at h1
          rcases hcut with rfl | ⟨h, _⟩
          · rw [if_pos rfl] at h1
            exact .inr ⟨rfl, h1⟩
          · rw [if_neg (by omega)] at h1
            refine .inl ⟨by omega, ?_, ?_⟩
            · rw [h1, List.append_assoc]; rfl
            · rw [List.drop_eq_nil_of_le (by rw [List.length_take]; omega)]; simp)
        have htest : ((k : Int) == (s.size : Int)) = true ∨ (((k : Int) == (s.size : Int)) = false ∧ ∃ h : k < s.size, ((s[k].toNat : Int) == 47) = true) := by
          rcases hcut with rfl | ⟨h, h47⟩
          · exact .inl (beq_iff_eq.2 rfl)
          · exact .inr ⟨beq_eq_false_iff_ne.2 (by omega), h, beq_iff_eq.2 ((slash_iff _).2 h47)⟩
        clear hcut HN HC1
        rcases htest with t1 | ⟨t1, hlt, t2⟩
        all_goals
          go_wp2_with (at_builtin; refine wpList_append_own _ rfl _ _ 22 rfl w.heap.size 9 i0 (.string ⟨#[]⟩) 1 16 Tryz.underlying22 hi hz0 hz1 hz2 rfl (by decide) _ _ _ rfl (World.ownsRow.alloc hown _) ⟨wr.heap.size, 0, none⟩ 1 1 [.string (s.extract fr k)] rfl rfl ?c1 ?c2 ?c3 hfit ?c5 ?_)
          case c1 =>
            intro j u hj
            match j, hj with
            | 0, hj => simp at hj; subst hj; simp [Addr.add]
          case c2 => intro u hu; simp at hu; subst hu; rfl
          case c3 => unfold maxLen; omega
          case c5 => have := HW.out; simp; omega
          intro v' w3 hown3 hgrow3 _
          have hb3 : Below w.heap.size w w3 := (hb.alloc (hb.size) _).grown hgrow3 (by have := HW.out; simp; omega) hown.ge
          have hown4 : OwnS w3 w.heap.size v' (done ++ [(s.extract fr k).data.toList]) := by
            show w3.ownsRow _ _ _ _ _ _
            rw [SV_snoc, List.length_append]; exact hown3
          clear hown3 hgrow3 hown hb
          go_wp2
          go_roundw
          case rel => exact ⟨k + 1, k + 1, _, by omega, Nat.le_refl _, by go_num, by go_num, hown4, HC2, hb3⟩
          case measure => simp [intOf]; omega
      · have hlt : k < s.size := by
          rcases Nat.lt_or_ge k s.size with h | h
          · exact h
          · exact absurd (.inl (by omega)) hcut
        have hne : s[k] ≠ 47 := fun e => hcut (.inr ⟨hlt, e⟩)
        have t1 : ((k : Int) == (s.size : Int)) = false := beq_eq_false_iff_ne.2 (by omega)
        have t2 : ((s[k].toNat : Int) == 47) = false := beq_eq_false_iff_ne.2 fun x => hne ((slash_iff _).1 x)
        have HC2 : Hid ((k + 1 ≤ s.size ∧ L = done ++ Pp.pieces (s.data.toList.drop fr) ∧ (47 : UInt8) ∉ (s.data.toList.take (k + 1)).drop fr) ∨ (k + 1 = s.size + 1 ∧ L = done)) :=
          hid (.inl ⟨by omega, HC1.out.1, pieces_miss s.data.toList fr k _ (at_data s k hlt) hne hfr HC1.out.2⟩)
        clear hcut hne HC1
        go_wp2
        go_roundw
        case rel => exact ⟨k + 1, fr, done, by omega, by omega, by go_num, rfl, hown, HC2, hb⟩
        case measure => simp [intOf]; omega
    · have HL : Hid (L = done) := hid (by
        rcases HC.out with ⟨h1, _⟩ | ⟨_, h1⟩
        · omega
        · exact h1)
      clear HC
      go_wp2
      go_ret
      exact ⟨_, rfl, by rw [HL.out]; exact hown, hb⟩
theorem run_append_str (w : World) (ty : TypeId) (B : Nat) (v : Value) (a : List (List UInt8)) (hown : OwnS w B v a) (ad : Addr) (c : Nat) (x : ByteArray) (hx : w.cell? (ad.add 0) = some (.string x)) (hfit : (a.length + 1) * 16 ≤ 140737488355328) (hB : B ≤ w.heap.size) :
    ∃ v' w', (Builtin.append_ #[22, 22] ty #[v, .slice (some ad) 1 c]).run Tryz.prog w = .ok v' w' ∧ OwnS w' B v' (a ++ [x.data.toList]) ∧ w.grownBy w' v.ownBlock ∧ ∀ k, v'.ownBlock = some k → v.ownBlock = some k ∨ w.heap.size ≤ k := by
  obtain ⟨i0, hi, hz0, hz1, hz2⟩ := info_parts Tryz.infoStr
  have hnews : ∀ j u, [Value.string x][j]? = some u → w.cell? (ad.add j) = some u := by
    intro j u hj
    match j, hj with
    | 0, hj => simp at hj; subst hj; exact hx
  have h1 : ∀ u ∈ [Value.string x], u.oneCell' = true := by intro u hu; simp at hu; subst hu; rfl
  have h63 : a.length + 1 ≤ maxLen := by unfold maxLen; omega
  obtain ⟨v', w', hr, h2, h3, _⟩ := run_append_own (P := Tryz.prog) w B 22 ty 9 i0 (.string ⟨#[]⟩) 1 16 Tryz.underlying22 hi hz0 hz1 hz2 rfl (by decide) v a.length (SV a) hown ad 1 c [.string x] rfl hnews h1 h63 hfit hB
  refine ⟨v', w', hr, ?_, h3, ?_⟩
  · show w'.ownsRow _ _ _ _ _ _
    rw [SV_snoc, List.length_append]; exact h2
  · intro k hk
    have hl1 : [Value.string x].length = 1 * i0.size := by rw [hz1]; rfl
    rcases hown.2 with ⟨rfl, hn⟩ | ⟨g, cap, cur, rfl, hbg, hg, hnc, hcm, hcs, htake⟩
    · have hr2 := run_append_nil (P := Tryz.prog) w 22 ty 9 i0 (.string ⟨#[]⟩) Tryz.underlying22 hi hz0 ad 1 c [.string x] hl1 hnews (by omega) (by omega) (by rw [hz2]; omega)
      rw [hr] at hr2
      injection hr2 with e1 e2
      subst e1
      cases hk
      exact .inr (Nat.le_refl _)
    · by_cases hroom : a.length + 1 ≤ cap
      · have hr2 := run_append_room (P := Tryz.prog) w 22 ty 9 i0 Tryz.underlying22 hi g a.length cap cur hg ad 1 c [.string x] hl1 hnews h1 hroom (by rw [hz1, hcs]; simp; omega)
        rw [hr] at hr2
        injection hr2 with e1 e2
        subst e1
        exact .inl hk
      · have hol : (SV a).length = a.length * i0.size := by rw [hz1]; exact hown.1
        have hr2 := run_append_grow (P := Tryz.prog) w 22 ty 9 i0 (.string ⟨#[]⟩) Tryz.underlying22 hi hz0 ⟨g, 0, none⟩ a.length cap (SV a) hol (World.ownsRow.cells hown (g := g) rfl) ad 1 c [.string x] hl1 hnews (by omega) (by omega) (growslice_fits (by omega) (by rw [hz2]; exact hfit))
        rw [hr] at hr2
        injection hr2 with e1 e2
        subst e1
        cases hk
        exact .inr (Nat.le_refl _)
theorem wpList_append_str {w : World} {ops : Array Oper} {rest : List Oper} {o : Oper} {a : Act} {Q : Exit → Act → World → Prop} (hgd : o.guard = none) (s x : Operand)
    (ho : o.op = .call { callee := .builtin .append, args := #[s, x], argTypes := #[22, 22] }) (B : Nat) (v : Value) (l : List (List UInt8)) (hs : a.eval s = v) (hown : OwnS w B v l)
    (ad : Addr) (c : Nat) (y : ByteArray) (hx : a.eval x = .slice (some ad) 1 c) (hy : w.cell? (ad.add 0) = some (.string y)) (hfit : (l.length + 1) * 16 ≤ 140737488355328) (hB : B ≤ w.heap.size)
    (h : ∀ v' w', OwnS w' B v' (l ++ [y.data.toList]) → w.grownBy w' v.ownBlock → (∀ k, v'.ownBlock = some k → v.ownBlock = some k ∨ w.heap.size ≤ k) → wpList Tryz.prog ops Q rest (a.put o.dst v') w') : wpList Tryz.prog ops Q (o :: rest) a w :=
  wpList_plain hgd fun _ hK => by
    obtain ⟨v', w', hr, h2, h3, h4⟩ := run_append_str w o.type B v l hown ad c y hy hfit hB
    unfold Oper.wp execOp
    simp only [ho, resolve, invoke, builtin, Sem.run_bind, Sem.run_pure, Result.andThen_ok, List.map_toArray, List.map_cons, List.map_nil, hs, hx, hr]
    exact hK _ _ (h v' w' h2 h3 h4)
end Go.Proofs.YtfjhjhjdneihbaaGreatDoor
