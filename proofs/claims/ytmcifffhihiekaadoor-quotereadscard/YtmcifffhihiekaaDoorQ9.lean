/-
  The walk of the document's Unquote where the text begins with a quote: for every string.
-/
import Derived.Test.YtmcifffhihiekaaDoorQ8
namespace Go.Proofs.YtmcifffhihiekaaDoor
open Go.RowKit

set_option maxRecDepth 100000 in
set_option maxHeartbeats 4000000 in
theorem refUnquote_quoted (s : ByteArray) (w : World) (hs : s.size ≤ 140737488355327) (h1 : 1 ≤ s.size) (h34 : s[0].toNat = 34) :
    Calls Tryd.prog 14 #[.string s] w fun e w' => e = .returned (tupR (Pq.unq s.data.toList)) ∧ Below w.heap.size w w' := by
  obtain ⟨i0, hi, hz0, hz1, hz2⟩ := info_parts Tryd.infoByteX
  have HU := hid (unq_yes s h1 h34)
  have he := empty_no s (by omega)
  have e34 : ((s[0].toNat : Int) != 34) = false := by rw [h34]; rfl
  have h1' : (0 : Int) < (s.size : Int) := by omega
  clear h34
  go_enter Tryd.func14, Tryd.ntmps14
  go_wp2
  go_loopw [5, 7] (fun v i wr => ∃ (k : Nat) (out : List UInt8), k ≤ s.size ∧ i = .int .i64 k ∧ out.length ≤ k ∧ Pq.rq out (s.data.toList.drop k) = Pq.rq [] (s.data.toList.drop 1) ∧
      wr.ownsRow w.heap.size 5 1 v out.length (Lib.byteCells out) ∧ Below w.heap.size w wr) (fun _ i _ => s.size - (intOf i).toNat)
  case atStart => exact ⟨1, [], h1, rfl, Nat.zero_le _, rfl, World.ownsRow_nil _ _ _ _, Below.refl _ _⟩
  case round =>
    obtain ⟨k, out, hk, rfl, hol, hq, hown, hb⟩ := hrel
    have hz := hb.size
    have HQ := hid hq
    clear hq
    by_cases hlt : k < s.size
    · have hlt' : (k : Int) < (s.size : Int) := by omega
      have dge : decide ((s.size : Int) ≤ (k : Int)) = false := decide_eq_false (by omega)
      have hc := s[k].toNat_lt
      by_cases c34 : s[k].toNat = 34
      · have t34 : ((s[k].toNat : Int) != 34) = false := by rw [c34]; rfl
        have t10 := ine (m := 10) (by omega : (s[k].toNat : Int) ≠ 10)
        have HR : Hid (Pq.unq s.data.toList = some (out, s.data.toList.drop (k + 1))) := hid (by
          rw [HU.out, ← HQ.out, drop_head s k hlt, UInt8.toNat_inj.1 (show s[k].toNat = (34 : UInt8).toNat from c34), Pq.rq_mark])
        have HX := hid (ext_drop' s (k + 1) (by omega))
        have hk1 : (k : Int) + 1 ≤ (s.size : Int) := by omega
        have hcv := conv_own (own_stays hown (Below.refl _ _).drew)
        clear c34 HQ HU hown
        go_wp2
        go_region
        all_goals go_wp2
        all_goals go_ret3
        all_goals exact ⟨by rw [HR.out]; exact ret_three rfl (congrArg Value.string HX.out) rfl, hb.drew⟩
      · have t34 : ((s[k].toNat : Int) != 34) = true := by rw [bne_iff_ne]; omega
        by_cases c10 : s[k].toNat = 10
        · have t10 : ((s[k].toNat : Int) != 10) = false := by rw [c10]; rfl
          have t10' := ieq (m := 10) (by omega : (s[k].toNat : Int) = 10)
          have HR : Hid (Pq.unq s.data.toList = none) := hid (by
            rw [HU.out, ← HQ.out, drop_head s k hlt, UInt8.toNat_inj.1 (show s[k].toNat = (10 : UInt8).toNat from c10), Pq.rq_end])
          clear c34 c10 HQ HU hown
          go_wp2
          go_ret3
          exact ⟨by rw [HR.out]; rfl, hb⟩
        · have t10 : ((s[k].toNat : Int) != 10) = true := by rw [bne_iff_ne]; omega
          by_cases c92 : s[k].toNat = 92
          · have t92 : ((s[k].toNat : Int) != 92) = false := by rw [c92]; rfl
            have hx : (s.extract k s.size).size = s.size - k := by simp
            have hx1 : 1 ≤ (s.extract k s.size).size := by omega
            have h92 : (s.extract k s.size)[0] = 92 := by
              rw [ext_head s k hlt hx1]
              exact UInt8.toNat_inj.1 (show s[k].toNat = (92 : UInt8).toNat from c92)
            have HC := hid (read_any (s.extract k s.size) wr (by unfold maxLen; omega) hx1 h92)
            have hr := rq_at s out k hlt c10 c34
            obtain ⟨bk, hbk⟩ : ∃ bk, bk = rbV (s.extract k s.size) := ⟨_, rfl⟩
            rw [← hbk] at HC hr
            obtain ⟨c, n⟩ := bk
            simp only at HC hr
            clear hx hx1 h92 c92 c10 c34 hbk
            rcases hr with ⟨rfl, hr⟩ | ⟨n1, n2, hr⟩
            · have HR : Hid (Pq.unq s.data.toList = none) := hid (by rw [HU.out, ← HQ.out, hr])
              clear HQ HU hown hr
              go_wp2_with fail
              refine HC.out.mono ?_
              rintro e w2 ⟨rfl, m, rfl⟩
              go_wp2
              go_ret3
              exact ⟨by rw [HR.out]; rfl, below_drewN hb _⟩
            · have HR := hid (HQ.out.symm.trans hr)
              have hn0 := ine (m := 0) (by omega : (n : Int) ≠ 0)
              clear HQ hr
              go_wp2_with fail
              refine HC.out.mono ?_
              rintro e w2 ⟨rfl, m, rfl⟩
              have hown2 := own_stays hown (below_drewN (Below.refl _ wr) m)
              have hb2 := below_drewN hb m
              have hzm := hb2.size
              clear HC hown hb
              generalize wr.drewN m = wd at hown2 hb2 hzm ⊢
              go_wp2_with (at_builtin; refine wpList_append_own _ rfl _ _ 35 rfl w.heap.size 5 i0 (.int .u8 0) 1 1 Tryd.underlying35 hi hz0 hz1 hz2 rfl (by decide) _ _ _ rfl (hown2.alloc _) ⟨wd.heap.size, 0, none⟩ 1 1 [.int .u8 c.toNat] rfl rfl ?a1 ?a2 ?a3 ?a4 ?a5 ?_)
              case a1 =>
                intro j u hj
                match j, hj with
                | 0, hj => simp at hj; subst hj; simp [Addr.add]
              case a2 => intro u hu; simp at hu; subst hu; rfl
              case a3 => unfold maxLen; omega
              case a4 => omega
              case a5 => simp; omega
              intro v' w3 hown3 hgrow3 _
              have hb3 : Below w.heap.size w w3 := (hb2.alloc hzm _).grown hgrow3 (by simp; omega) (own_ge hown2)
              have hown4 := byte_own (c := c) hown3
              have HO4 := hid hown4
              clear hown3 hgrow3 hown2 hb2 hown4
              go_wp2
              go_roundw
              case rel => exact ⟨k + n, out ++ [c], by omega, by go_num, by simp; omega, HR.out.symm, HO4.out, hb3⟩
              case measure => simp [intOf]; omega
          · have t92 : ((s[k].toNat : Int) != 92) = true := by rw [bne_iff_ne]; omega
            have HR := hid (HQ.out.symm.trans (rq_self s out k hlt c10 c34 c92))
            clear c34 c10 c92 HQ
            go_wp2_with (at_builtin; refine wpList_append_own _ rfl _ _ 35 rfl w.heap.size 5 i0 (.int .u8 0) 1 1 Tryd.underlying35 hi hz0 hz1 hz2 rfl (by decide) _ _ _ rfl (hown.alloc _) ⟨wr.heap.size, 0, none⟩ 1 1 [.int .u8 s[k].toNat] rfl rfl ?b1 ?b2 ?b3 ?b4 ?b5 ?_)
            case b1 =>
              intro j u hj
              match j, hj with
              | 0, hj => simp at hj; subst hj; simp [Addr.add]
            case b2 => intro u hu; simp at hu; subst hu; rfl
            case b3 => unfold maxLen; omega
            case b4 => omega
            case b5 => simp; omega
            intro v' w3 hown3 hgrow3 _
            have hb3 : Below w.heap.size w w3 := (hb.alloc hz _).grown hgrow3 (by simp; omega) (own_ge hown)
            have hown4 := byte_own (c := s[k]) hown3
            have HO4 := hid hown4
            clear hown3 hgrow3 hown hb hown4
            go_wp2
            go_roundw
            case rel => exact ⟨k + 1, out ++ [s[k]], by omega, by go_num, by simp; omega, HR.out.symm, HO4.out, hb3⟩
            case measure => simp [intOf]; omega
    · have HR : Hid (Pq.unq s.data.toList = none) := hid (by rw [HU.out, ← HQ.out, nil_of s k (by omega), Pq.rq_nil])
      have dlt : decide ((k : Int) < (s.size : Int)) = false := decide_eq_false (by omega)
      have dge : decide ((s.size : Int) ≤ (k : Int)) = true := decide_eq_true (by omega)
      clear HQ HU hown
      go_wp2
      go_ret3
      exact ⟨by rw [HR.out]; rfl, hb⟩

theorem refUnquote_any (s : ByteArray) (w : World) (hs : s.size ≤ 140737488355327) :
    Calls Tryd.prog 14 #[.string s] w fun e w' => e = .returned (tupR (Pq.unq s.data.toList)) ∧ Below w.heap.size w w' := by
  by_cases h0 : s.size = 0
  · exact refUnquote_plain s w hs (.inl h0)
  · by_cases h34 : s[0].toNat = 34
    · exact refUnquote_quoted s w hs (by omega) h34
    · exact refUnquote_plain s w hs (.inr ⟨by omega, h34⟩)
end Go.Proofs.YtmcifffhihiekaaDoor
