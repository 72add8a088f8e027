/-
  The walks of the program's quoted and columnsOf.
-/
import Derived.Test.YtnbonghlmdnabaaDoorB5
import Derived.Test.YtnbonghlmdnabaaDoorJq
import Derived.Test.YtnbonghlmdnabaaDoorXQ4
namespace Go.Proofs.YtnbonghlmdnabaaDoor.Sx
open Go.RowKit

def qB (c : Ct) : ByteArray := bB (q c)
theorem qB_take {l : List Ct} {k : Nat} {x : Ct} (h : l[k]? = some x) : (l.take (k + 1)).map qB = (l.take k).map qB ++ [qB x] := by
  rw [take_one h, List.map_append]; rfl
set_option maxHeartbeats 2000000 in
theorem quoted_any {w : World} {v : Value} {l : List Ct} (hr : RdK w v l) (hn : l.length ≤ 65536) (hs : ∀ x ∈ l, x.nm.size ≤ 35184371999999) :
    Calls Tryd.prog 37 #[v] w fun e w' => ∃ u, e = .returned u ∧ OwnT w' w.heap.size u (l.map qB) ∧ Below w.heap.size w w' := by
  obtain ⟨a, c, rfl⟩ := hr.shape
  obtain ⟨i0, hi, hz0, hz1, hz2⟩ := info_parts Tryd.infoStr
  obtain ⟨n, hnn⟩ : ∃ n, n = l.length := ⟨_, rfl⟩
  have HR := hid hr
  have HN := hid hnn
  have HS := hid hs
  rw [← hnn] at HR hn ⊢
  clear hr hnn hs
  go_enter Tryd.func37, Tryd.ntmps37
  go_wp2_with (at_make; refine wpList_make_own _ rfl _ _ 81 rfl w.heap.size 9 i0 (.string .empty) 1 Tryd.underlying81 hi hz0 hz1 .i64 .i64 _ n rfl rfl rfl (by rw [hz2]; omega) (by unfold maxLen; omega) (Nat.le_refl _) ?_; intro w1 hown1 hgrow1; have HB1 := hid ((Below.refl w.heap.size w).grown hgrow1 (Nat.le_refl _) (fun k hk => by cases hk)); have HO1 := hid hown1; clear hown1 hgrow1)
  go_loopw [3, 11] (fun nv i wr => ∃ k : Nat, k ≤ n ∧ i = .int .i64 k ∧ Hid (OwnT wr w.heap.size nv ((l.take k).map qB)) ∧ Hid (Below w.heap.size w wr)) (fun _ i _ => n - (intOf i).toNat)
  case atStart => exact ⟨0, Nat.zero_le _, rfl, hid (by rw [List.take_zero]; exact HO1.out), HB1⟩
  case round =>
    obtain ⟨k, hk, rfl, HO, HB⟩ := hrel
    clear HO1 HB1
    by_cases hlt : k < n
    · obtain ⟨x, hx⟩ : ∃ x, l[k]? = some x := ⟨_, List.getElem?_eq_getElem (by have := HN.out; omega)⟩
      have hr2 : RdK wr (.slice a n c) l := RdX.below HR.out HB.out
      obtain ⟨b1, o1, e1, hb1, d0, d1, d2⟩ := rdK_at hr2 hx
      subst e1
      have HQ := hid (Cx.quote_any x.nm (wr.alloc (ctO x.nm x.a x.d)) (HS.out x (List.mem_of_getElem? hx)))
      have HNB := hid (one_new wr (ctO x.nm x.a x.d))
      have HT := hid (qB_take hx)
      have hLl : ((l.take k).map qB).length = k := by rw [List.length_map, List.length_take]; have := HN.out; omega
      have i1 : (0 : Int) ≤ (k : Int) := by omega
      have i2 : (k : Int) < (n : Int) := by omega
      have HQB : Hid ((⟨(Pq.quote x.nm.data.toList).toArray⟩ : ByteArray) = qB x) := hid rfl
      rw [HQB.out] at HQ
      obtain ⟨L, hL⟩ : ∃ L, L = (l.take k).map qB := ⟨_, rfl⟩
      rw [← hL] at HO HT hLl
      clear hx hr2 hb1 HQB hL
      generalize qB x = Q at HQ HT
      go_wp2_with fail
      obtain ⟨E, hE⟩ : ∃ E, E = wr.heap.size := ⟨_, rfl⟩
      rw [← hE]
      clear hE
      generalize wr.alloc (.cells #[.string x.nm, .int .i64 x.a, .int .i64 x.d] 38) = w1 at HQ HNB ⊢
      refine HQ.out.mono ?_
      rintro e w2 ⟨rfl, hb2⟩
      have hb3 := HNB.out.1.trans (hb2.mono HNB.out.1.size)
      have HB2 := hid (HB.out.trans (hb3.mono HB.out.size))
      have HO2 := hid (own_stays HO.out hb3)
      have HBE := hid (one_new w2 (.cells #[.string Q] 9))
      clear hb2 hb3 HNB HQ HO HB d0 d1 d2
      go_wp2_with (at_builtin; refine wpList_append_st rfl _ _ rfl w.heap.size _ L rfl (own_stays HO2.out HBE.out.1) w2.heap.size Q rfl HBE.out.2 (by omega) (Nat.le_trans HB2.out.size HBE.out.1.size) ?_; intro v3 w3 hO3 _ _ hb3; have HO3 := hid hO3; have HB3 := hid ((HB2.out.trans (HBE.out.1.mono HB2.out.size)).trans hb3); clear hO3 hb3)
      go_roundw
      case rel => exact ⟨k + 1, by omega, by go_num, by rw [HT.out]; exact HO3, HB3⟩
      case measure => simp [intOf]; omega
    · have HT : Hid (l.take k = l) := hid (List.take_of_length_le (by have := HN.out; omega))
      rw [HT.out] at HO
      go_wp2
      go_ret
      exact ⟨_, rfl, HO.out, HB.out⟩
end Go.Proofs.YtnbonghlmdnabaaDoor.Sx
