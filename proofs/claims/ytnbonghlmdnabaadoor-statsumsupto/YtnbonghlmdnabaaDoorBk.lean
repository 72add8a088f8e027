/-
  The walks of the laws' mine and of the document's Table.
-/
import Derived.Test.YtnbonghlmdnabaaDoorBe
import Derived.Test.YtnbonghlmdnabaaDoorCq
import Derived.Deep.RegionHeld3
import Derived.Deep.AppendLies
import Derived.Test.YtnbonghlmdnabaaDoorC9
namespace Go.Proofs.YtnbonghlmdnabaaDoor.Sx
open Go.RowKit

theorem Tryd.infoCt : (Tryd.prog.info? 38).map (fun i => (i.zero, i.size, i.bytes)) = some (some (.agg #[.string .empty, .int .i64 0, .int .i64 0]), 3, 32) := by kernel_rfl
abbrev OwnK (w : World) (B : Nat) (v : Value) (l : List Ct) : Prop := w.ownsRow B 38 3 v l.length (ctsC l)
set_option maxHeartbeats 4000000 in
set_option maxRecDepth 100000 in
theorem mine_any {v : Value} {s : List Ct} {w : World} (hr : RdK w v s) (hl : s.length ≤ 1099511627776) :
    Calls Tryd.prog 5 #[v] w fun e w' => ∃ v', e = .returned v' ∧ OwnK w' w.heap.size v' s ∧ Below w.heap.size w w' := by
  obtain ⟨a, c, rfl⟩ := hr.shape
  obtain ⟨i0, hi0, hz0, hz1, hz2⟩ := info_parts Tryd.infoCt
  have HR := hid hr
  clear hr
  go_enter Tryd.func5, Tryd.ntmps5
  go_wp2
  go_loopw [3, 4] (fun o i wr => ∃ k : Nat, k ≤ s.length ∧ i = .int .i64 k ∧ Hid (OwnK wr w.heap.size o (s.take k)) ∧ Hid (Below w.heap.size w wr)) (fun _ i _ => s.length - (intOf i).toNat)
  case atStart => exact ⟨0, Nat.zero_le _, rfl, World.ownsRow_nil _ _ _ _, Below.refl _ _⟩
  case round =>
    obtain ⟨k, hk, rfl, HO, HB⟩ := hrel
    have hlen : (s.take k).length = k := by rw [List.length_take]; omega
    have hO := HO.out
    unfold OwnK at hO
    rw [hlen] at hO
    obtain ⟨ao, co, e⟩ := own_shape hO
    subst e
    have HLEN := hid hlen
    clear hlen
    by_cases hlt : k < s.length
    · obtain ⟨x, hx⟩ : ∃ x, s[k]? = some x := ⟨_, List.getElem?_eq_getElem hlt⟩
      obtain ⟨b, o, rfl, hbl, _⟩ := rdK_at HR.out hx
      obtain ⟨b', o', eb, _, c0, c1, c2⟩ := rdK_at (RdX.below HR.out HB.out) hx
      cases eb
      have hnb : (Value.slice ao k co).ownBlock ≠ some b := fun h => by have := own_ge hO _ h; omega
      have hbr : b < wr.heap.size := Nat.lt_of_lt_of_le hbl HB.out.size
      have hBw := HB.out.size
      have HTK : Hid (s.take (k + 1) = s.take k ++ [x]) := hid (take_one hx)
      have i1 : (0 : Int) ≤ (k : Int) := by omega
      have i2 : (k : Int) < (s.length : Int) := by omega
      have HOO := hid hO
      clear hx hO
      go_wp2_with fail
      go_region_held3 (fun w' => w'.cell? ⟨b, o + k * 3, none⟩ = some (.string x.nm) ∧ w'.cell? ⟨b, o + k * 3 + 1, none⟩ = some (.int .i64 x.a) ∧ w'.cell? ⟨b, o + k * 3 + 2, none⟩ = some (.int .i64 x.d))
        (first
          | go_keep
          | (go_split_ands
             refine ⟨?_, ?_, ?_⟩
             · (rw [hgrow.cell_far _ (by simp; omega) (Ne.symm hnb)]; assumption)
             · (rw [hgrow.cell_far _ (by simp; omega) (Ne.symm hnb)]; assumption)
             · (rw [hgrow.cell_far _ (by simp; omega) (Ne.symm hnb)]; assumption)))
        ((refine step_append_lies _ (by rfl) _ _ _ (by rfl) w.heap.size 38 i0 _ 3 32 Tryd.underlying23 hi0 hz0 hz1 hz2 rfl (by omega) (.slice ao k co) k (ctsC (s.take k)) (by rfl) ((HOO.out.alloc _).drew)
            ⟨wr.heap.size, 0, none⟩ 1 1 [.string x.nm, .int .i64 x.a, .int .i64 x.d] (by rfl) (by rfl) (World.news_of_block (cs := #[.string x.nm, .int .i64 x.a, .int .i64 x.d]) (t := 38) (fr := (0, 0)) (heap_alloc_new wr _)) (by simp [Value.oneCell'])
            (by omega) (by unfold maxLen; omega) (by omega) (by simp; omega) (wr.heap.size + 1) (by simp) ?_; intro gg cap w2 hown2 hgrow hat hlt2))
      have HO2 : Hid (OwnK w2 w.heap.size (.slice (some ⟨gg, 0, none⟩) (k + 1) cap) (s.take (k + 1))) := hid (by
        show World.ownsRow _ _ _ _ _ _ _
        rw [HTK.out, List.length_append, HLEN.out, ctsC_append]
        exact hown2)
      have HB2 : Hid (Below w.heap.size w w2) := hid ((HB.out.trans (below_drewN ((Below.refl w.heap.size wr).alloc hBw _) 1)).grown hgrow (by simp; omega) (own_ge HOO.out))
      clear hown2 hgrow hat hlt2
      go_wp2
      go_roundw
      case rel => exact ⟨k + 1, by omega, by go_num, HO2, HB2⟩
      case measure => simp [intOf]; omega
    · have HE : Hid (OwnK wr w.heap.size (.slice ao k co) s) := hid (by
        have h := HO.out
        rw [List.take_of_length_le (by omega)] at h
        exact h)
      go_wp2
      go_ret
      exact ⟨_, rfl, HE.out, HB.out⟩
end Go.Proofs.YtnbonghlmdnabaaDoor.Sx
