/-
  The walk of the document's Invert.
-/
import Derived.Test.YtajpjhojfhegoaaDoorC3
namespace Go.Proofs.YtajpjhojfhegoaaDoor
open Go.RowKit
open Ed (Ch Run Pr)

attribute [local go_sem ↓] Go.wp_at_zero Go.wp_at_succ
set_option maxHeartbeats 4000000 in
set_option maxRecDepth 100000 in
theorem refInvert_any {v : Value} {s : List Ch} {w : World} (hr : RdC w v s) (hl : s.length ≤ 4398046510976) :
    Calls Tryd.prog 23 #[v] w fun e w' => ∃ v', e = .returned v' ∧ OwnC w' w.heap.size v' (s.map Ed.inv) ∧ Below w.heap.size w w' := by
  obtain ⟨a, c, rfl⟩ := hr.shape
  obtain ⟨i0, hi0, hz0, hz1, hz2⟩ := info_parts Tryd.infoChange
  have HR := hid hr
  clear hr
  go_enter Tryd.func23, Tryd.ntmps23
  go_wp2
  go_loopw [3, 4] (fun o i wr => ∃ k : Nat, k ≤ s.length ∧ i = .int .i64 k ∧ Hid (OwnC wr w.heap.size o ((s.take k).map Ed.inv)) ∧ Hid (Below w.heap.size w wr)) (fun _ i _ => s.length - (intOf i).toNat)
  case atStart => exact ⟨0, Nat.zero_le _, rfl, World.ownsRow_nil _ _ _ _, Below.refl _ _⟩
  case round =>
    obtain ⟨k, hk, rfl, HO, HB⟩ := hrel
    have hlen : ((s.take k).map Ed.inv).length = k := by rw [List.length_map, List.length_take]; omega
    have hO := HO.out
    unfold OwnC at hO
    rw [hlen] at hO
    obtain ⟨ao, co, e⟩ := own_shape hO
    subst e
    have HLEN := hid hlen
    clear hlen
    by_cases hlt : k < s.length
    · obtain ⟨x, hx⟩ : ∃ x, s[k]? = some x := ⟨_, List.getElem?_eq_getElem hlt⟩
      obtain ⟨b, o, rfl, hbl, _⟩ := rdC_at HR.out hx
      obtain ⟨b', o', eb, _, c0, c1, c2, c3⟩ := rdC_at (HR.out.below HB.out) hx
      cases eb
      have hnb : (Value.slice ao k co).ownBlock ≠ some b := fun h => by have := own_ge hO _ h; omega
      have hbr : b < wr.heap.size := Nat.lt_of_lt_of_le hbl HB.out.size
      have hBw := HB.out.size
      have HTK : Hid (((s.take (k + 1)).map Ed.inv) = (s.take k).map Ed.inv ++ [Ed.inv x]) := hid (by rw [List.take_add_one, hx]; simp)
      have i1 : (0 : Int) ≤ (k : Int) := by omega
      have i2 : (k : Int) < (s.length : Int) := by omega
      have HOO := hid hO
      clear hx hO
      go_wp2_with fail
      go_region_held3 (fun w' => w'.cell? ⟨b, o + k * 4, none⟩ = some (.int .i64 x.a) ∧ w'.cell? ⟨b, o + k * 4 + 1, none⟩ = some (.int .i64 x.n) ∧ w'.cell? ⟨b, o + k * 4 + 2, none⟩ = some (.int .i64 x.b) ∧ w'.cell? ⟨b, o + k * 4 + 3, none⟩ = some (.int .i64 x.m))
        (first
          | go_keep
          | (go_split_ands
             refine ⟨?_, ?_, ?_, ?_⟩
             · (rw [hgrow.cell_far _ (by simp; omega) (Ne.symm hnb)]; assumption)
             · (rw [hgrow.cell_far _ (by simp; omega) (Ne.symm hnb)]; assumption)
             · (rw [hgrow.cell_far _ (by simp; omega) (Ne.symm hnb)]; assumption)
             · (rw [hgrow.cell_far _ (by simp; omega) (Ne.symm hnb)]; assumption)))
        ((refine step_append_lies _ (by rfl) _ _ _ (by rfl) w.heap.size 62 i0 _ 4 32 Tryd.underlying22 hi0 hz0 hz1 hz2 rfl (by omega) (.slice ao k co) k (csC ((s.take k).map Ed.inv)) (by rfl) ((HOO.out.alloc _).drew)
            ⟨wr.heap.size, 0, none⟩ 1 1 [.int .i64 x.b, .int .i64 x.m, .int .i64 x.a, .int .i64 x.n] (by rfl) (by rfl) (World.news_of_block (cs := #[.int .i64 x.b, .int .i64 x.m, .int .i64 x.a, .int .i64 x.n]) (t := 62) (fr := (0, 0)) (heap_alloc_new wr _)) (by simp [Value.oneCell'])
            (by omega) (by unfold maxLen; omega) (by omega) (by simp; omega) (wr.heap.size + 1) (by simp) ?_; intro gg cap w2 hown2 hgrow hat hlt2))
      have HO2 : Hid (OwnC w2 w.heap.size (.slice (some ⟨gg, 0, none⟩) (k + 1) cap) ((s.take (k + 1)).map Ed.inv)) := hid (by
        show World.ownsRow _ _ _ _ _ _ _
        rw [HTK.out, List.length_append, HLEN.out, csC_append]
        exact hown2)
      have HB2 : Hid (Below w.heap.size w w2) := hid ((HB.out.trans (below_drewN ((Below.refl w.heap.size wr).alloc hBw _) 1)).grown hgrow (by simp; omega) (own_ge HOO.out))
      clear hown2 hgrow hat hlt2
      go_wp2
      go_roundw
      case rel => exact ⟨k + 1, by omega, by go_num, HO2, HB2⟩
      case measure => simp [intOf]; omega
    · have HE : Hid (OwnC wr w.heap.size (.slice ao k co) (s.map Ed.inv)) := hid (by
        have h := HO.out
        rw [List.take_of_length_le (by omega)] at h
        exact h)
      go_wp2
      go_ret
      exact ⟨_, rfl, HE.out, HB.out⟩
end Go.Proofs.YtajpjhojfhegoaaDoor
