/-
  Headings: that they come back, and where (what they tell is not asked here).
-/
import Derived.Test.YtddmfdjkkikapaaGreatDoorShelf2
import Derived.Test.YtddmfdjkkikapaaGreatDoorGrJ6
import Derived.Test.YtddmfdjkkikapaaGreatDoorGrC4
import Derived.Deep.LoopGhost
import Derived.Deep.DeepCutAuto
import Derived.Deep.Cut
import Derived.Deep.CutRange
import Derived.Lib.SplitLaws
import Derived.Lib.Replace
namespace Go.Proofs.YtddmfdjkkikapaaGreatDoor
open Go.RowKit

/-- internal/bytealg.MaxLen holds some number -/
def MxV (w : World) : Prop := ∃ m : Int, w.cell? ⟨1, 0, none⟩ = some (.int .i64 m)
theorem MxV.below {w w' : World} (h : MxV w) (hb : Below w.heap.size w w') : MxV w' := by
  obtain ⟨m, hm⟩ := h
  refine ⟨m, (hb.cell (p := ⟨1, 0, none⟩) ?_).trans hm⟩
  exact lt_of_cell hm
def IsB (e : Ending) : Prop := ∃ b, e = .returned (.bool b)
def IsAt (n : Nat) (e : Ending) : Prop := ∃ (c : Nat) (f : Bool), c ≤ n ∧ e = .returned (.tuple #[.int .i64 c, .bool f])
theorem isHeading_some (s : ByteArray) (w : World) : Calls Tryz.prog 80 #[.string s] w fun e w' => IsB e ∧ w' = w := by
  by_cases hs : s.size = 0
  · have hz : (s.toList == []) = true := by
      rw [beq_iff_eq, ByteArray.toList_eq]
      exact List.length_eq_zero_iff.1 (by rw [Array.length_toList]; exact hs)
    clear hs
    go_enter Tryz.func80, Tryz.ntmps80
    go_wp2_with fail
    go_ret
    exact ⟨⟨_, rfl⟩, rfl⟩
  · have hz : (s.toList == []) = false := by
      rw [beq_eq_false_iff_ne]
      intro e
      rw [ByteArray.toList_eq] at e
      have := congrArg List.length e
      rw [Array.length_toList] at this
      exact hs this
    have h0 : (0 : Int) < (s.size : Int) := by omega
    clear hs
    go_enter Tryz.func80, Tryz.ntmps80
    go_wp2_with fail
    all_goals
      go_ret
      exact ⟨⟨_, rfl⟩, rfl⟩
theorem printable_some (s : ByteArray) (w : World) (hs : s.size ≤ maxLen) : Calls Tryz.prog 104 #[.string s] w fun e w' => ∃ k : Nat, k ≤ s.size ∧ e = .returned (.int .i64 k) ∧ w' = w := by
  unfold maxLen at hs
  go_enter Tryz.func104, Tryz.ntmps104
  go_wp2_with fail
  go_loopw [3, 6] (fun _ ii wr => ∃ (k : Nat), k ≤ s.size ∧ ii = .int .i64 k ∧ w = wr) (fun _ ii _ => s.size - (intOf ii).toNat)
  case atStart => exact ⟨0, Nat.zero_le _, rfl, rfl⟩
  case round =>
    obtain ⟨k, hk, rfl, rfl⟩ := hrel
    by_cases hlt : k < s.size
    · have i1 : (0 : Int) ≤ (k : Int) := by omega
      have i2 : (k : Int) < (s.size : Int) := by omega
      by_cases h1 : (s[k].toNat : Int) < 32
      · go_wp2_with fail
        go_ret
        exact ⟨k, hk, rfl, rfl⟩
      · by_cases h2 : ((s[k].toNat : Int) == 127) = true
        · go_wp2_with fail
          go_ret
          exact ⟨k, hk, rfl, rfl⟩
        · have h3 : ((s[k].toNat : Int) == 127) = false := by simpa using h2
          clear h2
          go_wp2_with fail
          go_roundw
          case rel => exact ⟨k + 1, by omega, by go_num, by first | rfl | trivial⟩
          case measure => simp [intOf]; omega
    · obtain rfl : k = s.size := by omega
      go_wp2_with fail
      go_ret
      exact ⟨_, Nat.le_refl _, rfl, rfl⟩
theorem replaceK_le (old new : List UInt8) : ∀ (k : Nat) (s : List UInt8), (Lib.replaceK old new k s).length ≤ s.length + k * new.length
  | 0, s => by rw [Lib.replaceK]; omega
  | k + 1, s => by
    rw [Lib.replaceK]
    split
    · omega
    · rw [List.length_append, List.length_append, List.length_take]
      have h1 := replaceK_le old new k (s.drop ((Lib.index s old).toNat + old.length))
      rw [List.length_drop] at h1
      rw [Nat.succ_mul]
      omega
theorem bareB_le (s : ByteArray) : (Cx.bareB s).size ≤ s.size := by
  unfold Cx.bareB
  split
  · rw [ByteArray.size_extract]; omega
  · exact Nat.le_refl _
set_option maxHeartbeats 1000000 in
theorem heading_some (s : ByteArray) (w : World) (hs : s.size ≤ maxLen) (hm : MxV w) : Calls Tryz.prog 62 #[.string s] w fun e w' => (∃ t, e = .returned (.string t)) ∧ Below w.heap.size w w' := by
  have HBR := hid (fun w1 => Cx.bare_any s w1 hs)
  have hle := bareB_le s
  generalize Cx.bareB s = t at HBR hle
  unfold maxLen at hs
  obtain ⟨m, hm⟩ := hm
  obtain ⟨K, hK⟩ : ∃ K : Nat, K = min t.size 40 := ⟨_, rfl⟩
  have i1 : min (t.size : Int) 40 = (K : Int) := by omega
  have i2 : (0 : Int) ≤ (K : Int) := by omega
  have i3 : (K : Int) ≤ (t.size : Int) := by omega
  have hsz : (t.extract 0 K).size ≤ 40 := by rw [ByteArray.size_extract]; omega
  have HRP := hid (Tryz.strings_ReplaceAll (t.extract 0 K) ⟨#[9]⟩ ⟨#[32]⟩ m w (by omega) hm (by decide) (by
    have h1 := Lib.countB_le ⟨#[9]⟩ (by decide) _ (t.extract 0 K) (Nat.le_refl _)
    have h2 : (⟨#[32]⟩ : ByteArray).size = 1 := rfl
    rw [h2]
    omega))
  have HRL : Hid ((⟨(Lib.replaceAll (t.extract 0 K).data.toList [9] [32]).toArray⟩ : ByteArray).size ≤ maxLen) := hid (by
    have h1 := replaceK_le [9] [32] (Lib.replaceNum (t.extract 0 K).data.toList [9] (-1)) (t.extract 0 K).data.toList
    have h2 : Lib.replaceNum (t.extract 0 K).data.toList [9] (-1) = Lib.countB (t.extract 0 K) ⟨#[9]⟩ := rfl
    have h3 := Lib.countB_le ⟨#[9]⟩ (by decide) _ (t.extract 0 K) (Nat.le_refl _)
    have h4 : (Lib.replaceAll (t.extract 0 K).data.toList [9] [32]).length ≤ 80 := by
      unfold Lib.replaceAll Lib.replace
      rw [if_neg (by decide)]
      have h5 : (t.extract 0 K).data.toList.length = (t.extract 0 K).size := by rw [Array.length_toList]; rfl
      have h6 : ([32] : List UInt8).length = 1 := rfl
      rw [h5, h6] at h1
      rw [h2] at h1 ⊢
      omega
    have h7 : (⟨(Lib.replaceAll (t.extract 0 K).data.toList [9] [32]).toArray⟩ : ByteArray).size = (Lib.replaceAll (t.extract 0 K).data.toList [9] [32]).length := by
      show (Lib.replaceAll (t.extract 0 K).data.toList [9] [32]).toArray.size = _
      exact List.size_toArray
    rw [h7]
    unfold maxLen
    omega)
  clear hK hs hle
  have HRP2 : Hid (Calls Tryz.prog 102 #[.string (t.extract 0 K), .string ⟨#[9]⟩, .string ⟨#[32]⟩] w fun e w' => e = .returned (.string ⟨(Lib.replaceAll (t.extract 0 K).data.toList [9] [32]).toArray⟩) ∧ Below w.heap.size w w') := HRP
  clear HRP
  generalize (⟨(Lib.replaceAll (t.extract 0 K).data.toList [9] [32]).toArray⟩ : ByteArray) = u at HRP2 HRL
  have HPR := hid (fun w1 => printable_some u w1 HRL.out)
  go_enter Tryz.func62, Tryz.ntmps62
  go_wp2_with fail
  refine (HBR.out w).mono ?_
  rintro e w1 ⟨rfl, h1⟩
  rw [h1]
  clear h1
  go_wp2_with fail
  refine HRP2.out.mono ?_
  rintro e w2 ⟨rfl, hb2⟩
  go_wp2_with fail
  refine (HPR.out w2).mono ?_
  rintro e w3 ⟨p, hp, rfl, h3⟩
  rw [h3]
  have j1 : (0 : Int) ≤ (p : Int) := by omega
  have j2 : (p : Int) ≤ (u.size : Int) := by omega
  have hul := HRL.out
  have HTR := hid (Tryz.strings_TrimRight_one (u.extract 0 p) 32 (by decide) w2 (by rw [ByteArray.size_extract]; unfold maxLen at hul; omega))
  clear h3 hul hp
  go_wp2_with fail
  refine HTR.out.mono ?_
  rintro e w4 ⟨rfl, h4⟩
  rw [h4]
  clear h4
  go_wp2_with fail
  go_ret
  exact ⟨⟨_, rfl⟩, hb2⟩
theorem Tryz.infoInt1 : (Tryz.prog.info? 3).map (fun i => (i.zero, i.size, i.bytes)) = some (some (.int .i64 0), 1, 8) := by kernel_rfl
theorem wpList_append_i1 {w : World} {ops : Array Oper} {rest : List Oper} {o : Oper} {a : Act} {Q : Exit → Act → World → Prop} (hgd : o.guard = none) (s x : Operand)
    (ho : o.op = .call { callee := .builtin .append, args := #[s, x], argTypes := #[106, 106] }) (B : Nat) (v : Value) (l : List Int) (hs : a.eval s = v) (hown : OwnI w B v l)
    (g : Nat) (t : Int) (hx : a.eval x = .slice (some ⟨g, 0, none⟩) 1 1) (hg : w.heap[g]? = some (.cells #[.int .i64 t] 3)) (hfit : l.length < 8796093022200) (hB : B ≤ w.heap.size)
    (h : ∀ v' w', OwnI w' B v' (l ++ [t]) → Below B w w' → wpList Tryz.prog ops Q rest (a.put o.dst v') w') : wpList Tryz.prog ops Q (o :: rest) a w := by
  obtain ⟨i0, hi, hz0, hz1, hz2⟩ := info_parts Tryz.infoInt1
  refine wpList_append_lies _ hgd s x 106 ho B 3 i0 (.int .i64 0) 1 8 Tryz.underlying106 hi hz0 hz1 hz2 rfl (by decide) v l.length (isC l) hs hown ⟨g, 0, none⟩ 1 1 [.int .i64 t] hx rfl ?_ ?_ (by decide) ?_ ?_ hB w.heap.size rfl ?_
  · exact World.news_of_block (cs := #[.int .i64 t]) hg
  · have := isC_one [t]
    simpa [isC] using this
  · unfold maxLen; omega
  · omega
  · intro g' cap w' g2 g3 g4 _
    refine h _ w' ?_ ((Below.refl _ _).grown g3 hB (own_ge hown))
    show w'.ownsRow _ _ _ _ _ _
    rw [List.length_append, isC_append]
    exact g2
set_option maxHeartbeats 1000000 in
theorem headings_some {w : World} {v : Value} {a : List ByteArray} (ha : RdT w v a) (hla : a.length < 8796093022200) :
    Calls Tryz.prog 59 #[v] w fun e w' => ∃ v' ps, e = .returned v' ∧ OwnI w' w.heap.size v' ps ∧ (∀ p ∈ ps, 0 ≤ p ∧ p < (a.length : Int)) ∧ ps.length ≤ a.length ∧ Below w.heap.size w w' := by
  obtain ⟨av, cv, rfl⟩ := ha.shape
  have HA := hid ha
  obtain ⟨n, hn⟩ : ∃ n, n = a.length := ⟨_, rfl⟩
  have HN := hid hn
  rw [← hn] at hla ⊢
  clear ha hn
  go_enter Tryz.func59, Tryz.ntmps59
  go_wp2_with fail
  go_loopw [3, 4, 5, 8] (fun vo _ _ ii wr => ∃ (k : Nat) (ps : List Int), k ≤ n ∧ ii = .int .i64 k ∧ Hid (OwnI wr w.heap.size vo ps) ∧ Hid ((∀ p ∈ ps, 0 ≤ p ∧ p < (n : Int)) ∧ ps.length ≤ k) ∧ Hid (Below w.heap.size w wr)) (fun _ _ _ ii _ => n - (intOf ii).toNat)
  case atStart => exact ⟨0, [], Nat.zero_le _, rfl, hid (World.ownsRow_nil _ _ _ _), hid ⟨by simp, by simp⟩, Below.refl _ _⟩
  case round =>
    obtain ⟨k, ps, hk, rfl, HO, HP, HB⟩ := hrel
    obtain ⟨ao, co, rfl⟩ := own_shape HO.out
    by_cases hlt : k < n
    · obtain ⟨x, hx⟩ : ∃ x, a[k]? = some x := ⟨_, List.getElem?_eq_getElem (by have := HN.out; omega)⟩
      obtain ⟨b1, o1, e1, hb1, d1⟩ := rdT_at HA.out hx
      subst e1
      replace d1 := (HB.out.cell (p := ⟨b1, _, none⟩) hb1).trans d1
      have i1 : (0 : Int) ≤ (k : Int) := by omega
      have i2 : (k : Int) < (n : Int) := by omega
      clear hx hb1
      go_wp2_with fail
      refine (isHeading_some x wr).mono ?_
      rintro e w1 ⟨⟨b, rfl⟩, h1⟩
      rw [h1]
      clear h1 d1
      obtain ⟨L, hL⟩ : ∃ L, L = ps.length := ⟨_, rfl⟩
      have HL := hid hL
      have HOL : Hid (OwnI wr w.heap.size (.slice ao L co) ps) := hid (by rw [hL]; exact HO.out)
      rw [← hL]
      clear hL
      cases b with
      | true =>
        have hbG := (Below.refl wr.heap.size wr).alloc (Nat.le_refl _) (.cells #[.int .i64 (k : Nat)] 3)
        have hkG := heap_alloc_new wr (.cells #[.int .i64 (k : Nat)] 3)
        have HO2 := hid (own_stays HOL.out hbG)
        have HK2 := hid hkG
        have HB2 := hid (HB.out.trans (hbG.mono HB.out.size))
        have hLl : ps.length < 8796093022200 := by have := HP.out.2; omega
        clear hbG hkG
        go_wp2_with (at_builtin; refine wpList_append_i1 rfl _ _ rfl w.heap.size _ ps rfl HO2.out wr.heap.size (k : Nat) rfl HK2.out hLl HB2.out.size ?_; intro v8 w8 hO8 hb8; have HO8 := hid hO8; have HB8 := hid (HB2.out.trans hb8); clear hO8 hb8)
        go_roundw
        case rel => exact ⟨k + 1, ps ++ [(k : Int)], by omega, by go_num, HO8, hid ⟨fun p hp => by
            rcases List.mem_append.1 hp with hp | hp
            · exact HP.out.1 p hp
            · simp at hp; subst hp; exact ⟨by omega, by omega⟩, by rw [List.length_append, List.length_singleton]; have := HP.out.2; omega⟩, HB8⟩
        case measure => simp [intOf]; omega
      | false =>
        go_wp2_with fail
        go_roundw
        case rel => exact ⟨k + 1, ps, by omega, by go_num, HOL, hid ⟨HP.out.1, by have := HP.out.2; omega⟩, HB⟩
        case measure => simp [intOf]; omega
    · obtain rfl : k = n := by omega
      go_wp2_with fail
      go_ret
      exact ⟨_, ps, rfl, HO.out, HP.out.1, HP.out.2, HB.out⟩
theorem nan_any (x : Int) (w : World) : Calls Tryz.prog 115 #[.int .i64 x] w fun e w' => e = .returned (.bool false) ∧ w' = w := by
  go_enter Tryz.func115, Tryz.ntmps115
  go_wp2
  go_ret
  exact ⟨by simp, rfl⟩
theorem nan2_any (x : Int) (w : World) : Calls Tryz.prog 100 #[.int .i64 x] w fun e w' => e = .returned (.bool false) ∧ w' = w := by
  go_enter Tryz.func100, Tryz.ntmps100
  go_wp2
  go_ret
  exact ⟨by simp, rfl⟩
theorem less_any (x y : Int) (w : World) (b : Bool) (hb : decide (x < y) = b) : Calls Tryz.prog 99 #[.int .i64 x, .int .i64 y] w fun e w' => e = .returned (.bool b) ∧ w' = w := by
  go_enter Tryz.func99, Tryz.ntmps99
  go_wp2_with (go_at_call 115; refine (nan_any _ _).mono ?_; rintro e w' ⟨rfl, rfl⟩)
  go_ret
  exact ⟨by rw [← hb]; simp, rfl⟩
set_option maxHeartbeats 2000000 in
set_option maxRecDepth 100000 in
theorem bsearch_some {w : World} {v : Value} {l : List Int} (hv : RdI w v l) (hl : l.length ≤ 8796093022200) (t : Int) :
    Calls Tryz.prog 60 #[v, .int .i64 t] w fun e w' => IsAt l.length e ∧ w' = w := by
  have HV := hid hv
  obtain ⟨av, cv, rfl⟩ := hv.shape
  obtain ⟨n, hn⟩ : ∃ n, n = l.length := ⟨_, rfl⟩
  have HN := hid hn
  rw [← hn] at hl HV ⊢
  clear hv hn
  go_enter Tryz.func60, Tryz.ntmps60
  go_wp2
  go_loopg [7, 8, 9] n (fun kx s5 s6 s9 wr => ∃ lo hi : Nat, s5 = .int .i64 lo ∧ s6 = .int .i64 hi ∧ lo ≤ hi ∧ hi ≤ n ∧ hi - lo ≤ kx ∧ wr = w)
  case atStart => exact ⟨0, n, rfl, rfl, Nat.zero_le _, Nat.le_refl _, by omega, rfl⟩
  case round =>
    obtain ⟨lo, hi, rfl, rfl, h1, h3, hg, rfl⟩ := hrel
    by_cases hlt : lo < hi
    · obtain ⟨m, hm⟩ : ∃ m, m = (lo + hi) / 2 := ⟨_, rfl⟩
      have hmn : m < l.length := by rw [← HN.out]; omega
      obtain ⟨zb, zo, e, hzb, d1⟩ := rdI_at HV.out (List.getElem?_eq_getElem hmn)
      cases e
      generalize l[m] = z at d1
      have HG1 : Hid (((lo : Int) + (hi : Int)) / 2 = (m : Int)) := hid (by omega)
      have g2 : (0 : Int) ≤ (m : Int) := by omega
      have g3 : (m : Int) < (n : Int) := by omega
      have g4 : IntKind.i64.wrap ((m : Int) + 1) = (m : Int) + 1 := by rw [IntKind.wrap_i64]; omega
      have HM1 : Hid (lo ≤ m) := hid (by omega)
      have HM2 : Hid (m < hi) := hid (by omega)
      have HLT := hid hlt
      clear hm
      go_upto_region 5 with fail
      rw [HG1.out]
      by_cases hz : z < t
      · have HLS := hid (fun W => less_any z t W true (decide_eq_true hz))
        clear hz
        go_wp2_with (go_at_call 99; refine (HLS.out _).mono ?_; rintro e w' ⟨rfl, rfl⟩)
        go_roundg (hi - (m + 1))
        case measure => have := HM1.out; have := HM2.out; omega
        case rel => exact ⟨m + 1, hi, by push_cast; rfl, rfl, HM2.out, h3, Nat.le_refl _, rfl⟩
      · have HLS := hid (fun W => less_any z t W false (decide_eq_false hz))
        clear hz
        go_wp2_with (go_at_call 99; refine (HLS.out _).mono ?_; rintro e w' ⟨rfl, rfl⟩)
        go_roundg (m - lo)
        case measure => have := HM1.out; have := HM2.out; omega
        case rel => exact ⟨lo, m, rfl, rfl, HM1.out, by have := HM2.out; omega, Nat.le_refl _, rfl⟩
    · obtain rfl : hi = lo := by omega
      by_cases hcn : hi < n
      · have hmn : hi < l.length := by rw [← HN.out]; omega
        obtain ⟨zb, zo, e, hzb, d1⟩ := rdI_at HV.out (List.getElem?_eq_getElem hmn)
        cases e
        generalize l[hi] = z at d1
        have g3 : (hi : Int) < (n : Int) := by omega
        have g2 : (0 : Int) ≤ (hi : Int) := by omega
        by_cases hz : z = t
        · have g4 : (z == t) = true := beq_iff_eq.2 hz
          clear hz
          go_wp2
          refine bodyPost_ret (v := .tuple #[.int .i64 hi, .bool true]) (by simp [results, Tryz.results60, go_sem]) rfl ⟨⟨hi, _, h3, rfl⟩, rfl⟩
        · have g4 : (z == t) = false := beq_eq_false_iff_ne.2 hz
          clear hz
          go_wp2_with (go_at_call 100; refine (nan2_any _ _).mono ?_; rintro e w' ⟨rfl, rfl⟩)
          refine bodyPost_ret (v := .tuple #[.int .i64 hi, .bool false]) (by simp [results, Tryz.results60, go_sem]) rfl ⟨⟨hi, _, h3, rfl⟩, rfl⟩
      · have g3 : ¬ (hi : Int) < (n : Int) := by omega
        go_wp2
        refine bodyPost_ret (v := .tuple #[.int .i64 hi, .bool false]) (by simp [results, Tryz.results60, go_sem]) rfl ⟨⟨hi, false, h3, rfl⟩, rfl⟩
end Go.Proofs.YtddmfdjkkikapaaGreatDoor
