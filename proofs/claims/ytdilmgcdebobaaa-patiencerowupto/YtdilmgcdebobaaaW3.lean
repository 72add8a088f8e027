/-
  slices.BinarySearch on rising numbers; the walk of lone.
-/
import Derived.Test.YtdilmgcdebobaaaW2
import Derived.Deep.LoopGhost
namespace Go.Proofs.Ytdilmgcdebobaaa
open Go.RowKit

/-- how many numbers of a rising row lie below t -/
def cntB (l : List Int) (t : Int) : Nat := (l.filter fun x => decide (x < t)).length
theorem cntB_le (l : List Int) (t : Int) : cntB l t ≤ l.length := List.length_filter_le _ _
theorem cntB_iff {t : Int} : ∀ {l : List Int}, l.Pairwise (· < ·) → ∀ (i : Nat) (x : Int), l[i]? = some x → (x < t ↔ i < cntB l t)
  | [], _, i, x, h => by simp at h
  | y :: r, hp, i, x, h => by
    obtain ⟨h1, h2⟩ := List.pairwise_cons.1 hp
    unfold cntB
    by_cases hy : y < t
    · rw [List.filter_cons_of_pos (by simpa using hy), List.length_cons]
      cases i with
      | zero => simp at h; subst h; simp [hy]
      | succ i =>
        have := cntB_iff (t := t) h2 i x (by simpa using h)
        unfold cntB at this
        rw [this]; omega
    · have e : r.filter (fun x => decide (x < t)) = [] := by
        rw [List.filter_eq_nil_iff]
        intro z hz
        have := h1 z hz
        simp; omega
      rw [List.filter_cons_of_neg (by simpa using hy), e]
      constructor
      · intro hx
        cases i with
        | zero => simp at h; subst h; exact absurd hx hy
        | succ i =>
          have := h1 x (List.mem_of_getElem? (by simpa using h))
          omega
      · intro hi; simp at hi

theorem nan_any (x : Int) (w : World) : Calls Try.prog 53 #[.int .i64 x] w fun e w' => e = .returned (.bool false) ∧ w' = w := by
  go_enter Try.func53, Try.ntmps53
  go_wp2
  go_ret
  exact ⟨by simp, rfl⟩
theorem nan2_any (x : Int) (w : World) : Calls Try.prog 62 #[.int .i64 x] w fun e w' => e = .returned (.bool false) ∧ w' = w := by
  go_enter Try.func62, Try.ntmps62
  go_wp2
  go_ret
  exact ⟨by simp, rfl⟩
theorem less_any (x y : Int) (w : World) (b : Bool) (hb : decide (x < y) = b) : Calls Try.prog 61 #[.int .i64 x, .int .i64 y] w fun e w' => e = .returned (.bool b) ∧ w' = w := by
  go_enter Try.func61, Try.ntmps61
  go_wp2_with (go_at_call 53; refine (nan_any _ _).mono ?_; rintro e w' ⟨rfl, rfl⟩)
  go_ret
  exact ⟨by rw [← hb]; simp, rfl⟩

set_option maxHeartbeats 2000000 in
set_option maxRecDepth 100000 in
theorem bsearch_any {w : World} {v : Value} {l : List Int} (hv : RdI w v l) (hp : l.Pairwise (· < ·)) (hl : l.length ≤ 100000000) (t : Int) :
    Calls Try.prog 50 #[v, .int .i64 t] w fun e w' => (∃ f, e = .returned (.tuple #[.int .i64 (cntB l t), .bool f])) ∧ w' = w := by
  have HV := hid hv
  have HC := hid (cntB_iff (t := t) hp)
  have hc := cntB_le l t
  generalize cntB l t = c at HC hc
  obtain ⟨av, cv, rfl⟩ := hv.shape
  obtain ⟨n, hn⟩ : ∃ n, n = l.length := ⟨_, rfl⟩
  have HN := hid hn
  rw [← hn] at hl hc HV ⊢
  clear hv hp hn
  go_enter Try.func50, Try.ntmps50
  go_wp2
  go_loopg [7, 8, 9] n (fun kx s5 s6 s9 wr => ∃ lo hi : Nat, s5 = .int .i64 lo ∧ s6 = .int .i64 hi ∧ lo ≤ c ∧ c ≤ hi ∧ hi ≤ n ∧ hi - lo ≤ kx ∧ wr = w)
  case atStart => exact ⟨0, n, rfl, rfl, Nat.zero_le _, hc, Nat.le_refl _, by omega, rfl⟩
  case round =>
    obtain ⟨lo, hi, rfl, rfl, h1, h2, h3, hg, rfl⟩ := hrel
    by_cases hlt : lo < hi
    · obtain ⟨m, hm⟩ : ∃ m, m = (lo + hi) / 2 := ⟨_, rfl⟩
      have hmn : m < l.length := by rw [← HN.out]; omega
      obtain ⟨zb, zo, e, hzb, d1⟩ := rdI_at HV.out (fn_some hmn)
      cases e
      have HL := hid (HC.out m _ (fn_some hmn))
      generalize fn l m = z at d1 HL
      have HG1 : Hid (((lo : Int) + (hi : Int)) / 2 = (m : Int)) := hid (by omega)
      have g2 : (0 : Int) ≤ (m : Int) := by omega
      have g3 : (m : Int) < (n : Int) := by omega
      have g4 : IntKind.i64.wrap ((m : Int) + 1) = (m : Int) + 1 := by rw [IntKind.wrap_i64]; omega
      have HM := hid hm
      have HM1 : Hid (lo ≤ m) := hid (by omega)
      have HM2 : Hid (m < hi) := hid (by omega)
      have HLT := hid hlt
      clear hm HM
      go_upto_region 5 with fail
      rw [HG1.out]
      by_cases hz : z < t
      · have HZ := hid (HL.out.1 hz)
        have HLS := hid (fun W => less_any z t W true (decide_eq_true hz))
        clear hz
        go_wp2_with (go_at_call 61; refine (HLS.out _).mono ?_; rintro e w' ⟨rfl, rfl⟩)
        go_roundg (hi - (m + 1))
        case measure => have := HM1.out; have := HM2.out; omega
        case rel => exact ⟨m + 1, hi, by push_cast; rfl, rfl, HZ.out, h2, h3, Nat.le_refl _, rfl⟩
      · have HZ : Hid (c ≤ m) := hid (by have := HL.out; omega)
        have HLS := hid (fun W => less_any z t W false (decide_eq_false hz))
        clear hz
        go_wp2_with (go_at_call 61; refine (HLS.out _).mono ?_; rintro e w' ⟨rfl, rfl⟩)
        go_roundg (m - lo)
        case measure => have := HM1.out; have := HM2.out; omega
        case rel => exact ⟨lo, m, rfl, rfl, h1, HZ.out, by have := HM2.out; omega, Nat.le_refl _, rfl⟩
    · obtain rfl : hi = lo := by omega
      obtain rfl : c = hi := by omega
      by_cases hcn : c < n
      · have hmn : c < l.length := by rw [← HN.out]; omega
        obtain ⟨zb, zo, e, hzb, d1⟩ := rdI_at HV.out (fn_some hmn)
        cases e
        generalize fn l c = z at d1
        have g3 : (c : Int) < (n : Int) := by omega
        have g2 : (0 : Int) ≤ (c : Int) := by omega
        by_cases hz : z = t
        · have g4 : (z == t) = true := beq_iff_eq.2 hz
          clear hz
          go_wp2
          refine bodyPost_ret (v := .tuple #[.int .i64 c, .bool true]) (by simp [results, Try.results50, go_sem]) rfl ⟨⟨_, rfl⟩, rfl⟩
        · have g4 : (z == t) = false := beq_eq_false_iff_ne.2 hz
          clear hz
          go_wp2_with (go_at_call 62; refine (nan2_any _ _).mono ?_; rintro e w' ⟨rfl, rfl⟩)
          refine bodyPost_ret (v := .tuple #[.int .i64 c, .bool false]) (by simp [results, Try.results50, go_sem]) rfl ⟨⟨_, rfl⟩, rfl⟩
      · have g3 : ¬ (c : Int) < (n : Int) := by omega
        go_wp2
        refine bodyPost_ret (v := .tuple #[.int .i64 c, .bool false]) (by simp [results, Try.results50, go_sem]) rfl ⟨.inl rfl, rfl⟩

set_option maxHeartbeats 2000000 in
set_option maxRecDepth 100000 in
theorem lone_any {w : World} {v : Value} {l : List Int} (hv : RdI w v l) (hp : l.Pairwise (· < ·)) (hl : l.length ≤ 100000000) (x y : Int) (hxy : cntB l x ≤ cntB l y) :
    Calls Try.prog 34 #[v, .int .i64 x, .int .i64 y] w fun e w' => e = .returned (if cntB l y = cntB l x + 1 then .tuple #[.int .i64 (fn l (cntB l x)), .bool true] else .tuple #[.int .i64 0, .bool false]) ∧ w' = w := by
  have HV := hid hv
  have H1 := hid (bsearch_any hv hp hl x)
  have H2 := hid (bsearch_any hv hp hl y)
  have h1 := cntB_le l x
  have h2 := cntB_le l y
  generalize cntB l x = c at H1 h1 hxy ⊢
  generalize cntB l y = d at H2 h2 hxy ⊢
  obtain ⟨av, cv, rfl⟩ := hv.shape
  obtain ⟨n, hn⟩ : ∃ n, n = l.length := ⟨_, rfl⟩
  have HN := hid hn
  rw [← hn] at hl h1 h2 HV H1 H2 ⊢
  clear hv hp hn
  by_cases hcd : d = c + 1
  · have hmn : c < l.length := by rw [← HN.out]; omega
    obtain ⟨zb, zo, e, hzb, d1⟩ := rdI_at HV.out (fn_some hmn)
    cases e
    rw [if_pos hcd]
    generalize fn l c = z at d1 ⊢
    have g1 : IntKind.i64.wrap ((d : Int) - (c : Int)) = 1 := by rw [IntKind.wrap_i64]; omega
    have g2 : (0 : Int) ≤ (c : Int) := by omega
    have g3 : (c : Int) < (n : Int) := by omega
    clear hcd
    go_enter Try.func34, Try.ntmps34
    go_wp2_with fail
    refine H1.out.mono ?_
    rintro e w1 ⟨⟨f1, rfl⟩, rfl⟩
    go_wp2_with fail
    refine H2.out.mono ?_
    rintro e w2 ⟨⟨f2, rfl⟩, rfl⟩
    go_wp2
    refine bodyPost_ret (v := .tuple #[.int .i64 z, .bool true]) (by simp [results, Try.results34, go_sem]) rfl ⟨rfl, rfl⟩
  · rw [if_neg hcd]
    have g0 : IntKind.i64.wrap ((d : Int) - (c : Int)) = ((d - c : Nat) : Int) := by rw [IntKind.wrap_i64]; omega
    obtain ⟨q, hq⟩ : ∃ q, q = d - c := ⟨_, rfl⟩
    rw [← hq] at g0
    have g1 : ((q : Int) == 1) = false := beq_eq_false_iff_ne.2 (by omega)
    have g2 : ((q : Int) != 1) = true := by rw [bne, g1]; rfl
    have g3 : ¬ q = 1 := by omega
    clear hcd hq
    go_enter Try.func34, Try.ntmps34
    go_wp2_with fail
    refine H1.out.mono ?_
    rintro e w1 ⟨⟨f1, rfl⟩, rfl⟩
    go_wp2_with fail
    refine H2.out.mono ?_
    rintro e w2 ⟨⟨f2, rfl⟩, rfl⟩
    go_wp2
    refine bodyPost_ret (v := .tuple #[.int .i64 0, .bool false]) (by simp [results, Try.results34, go_sem]) rfl ⟨rfl, rfl⟩
end Go.Proofs.Ytdilmgcdebobaaa
