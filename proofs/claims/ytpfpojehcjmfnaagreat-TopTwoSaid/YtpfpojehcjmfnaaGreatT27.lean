/-
  owner, count, Loose, At and Busy of the program, At of the document.
  Conditions: the slice reads as tables.
-/
import Derived.Test.YtpfpojehcjmfnaaGreatT19
import Derived.Test.YtpfpojehcjmfnaaGreatT01
import Derived.Test.YtpfpojehcjmfnaaGreatT23
import Derived.Test.YtpfpojehcjmfnaaGreatT22
import Derived.Test.YtpfpojehcjmfnaaGreatT02
import Derived.Test.YtpfpojehcjmfnaaGreatT07
import Derived.Test.YtpfpojehcjmfnaaGreatT10
import Derived.Test.YtpfpojehcjmfnaaGreatT26
import Derived.OpenShut
import Derived.ChangeSlices
import Derived.ChangeOld
import Derived.ChangeArms
import Derived.Deep.SlicePairs
import Derived.Deep.Slices
import Derived.Deep.Fields
import Derived.Lib.SmallJoins

/-
  A ring whose members joined one behind the other, and were then picked as often as all weights are together.
  Conditions: none.
-/
set_option linter.unusedVariables false
namespace Go.Proofs.YtpfpojehcjmfnaaGreat.Rn

/-- Members 1 to k of these weights, with what each got. -/
def mbsG (f g : Nat → Nat) (k : Nat) : List Mb := (List.range k).map fun i => ⟨i + 1, f i, g i, true⟩
def ringG (L : Nat) (f g : Nat → Nat) (k : Nat) : Rg := ⟨L, 0, 1, mbsG f g k⟩
theorem mbs_len (f g : Nat → Nat) (k : Nat) : (mbsG f g k).length = k := by simp [mbsG]
theorem mbs_at {f g : Nat → Nat} {k i : Nat} (h : i < k) : (mbsG f g k)[i]? = some ⟨i + 1, f i, g i, true⟩ := by simp [mbsG, h]
theorem mbs_get {f g : Nat → Nat} {k i : Nat} {m : Mb} (h : (mbsG f g k)[i]? = some m) : i < k ∧ m = ⟨i + 1, f i, g i, true⟩ := by
  have hl := (List.getElem?_eq_some_iff.1 h).1
  rw [mbs_len] at hl
  rw [mbs_at hl] at h
  exact ⟨hl, (Option.some.inj h).symm⟩
theorem mbs_mem {f g : Nat → Nat} {k : Nat} {m : Mb} (h : m ∈ mbsG f g k) : ∃ i, i < k ∧ m = ⟨i + 1, f i, g i, true⟩ := by
  obtain ⟨i, hi⟩ := List.mem_iff_getElem?.1 h
  exact ⟨i, mbs_get hi⟩
theorem mbs_snoc (f g : Nat → Nat) (k : Nat) : mbsG f g (k + 1) = mbsG f g k ++ [⟨k + 1, f k, g k, true⟩] := by simp [mbsG, List.range_succ]
theorem mbs_pos {f g : Nat → Nat} {k : Nat} (h : ∀ i, i < k → 1 ≤ f i) : ∀ m ∈ mbsG f g k, 0 < m.w := fun m hm => by
  obtain ⟨i, hi, rfl⟩ := mbs_mem hm
  exact h i hi

theorem join_mbs {L : Nat} {f : Nat → Nat} {k : Nat} (hk : k < 32) (hf : ∀ i, i < k → 1 ≤ f i) (h1 : 1 ≤ f k) (h2 : f k ≤ 1000) :
    joinA (ringG L f (fun _ => 0) k) ((k + 1 : Nat) : Int) ((f k : Nat) : Int) = (0, ringG L f (fun _ => 0) (k + 1)) := by
  have hfind : findK (mbsG f (fun _ => 0) k) ((k + 1 : Nat) : Int) = none := by
    unfold findK
    rw [List.findIdx?_eq_none_iff]
    intro m hm
    obtain ⟨i, hi, rfl⟩ := mbs_mem hm
    simp
    omega
  have hup : upN (floorN (ringG L f (fun _ => 0) k)) (f k) = 0 := by
    unfold floorN
    cases hb : best (ringG L f (fun _ => 0) k).l with
    | none => show (0 * f k + 1 - 1) / 1 = 0; omega
    | some x =>
      obtain ⟨hx, _, _⟩ := best_some (mbs_pos hf) hb
      obtain ⟨hi, e⟩ := mbs_get hx
      show (x.2.n * f k + x.2.w - 1) / x.2.w = 0
      rw [e]
      show (0 * f k + f x.1 - 1) / f x.1 = 0
      have := hf _ hi
      rw [Nat.zero_mul, Nat.zero_add]
      exact Nat.div_eq_of_lt (by omega)
  have hbig : bigI (mbsG f (fun _ => 0) k) (k + 1) = k := by
    unfold bigI
    rw [(List.findIdx?_eq_none_iff).2 fun m hm => by
      obtain ⟨i, hi, rfl⟩ := mbs_mem hm
      simp
      omega]
    exact mbs_len _ _ _
  unfold joinA
  rw [if_neg (by omega), if_neg (by omega)]
  show (match findK (mbsG f (fun _ => 0) k) ((k + 1 : Nat) : Int) with
    | some _ => _
    | none => _) = _
  rw [hfind]
  show (if 32 ≤ (mbsG f (fun _ => 0) k).length then _ else _) = _
  rw [mbs_len, if_neg (by omega), Int.toNat_natCast, Int.toNat_natCast]
  unfold joinR
  rw [hup]
  show (_, Rg.mk L 0 1 (insM (mbsG f (fun _ => 0) k) ⟨k + 1, f k, 0, true⟩)) = _
  unfold insM
  rw [show (⟨k + 1, f k, 0, true⟩ : Mb).id = k + 1 from rfl, hbig]
  unfold ringG
  rw [mbs_snoc, List.take_of_length_le (by rw [mbs_len]; exact Nat.le_refl _), List.drop_eq_nil_of_le (by rw [mbs_len]; exact Nat.le_refl _), List.append_nil]

structure EvenR (f g : Nat → Nat) (k t : Nat) : Prop where
  sum : sumTo g k = t
  le : ∀ i, i < k → g i ≤ f i
def upG (g : Nat → Nat) (i : Nat) : Nat → Nat := fun j => if j = i then g j + 1 else g j
theorem sum_up (g : Nat → Nat) (i : Nat) : ∀ k : Nat, sumTo (upG g i) k = sumTo g k + if i < k then 1 else 0
  | 0 => by rw [sumTo, sumTo, if_neg (by omega)]
  | k + 1 => by
    rw [sumTo, sumTo, sum_up g i k]
    unfold upG
    by_cases h : k = i
    · subst h
      rw [if_pos rfl, if_neg (by omega), if_pos (by omega)]
      omega
    · rw [if_neg h]
      by_cases h2 : i < k
      · rw [if_pos h2, if_pos (by omega)]
        omega
      · rw [if_neg h2, if_neg (by omega)]
        omega
theorem sum_less {f g : Nat → Nat} : ∀ {k : Nat}, sumTo g k < sumTo f k → ∃ i, i < k ∧ g i < f i
  | 0, h => absurd h (Nat.lt_irrefl _)
  | k + 1, h => by
    rw [sumTo, sumTo] at h
    by_cases e : g k < f k
    · exact ⟨k, by omega, e⟩
    · obtain ⟨i, hi, h2⟩ := sum_less (f := f) (g := g) (k := k) (by omega)
      exact ⟨i, by omega, h2⟩
theorem mbs_set {f g : Nat → Nat} {k i : Nat} (h : i < k) : (mbsG f g k).set i ⟨i + 1, f i, g i + 1, true⟩ = mbsG f (upG g i) k := by
  refine List.ext_getElem? fun j => ?_
  rw [List.getElem?_set]
  by_cases e : i = j
  · subst e
    rw [if_pos rfl, if_pos (by rw [mbs_len]; exact h), mbs_at h]
    unfold upG
    rw [if_pos rfl]
  · rw [if_neg e]
    by_cases hj : j < k
    · rw [mbs_at hj, mbs_at hj]
      unfold upG
      rw [if_neg (Ne.symm e)]
    · rw [List.getElem?_eq_none (by rw [mbs_len]; omega), List.getElem?_eq_none (by rw [mbs_len]; omega)]
theorem EvenR.pick {L : Nat} {f g : Nat → Nat} {k t : Nat} (h : EvenR f g k t) (hf : ∀ i, i < k → 1 ≤ f i ∧ f i < L) (ht : t < sumTo f k) :
    ∃ i, i < k ∧ pickA (ringG L f g k) = (((i + 1 : Nat) : Int), ringG L f (upG g i) k) ∧ EvenR f (upG g i) k (t + 1) := by
  have hp : ∀ m ∈ (ringG L f g k).l, 0 < m.w := mbs_pos fun i hi => (hf i hi).1
  obtain ⟨j, hj, hlt⟩ := sum_less (f := f) (g := g) (k := k) (by have := h.sum; omega)
  have hm : (⟨j + 1, f j, g j, true⟩ : Mb) ∈ (ringG L f g k).l := List.mem_of_getElem? (mbs_at hj)
  obtain ⟨x, hb⟩ := best_on hp hm rfl
  obtain ⟨hx, _, hleast⟩ := best_some hp hb
  obtain ⟨hi, e⟩ := mbs_get hx
  have h1 := hleast _ hm rfl
  rw [e] at h1
  have h2 : g x.1 * f j ≤ g j * f x.1 := h1
  have h3 : g x.1 < f x.1 := by
    apply Classical.byContradiction
    intro hn
    have h4 : f x.1 * f j ≤ g x.1 * f j := Nat.mul_le_mul_right _ (by omega)
    have h5 : g j * f x.1 < f j * f x.1 := Nat.mul_lt_mul_of_pos_right hlt (hf _ hi).1
    rw [Nat.mul_comm (f j)] at h5
    omega
  refine ⟨x.1, hi, ?_, ⟨?_, fun i' hi' => ?_⟩⟩
  · have hA : pickA (ringG L f g k) = ((x.2.id : Int), pickR (ringG L f g k) x.1 x.2) := by
      unfold pickA
      rw [hb]
    rw [hA, e]
    have hR : pickR (ringG L f g k) x.1 ⟨x.1 + 1, f x.1, g x.1, true⟩ = ringG L f (upG g x.1) k := by
      unfold pickR
      rw [if_neg (by
        show ¬ L ≤ g x.1 + 1
        have := (hf _ hi).2
        omega)]
      show Rg.mk L 0 1 ((mbsG f g k).set x.1 ⟨x.1 + 1, f x.1, g x.1 + 1, true⟩) = _
      rw [mbs_set hi]
      rfl
    rw [hR]
  · rw [sum_up, h.sum, if_pos hi]
  · unfold upG
    split
    · rename_i e2
      subst e2
      exact h3
    · exact h.le i' hi'
theorem EvenR.start (f : Nat → Nat) (k : Nat) : EvenR f (fun _ => 0) k 0 := ⟨sumTo_zero fun _ _ => rfl, fun _ _ => Nat.zero_le _⟩
theorem EvenR.end_ {f g : Nat → Nat} {k t : Nat} (h : EvenR f g k t) (ht : sumTo f k ≤ t) : ∀ i, i < k → g i = f i := fun i hi => by
  have h1 := h.le i hi
  apply Classical.byContradiction
  intro hne
  have : ∀ {k : Nat}, (∀ i, i < k → g i ≤ f i) → sumTo g k ≤ sumTo f k := fun {k} h => sumTo_le h
  have h2 : ∀ {k : Nat}, (∀ i, i < k → g i ≤ f i) → i < k → g i < f i → sumTo g k < sumTo f k := fun {k} => by
    induction k with
    | zero => intro _ h; omega
    | succ k ih =>
      intro ha hk hl
      rw [sumTo, sumTo]
      by_cases e : i = k
      · subst e
        have := this (k := i) fun j hj => ha j (by omega)
        omega
      · have h3 := ih (fun j hj => ha j (by omega)) (by omega) hl
        have := ha k (by omega)
        omega
  have h3 := h2 h.le hi (by omega)
  have := h.sum
  omega
end Go.Proofs.YtpfpojehcjmfnaaGreat.Rn

/-
  Shares as a function, their sum, and what each got as a row.
  Conditions: none.
-/
set_option linter.unusedVariables false
namespace Go.Proofs.YtpfpojehcjmfnaaGreat

/-- Shares as a function. -/
def shF (ps : List Sp) (i : Nat) : Nat := ((ps[i]?).map fun p => p.2.toNat).getD 0
theorem shF_at {ps : List Sp} {i : Nat} {p : Sp} (h : ps[i]? = some p) : shF ps i = p.2.toNat := by unfold shF; rw [h]; rfl
theorem sumP_append : ∀ a b : List Sp, sumP (a ++ b) = sumP a + sumP b
  | [], b => by show sumP b = 0 + sumP b; omega
  | p :: a, b => by
    show p.2 + sumP (a ++ b) = p.2 + sumP a + sumP b
    rw [sumP_append a b]
    omega
theorem sumF_take {ps : List Sp} (h : ∀ p ∈ ps, 1 ≤ p.2) : ∀ k : Nat, k ≤ ps.length → ((sumTo (shF ps) k : Nat) : Int) = sumP (ps.take k)
  | 0, _ => rfl
  | k + 1, hk => by
    have hx : ps[k]? = some ps[k] := List.getElem?_eq_getElem (by omega)
    have h1 := sumF_take h k (by omega)
    have h2 := h _ (List.mem_of_getElem? hx)
    rw [sumTo, List.take_add_one, hx, Option.toList_some, sumP_append, shF_at hx, ← h1]
    show ((sumTo (shF ps) k + ps[k].2.toNat : Nat) : Int) = _ + (ps[k].2 + 0)
    omega
theorem sumF_all {ps : List Sp} (h : ∀ p ∈ ps, 1 ≤ p.2) : ((sumTo (shF ps) ps.length : Nat) : Int) = sumP ps := by
  have := sumF_take h ps.length (Nat.le_refl _)
  rwa [List.take_length] at this
/-- What each got, behind a nought. -/
def gotL (g : Nat → Nat) (k : Nat) : List Int := 0 :: (List.range k).map fun i => (g i : Int)
theorem gotL_at {g : Nat → Nat} {k i : Nat} (h : i < k) : (gotL g k)[i + 1]? = some (g i : Int) := by simp [gotL, h]
theorem gotL_zero (k : Nat) : zeros (k + 1) = gotL (fun _ => 0) k := by
  unfold zeros gotL
  rw [List.replicate_succ]
  refine congrArg _ ?_
  refine List.ext_getElem? fun j => ?_
  by_cases hj : j < k
  · simp [hj]
  · rw [List.getElem?_eq_none (by simp; omega), List.getElem?_eq_none (by simp; omega)]
theorem gotL_up {g : Nat → Nat} {k i : Nat} (h : i < k) : (gotL g k).set (i + 1) ((g i : Int) + 1) = gotL (Rn.upG g i) k := by
  unfold gotL
  rw [List.set_cons_succ]
  refine congrArg _ ?_
  refine List.ext_getElem? fun j => ?_
  rw [List.getElem?_set]
  unfold Rn.upG
  by_cases e : i = j
  · subst e
    simp [h]
  · rw [if_neg e]
    by_cases hj : j < k
    · simp [hj, Ne.symm e]
    · rw [List.getElem?_eq_none (by simp; omega), List.getElem?_eq_none (by simp; omega)]
theorem pick_val {s : Rn.Rg} {i : Nat} {r : Rn.Rg} (h : Rn.pickA s = (((i + 1 : Nat) : Int), r)) : Rn.pickV s = .tuple #[.int .i64 ((i + 1 : Nat) : Int), .bool true] := by
  unfold Rn.pickA at h
  unfold Rn.pickV
  cases hb : Rn.best s.l with
  | none =>
    rw [hb] at h
    have := congrArg Prod.fst h
    have : (0 : Int) = ((i + 1 : Nat) : Int) := this
    omega
  | some x =>
    rw [hb] at h
    have := congrArg Prod.fst h
    have e : (x.2.id : Int) = ((i + 1 : Nat) : Int) := this
    show Value.tuple #[.int .i64 (x.2.id : Int), .bool true] = _
    rw [e]
end Go.Proofs.YtpfpojehcjmfnaaGreat

/-
  When it is sure that nobody is left over, of the program.
  Conditions: the slice reads as wants; the numbers are ints.
-/
set_option linter.unusedVariables false
set_option linter.unusedSimpArgs false
namespace Go.Proofs.YtpfpojehcjmfnaaGreat
open Go.RowKit

/-- What wants are that are right: few, and small. -/
theorem chk_small {f : Int} {ws : List Sp} (h : chkT f ws = 0) : (2 ≤ f ∧ f ≤ 64) ∧ (∀ w ∈ ws, 1 ≤ w.2 ∧ w.2 ≤ 64) ∧ ∀ k, (0 ≤ sumS (ws.take k) ∧ sumS (ws.take k) ≤ 20000) ∧ 0 ≤ maxT (ws.take k) ∧ maxT (ws.take k) ≤ 64 := by
  obtain ⟨hf, hw⟩ := WOk.of_chk h
  have hall : ∀ w ∈ ws, 1 ≤ w.2 ∧ w.2 ≤ 64 := fun w hm => by
    have := hw.all w hm
    omega
  refine ⟨hf, hall, fun k => ⟨?_, maxT_nonneg _, maxT_bound (by decide) _ fun w hm => (hall w (List.mem_of_mem_take hm)).2⟩⟩
  have h1 := sumS_bound (ws.take k) fun w hm => by
    have := hall w (List.mem_of_mem_take hm)
    omega
  have h2 := few_wants h
  have h3 : (ws.take k).length ≤ 240 := by rw [List.length_take]; omega
  omega
end Go.Proofs.YtpfpojehcjmfnaaGreat

/-
  The law of rings and locals: TopTwo.
  Conditions: the slice reads as wants; the numbers are of their kinds.
-/
set_option linter.unusedVariables false
set_option linter.unusedSimpArgs false
namespace Go.Proofs.YtpfpojehcjmfnaaGreat
open Go.RowKit

theorem HeldR.mono {a b : Nat} {W : World} {rb : Nat} {s : Rn.Rg} (h : HeldR a W rb s) (hb : b ≤ a) : HeldR b W rb s := by
  obtain ⟨mv, h1, h2⟩ := h
  exact ⟨mv, h1, fun k hk => Nat.le_trans hb (h2 k hk)⟩
theorem okay_join {s r : Rn.Rg} {id w : Int} (h : Rn.Okay s) (e : Rn.joinA s id w = (0, r)) : Rn.Okay r := by
  have := h.call 0 id w
  unfold Rn.callA at this
  rw [if_pos rfl, e] at this
  exact this
theorem okay_pick {s r : Rn.Rg} {x : Int} (h : Rn.Okay s) (e : Rn.pickA s = (x, r)) : Rn.Okay r := by
  have := h.pick
  rw [e] at this
  exact this
/-- What lies in memory as both are picked. -/
structure TwoSt (base rb rr G q S : Nat) (qs : List Sp) (w wr : World) (t : Nat) (lt : List Lm) (g : Nat → Nat) : Prop where
  loc : Held base wr rb lt
  ok : OkL t lt
  even : Even t lt
  wants : wantsM lt = wantsM (newT qs)
  ring : HeldR base wr rr (Rn.ringG 2048 (shF qs) g q)
  okr : Rn.Okay (Rn.ringG 2048 (shF qs) g q)
  evr : Rn.EvenR (shF qs) g q t
  row : RowAt wr G (gotL g q)
  below : Below base w wr

set_option maxRecDepth 100000 in
set_option maxHeartbeats 8000000 in
theorem two_law (vw : Value) (ps : List Sp) (w : World) (hv : ArgAt w vw ps) (hi : IntsS ps) :
    Calls Tryz.prog 7 #[vw] w (RetB (.bool true) w) := by
  have HAW := Lib.hid (fun W => begins20_any W)
  have harg := hv
  obtain ⟨B, d, rfl, hc1, hc2, hnil, _⟩ := hv
  have hs := harg.cut 30 (by decide)
  have hi' := hi.take 30
  have hlq : (ps.take 30).length = min ps.length 30 := by rw [List.length_take, Nat.min_comm]
  have hmn : min (ps.length : Int) 30 = ((min ps.length 30 : Nat) : Int) := by omega
  have hmle : min ps.length 30 ≤ ps.length := Nat.min_le_left _ _
  have hm60 : min ps.length 30 ≤ 30 := Nat.min_le_right _ _
  generalize ps.take 30 = qs at *
  generalize ps.length = n at *
  generalize min n 30 = q at *
  have hmc : (q : Int) ≤ (d : Int) := by omega
  have hm0 : (0 : Int) ≤ (q : Int) := by omega
  have HLQ := Lib.hid hlq
  have HS : Hid (∀ W, Below w.heap.size w W → SpansAt W (.slice B q d) qs) := Lib.hid (fun W hk => hs.keep hk)
  have HI := Lib.hid hi'
  have HRN := Lib.hid (fun W => Rn.new_ok 2048 (by decide) (by decide) W)
  have HK0 := Lib.hid (Below.refl w.heap.size w)
  clear harg hi hs hi' hlq
  by_cases he : newE 64 qs = 0
  · have HE := Lib.hid he
    obtain ⟨hc, hsum⟩ := newE_zero he
    obtain ⟨_, hrt⟩ := chk_right hc
    have hall : ∀ p ∈ qs, 1 ≤ p.2 ∧ p.2 ≤ 64 := (chk_small hc).2.1
    have HALL := Lib.hid hall
    have HNW := Lib.hid (new_ok 64 (.slice B q d) qs w (HS.out w HK0.out) HI.out he)
    have HOKL := Lib.hid (new_okL he)
    obtain ⟨S, hS⟩ : ∃ S, sumM (newT qs) = S := ⟨_, rfl⟩
    have hS64 : S ≤ 64 := by rw [← hS]; exact (new_okL he).full
    have HSS := Lib.hid hS
    have HSF : Hid (sumTo (shF qs) q = S) := Lib.hid (by
      have h1 := sumF_all fun p hp => (hall p hp).1
      have h2 := newT_sum hrt
      rw [HLQ.out] at h1
      rw [hS] at h2
      omega)
    have HFL : Hid (∀ i, i < q → 1 ≤ shF qs i ∧ shF qs i ≤ 64) := Lib.hid (fun i hq => by
      obtain ⟨y, hy⟩ := ex_at (xs := qs) (k := i) (by rw [HLQ.out]; exact hq)
      have := hall y (List.mem_of_getElem? hy)
      rw [shF_at hy]
      omega)
    have hev := even_begin (newT qs)
    rw [begin_new] at hev
    have HEV := Lib.hid hev
    have HMEM : Hid (∀ p ∈ qs, p ∈ wantsM (newT qs)) := Lib.hid (fun p hp => new_wants HE.out hp)
    clear he hc hsum hrt hall hS hev
    go_enter Tryz.func7, Tryz.ntmps7
    go_wp2_with fail
    refine HNW.out.mono ?_
    rintro e w1 ⟨rb, rfl, hh, hb1⟩
    have HB1 := Lib.hid hb1
    have HH1 := Lib.hid hh
    clear hh hb1
    go_wp2_with fail
    refine (HRN.out w1).mono ?_
    rintro e w2 hp2
    obtain ⟨rfl, hr2, hb2⟩ := HeldR.new hp2
    have HB2 := Lib.hid (HB1.out.trans (hb2.mono HB1.out.size))
    have HH2 := Lib.hid (HH1.out.below hb2)
    have HR2 := Lib.hid (hr2.mono HB1.out.size)
    obtain ⟨rr, hrr⟩ : ∃ rr, w1.heap.size = rr := ⟨_, rfl⟩
    rw [hrr] at HR2 ⊢
    have HR0 : Hid (HeldR w.heap.size w2 rr (Rn.ringG 2048 (shF qs) (fun _ => 0) 0)) := HR2
    have HO0 : Hid (Rn.Okay (Rn.ringG 2048 (shF qs) (fun _ => 0) 0)) := Lib.hid (Rn.okay_new (by decide) (by decide))
    clear hp2 hr2 hb2 hrr
    go_wp2_with fail
    go_loopg [7] q (fun gg s7 wr => ∃ i : Nat, i ≤ q ∧ gg = q - i ∧ s7 = .int .i64 i ∧ Held w.heap.size wr rb (newT qs) ∧ HeldR w.heap.size wr rr (Rn.ringG 2048 (shF qs) (fun _ => 0) i) ∧ Rn.Okay (Rn.ringG 2048 (shF qs) (fun _ => 0) i) ∧ Below w.heap.size w wr)
    case atStart => exact ⟨0, Nat.zero_le _, by omega, rfl, HH2.out, HR0.out, HO0.out, HB2.out⟩
    case round =>
      obtain ⟨i, hin, hgg, rfl, hh, hr, ho, hbw⟩ := hrel
      have HG := Lib.hid hgg
      have HH := Lib.hid hh
      have HR := Lib.hid hr
      have HO := Lib.hid ho
      have HB := Lib.hid hbw
      clear hgg hh hr ho hbw
      by_cases hlt : i < q
      · have hltz : (i : Int) < (q : Int) := by omega
        have hi0 : (0 : Int) ≤ (i : Int) := by omega
        obtain ⟨y, hy⟩ := ex_at (xs := qs) (k := i) (by rw [HLQ.out]; exact hlt)
        obtain ⟨A', c', hs1, hs2, hs3, hs4, hs5⟩ := HS.out _ HB.out
        injection hs1 with t1 t2 t3
        subst t1 t3
        obtain ⟨bl, ol, hA, hbl, hcell⟩ := hs5 (by rw [HLQ.out]; omega)
        subst hA
        obtain ⟨c0, c1⟩ := hcell i y hy
        have hyb := HALL.out y (List.mem_of_getElem? hy)
        have hsh := shF_at hy
        have hjo : Rn.joinA (Rn.ringG 2048 (shF qs) (fun _ => 0) i) ((i : Int) + 1) y.2 = (0, Rn.ringG 2048 (shF qs) (fun _ => 0) (i + 1)) := by
          have h1 := Rn.join_mbs (L := 2048) (f := shF qs) (k := i) (by omega) (fun j hj => (HFL.out j (by omega)).1) (HFL.out i hlt).1 (by have := (HFL.out i hlt).2; omega)
          have e1 : ((shF qs i : Nat) : Int) = y.2 := by rw [hsh]; omega
          rw [e1] at h1
          exact h1
        have HJ := Lib.hid (HeldR.joinR ((i : Int) + 1) y.2 HR.out HO.out)
        rw [hjo] at HJ
        have HON := Lib.hid (okay_join HO.out hjo)
        obtain ⟨y1, y2⟩ := y
        simp only at c0 c1 hyb HJ
        obtain ⟨yl, yu⟩ := hyb
        clear hcell hy hsh hjo hs2 hs3 hs4 hs5 t2
        go_wp2_with fail
        refine HJ.out.mono ?_
        rintro e w3 ⟨rfl, hr3, hb3, hk3⟩
        have HR3 := Lib.hid hr3
        have HB3 := Lib.hid (HB.out.trans hb3)
        have HH3 := Lib.hid (HH.out.keepT hk3 tyL_R)
        clear hr3 hb3 hk3 c0 c1
        go_wp2_with fail
        go_roundg (q - (i + 1))
        case measure => have := HG.out; omega
        case rel => exact ⟨i + 1, by omega, rfl, by go_num, HH3.out, HR3.out, HON.out, HB3.out⟩
      · have hltz : ¬ (i : Int) < (q : Int) := by omega
        have hiq : i = q := by omega
        subst hiq
        obtain ⟨wj, rfl⟩ : ∃ wj : World, wj = wr := ⟨_, rfl⟩
        obtain ⟨n1, hn1⟩ : ∃ n1, i + 1 = n1 := ⟨_, rfl⟩
        have hq1 : (i : Int) + 1 = (n1 : Int) := by omega
        have hn1b : n1 ≤ 31 := by omega
        obtain ⟨w5, G, hmk, hrow, hG1, hG2, hb5⟩ := mk_any wj n1 (by omega)
        have HN1 := Lib.hid hn1
        have HROW : Hid (RowAt w5 G (gotL (fun _ => 0) i)) := Lib.hid (by rw [← gotL_zero, hn1]; exact hrow)
        have HB5 := Lib.hid (HB.out.trans (hb5.mono HB.out.size))
        have HH5 := Lib.hid (HH.out.below hb5)
        have HR5 := Lib.hid (HR.out.keepT (KeepT.below (p := tyL) hb5) tyR_L)
        have HGL : Hid (w.heap.size ≤ G) := Lib.hid (Nat.le_trans HB.out.size hG1)
        have HTO := Lib.hid (Held.totalL HH5.out HOKL.out)
        rw [HSS.out] at HTO
        clear hrow hb5 hn1 hlt hG1 hG2
        go_wp2_with fail
        refine HTO.out.mono ?_
        rintro e w6 ⟨rfl, hb6⟩
        have HST : Hid (TwoSt w.heap.size rb rr G i S qs w w6 0 (newT qs) (fun _ => 0)) := Lib.hid ⟨HH5.out.below hb6, HOKL.out, HEV.out, rfl, HR5.out.keepT (KeepT.below (p := tyL) hb6) tyR_L, HO.out, Rn.EvenR.start _ _, HROW.out.below hb6 HROW.out.lt, HB5.out.trans (hb6.mono HB5.out.size)⟩
        clear hb6 hmk
        go_wp2_with fail
        go_loopg [9, 10, 11, 12, 65] S (fun gg _ _ _ _ s wr => ∃ (t : Nat) (lt : List Lm) (g : Nat → Nat), t ≤ S ∧ gg = S - t ∧ s = .int .i64 t ∧ TwoSt w.heap.size rb rr G i S qs w wr t lt g)
        case atStart => exact ⟨0, newT qs, fun _ => 0, Nat.zero_le _, by omega, rfl, HST.out⟩
        case round =>
          obtain ⟨t, lt, g, htS, hgg, rfl, hst⟩ := hrel
          have HGG := Lib.hid hgg
          have HT := Lib.hid hst
          clear hgg hst
          by_cases hlt : t < S
          · have hltz : (t : Int) < (S : Int) := by omega
            obtain ⟨j, x, hn, hev2⟩ := even_pick HT.out.ok.share HT.out.even (by rw [sumS_wants HT.out.wants, HSS.out]; exact hlt)
            have HV2 := Lib.hid hev2
            have HP := Lib.hid (Held.pickL HT.out.loc HT.out.ok (by omega) (IntsM.nil wr))
            have hpv : pickV (nextT (offB []) lt) = .tuple #[.int .i64 x.u, .bool true] := by rw [off_none, hn]; rfl
            rw [hpv] at HP
            obtain ⟨k, hki, hpk, hevr⟩ := HT.out.evr.pick (L := 2048) (fun a ha => ⟨(HFL.out a ha).1, by have := (HFL.out a ha).2; omega⟩) (by rw [HSF.out]; exact hlt)
            have HVR := Lib.hid hevr
            have HKP := Lib.hid (okay_pick HT.out.okr hpk)
            have HPV := Lib.hid (pick_val hpk)
            have HPK := Lib.hid hpk
            clear hn hev2 hpv hevr hpk
            go_wp2_with fail
            refine HP.out.mono ?_
            rintro e w7 ⟨rfl, hh7, hb7, hk7⟩
            have HH7 := Lib.hid hh7
            have HB7 := Lib.hid (HT.out.below.trans hb7)
            have HR7 := Lib.hid (HT.out.ring.keepT hk7 tyR_L)
            have HW7 := Lib.hid (HT.out.row.keepT hk7 tyG_L)
            have HPR := Lib.hid (HeldR.pickR HR7.out HT.out.okr)
            rw [HPV.out, HPK.out] at HPR
            obtain ⟨J, hJ⟩ : ∃ J, k + 1 = J := ⟨_, rfl⟩
            have HJJ := Lib.hid hJ
            rw [hJ] at HPR
            have hJ1 : ¬ (J : Int) < 1 := by omega
            have hJ2 : ¬ (i : Int) < (J : Int) := by omega
            have hJ3 : ¬ i < J := by omega
            have hJ4 : (J : Int) < (n1 : Int) := by omega
            have hJ5 : (0 : Int) ≤ (J : Int) := by omega
            clear hh7 hb7 hk7 hJ
            go_wp2_with fail
            refine HPR.out.mono ?_
            rintro e w8 ⟨rfl, hr8, hb8, hk8⟩
            have HR8 := Lib.hid hr8
            have HB8 := Lib.hid (HB7.out.trans hb8)
            have HH8 := Lib.hid (HH7.out.keepT hk8 tyL_R)
            have HW8 := Lib.hid (HW7.out.keepT hk8 tyG_R)
            obtain ⟨gv, hgv⟩ : ∃ gv, g k = gv := ⟨_, rfl⟩
            have HGV := Lib.hid hgv
            have hgvb : gv ≤ 64 := by
              rw [← hgv]
              exact Nat.le_trans (HT.out.evr.le k hki) (HFL.out k hki).2
            have hcell : w8.cell? ⟨G, J, none⟩ = some (.int .i64 gv) := by rw [← hgv, ← HJJ.out]; exact HW8.out.cell (gotL_at hki)
            have hfr := HW8.out.frozen J
            have HKG := Lib.hid (HW8.out.setT J ((gv : Int) + 1))
            have HROW9 : Hid (RowAt (w8.setCell ⟨G, J, none⟩ (.int .i64 ((gv : Int) + 1))) G (gotL (Rn.upG g k) i)) := Lib.hid (by
              have := HW8.out.set_ J ((gv : Int) + 1)
              rw [← HJJ.out, ← HGV.out, gotL_up hki] at this
              rw [← HJJ.out, ← HGV.out]
              exact this)
            have HST9 : Hid (TwoSt w.heap.size rb rr G i S qs w (w8.setCell ⟨G, J, none⟩ (.int .i64 ((gv : Int) + 1))) (t + 1) (pickT (fun _ => false) lt) (Rn.upG g k)) := Lib.hid (by
              refine ⟨HH8.out.keepT HKG.out tyL_G, HT.out.ok.pick _, HV2.out, (wants_pick _ HT.out.ok.share).trans HT.out.wants, HR8.out.keepT HKG.out tyR_G, HKP.out, HVR.out, HROW9.out, ?_⟩
              exact HB8.out.trans ⟨rfl, rfl, rfl, by simp [World.setCell], fun b hb => Below.heap_setCell _ _ _ _ (by have := HGL.out; show b ≠ G; omega)⟩)
            clear hr8 hb8 hk8 hgv hki
            go_wp2_with fail
            go_roundg (S - (t + 1))
            case measure => have := HGG.out; omega
            case rel => exact ⟨t + 1, _, _, by omega, rfl, by go_num, HST9.out⟩
          · have hltz : ¬ (t : Int) < (S : Int) := by omega
            have HEND := Lib.hid (even_end HT.out.even (by rw [sumS_wants HT.out.wants, HSS.out]; omega))
            have HENR := Lib.hid (HT.out.evr.end_ (by rw [HSF.out]; omega))
            have HLC0 := Lib.hid HT.out.loc
            have HLR0 := Lib.hid HT.out.row
            have HLB0 := Lib.hid HT.out.below
            go_wp2_with fail
            obtain ⟨wp, rfl⟩ : ∃ wp : World, wp = wr := ⟨_, rfl⟩
            go_loopg [13, 14, 15] i (fun gg s _ _ wr2 => ∃ (k : Nat), k ≤ i ∧ gg = i - k ∧ s = .int .i64 k ∧ Held w.heap.size wr2 rb lt ∧ RowAt wr2 G (gotL g i) ∧ Below w.heap.size w wr2)
            case atStart => exact ⟨0, Nat.zero_le _, by omega, rfl, HLC0.out, HLR0.out, HLB0.out⟩
            case round =>
              obtain ⟨k, hki, hg2, rfl, hh2, hw2, hb2⟩ := hrel
              have HG2 := Lib.hid hg2
              have HH2' := Lib.hid hh2
              have HW2' := Lib.hid hw2
              have HB2' := Lib.hid hb2
              clear hg2 hh2 hw2 hb2
              by_cases hlt2 : k < i
              · have hltz2 : (k : Int) < (i : Int) := by omega
                have hk0 : (0 : Int) ≤ (k : Int) := by omega
                obtain ⟨J, hJ⟩ : ∃ J, k + 1 = J := ⟨_, rfl⟩
                have hJi : (k : Int) + 1 = (J : Int) := by omega
                have hJ4 : (J : Int) < (n1 : Int) := by have := HN1.out; omega
                have hJ5 : (0 : Int) ≤ (J : Int) := by omega
                have HJJ := Lib.hid hJ
                obtain ⟨p, hp⟩ := ex_at (xs := qs) (k := k) (by rw [HLQ.out]; exact hlt2)
                obtain ⟨A', c', hs1, hs2, hs3, hs4, hs5⟩ := HS.out _ HB2'.out
                injection hs1 with t1 t2 t3
                subst t1 t3
                obtain ⟨bl, ol, hA, hbl, hcell⟩ := hs5 (by rw [HLQ.out]; omega)
                subst hA
                obtain ⟨x, hxm, hxp⟩ := at_want HT.out.wants (HMEM.out p (List.mem_of_getElem? hp))
                have hpb := HALL.out p (List.mem_of_getElem? hp)
                have hgk : (g k : Int) = p.2 := by rw [HENR.out k hlt2, shF_at hp]; omega
                have HYC : Hid (∀ W, Below wr.heap.size wr W → PairAt W bl (ol + k * 2) ((x.u : Int), (x.s : Int))) := Lib.hid (fun W hk => by rw [hxp]; exact (hcell k p hp).keep hk hbl)
                have hgx : (g k : Int) = (x.s : Int) := by rw [hgk, ← hxp]
                have HRC : Hid (∀ W, Below wr.heap.size wr W → W.cell? ⟨G, J, none⟩ = some (.int .i64 (x.s : Int))) := Lib.hid (fun W hk => by
                  rw [← hgx, ← hJ]
                  exact (HW2'.out.below hk HW2'.out.lt).cell (gotL_at hlt2))
                have HGT := Lib.hid (Held.gotL (x.u : Int) HH2'.out (by have := HT.out.ok.len; omega))
                rw [gotN_mem HT.out.ok hxm, HEND.out x hxm] at HGT
                have hgv : gotV (some x.s) = .tuple #[.int .i64 x.s, .bool true] := rfl
                rw [hgv] at HGT
                obtain ⟨c0, c1⟩ := HYC.out wr (Below.refl _ _)
                obtain ⟨xu, xs', xg⟩ := x
                simp only at c0 c1 HGT HYC HRC
                have hne : ((xs' : Int) != (xs' : Int)) = false := by simp
                obtain ⟨wk, rfl⟩ : ∃ wk : World, wk = wr := ⟨_, rfl⟩
                clear hcell hxm hxp hp hgv hbl hgk hgx hpb hs2 hs3 hs4 hs5 t2 hJ
                go_wp2_with fail
                refine HGT.out.mono ?_
                rintro e w9 ⟨rfl, hb9⟩
                have HB9 := Lib.hid hb9
                obtain ⟨d0, d1⟩ := HYC.out w9 hb9
                have d2 := HRC.out w9 hb9
                clear hb9 c0 c1
                go_wp2_with fail
                go_quiet (fail)
                have HKQ := Lib.hid (below_drewN HB9.out nq)
                generalize w9.drewN nq = wy at *
                have HHY := Lib.hid (HH2'.out.below HKQ.out)
                have HWY := Lib.hid (HW2'.out.below HKQ.out HW2'.out.lt)
                have HBY := Lib.hid (HB2'.out.trans (HKQ.out.mono HB2'.out.size))
                clear d0 d1 d2
                go_wp2_with fail
                go_roundg (i - (k + 1))
                case measure => have := HG2.out; omega
                case rel => exact ⟨J, by have := HJJ.out; omega, by have := HJJ.out; omega, by go_num, HHY.out, HWY.out, HBY.out⟩
              · have hltz2 : ¬ (k : Int) < (i : Int) := by omega
                go_wp2_with fail
                refine (HAW.out _).mono ?_
                rintro e w10 ⟨rfl, hb10⟩
                have HB10 := Lib.hid (HB2'.out.trans (hb10.mono HB2'.out.size))
                clear hb10
                go_wp2_with fail
                go_ret
                exact ⟨rfl, HB10.out⟩
  · have HNW := Lib.hid (new_bad 64 (.slice B q d) qs w (HS.out w HK0.out) HI.out he)
    obtain ⟨E, hE⟩ : ∃ E, newE 64 qs = E := ⟨_, rfl⟩
    rw [hE] at HNW he
    have hb0 : (E != 0) = true := by simpa using he
    clear hE he
    go_enter Tryz.func7, Tryz.ntmps7
    go_wp2_with fail
    refine HNW.out.mono ?_
    rintro e w1 ⟨rfl, hb1⟩
    have HB1 := Lib.hid hb1
    clear hb1
    go_wp2_with fail
    refine (HRN.out w1).mono ?_
    rintro e w2 ⟨rfl, _, hb2⟩
    have HB2 := Lib.hid (HB1.out.trans (hb2.mono HB1.out.size))
    clear hb2
    go_wp2_with fail
    refine (HAW.out _).mono ?_
    rintro e w3 ⟨rfl, hb3⟩
    have HB3 := Lib.hid (HB2.out.trans (hb3.mono HB2.out.size))
    clear hb3
    go_wp2_with fail
    go_ret
    exact ⟨rfl, HB3.out⟩
end Go.Proofs.YtpfpojehcjmfnaaGreat

/-
  An argument that is a plan, opened: its frame, its cores, its places, each with its pieces.
  Conditions: the reading itself.
-/
set_option linter.unusedVariables false
namespace Go.Proofs.YtpfpojehcjmfnaaGreat
open Go.ChangeShapes Go.WideShapes Go.RowKit Go.Deep

theorem Tryz.ownKnob : ownKnob Tryz.prog.godebug = none := by kernel_rfl
theorem Tryz.laidOut : laidOutB Tryz.prog = true := by kernel_rfl
theorem Tryz.cellsInt : Tryz.prog.cellsOf 3 = 1 := by kernel_rfl
theorem cell_lt {w : World} {b o : Nat} {v : Value} (h : w.cell? ⟨b, o, none⟩ = some v) : b < w.heap.size := by
  rcases Nat.lt_or_ge b w.heap.size with h1 | h1
  · exact h1
  · simp [World.cell?, Array.getElem?_eq_none h1] at h
theorem bounds_i64 {n : Int} (h : (Lit.int .i64 n).wf = true) : -9223372036854775808 ≤ n ∧ n ≤ 9223372036854775807 := by
  have e1 : IntKind.i64.min = -9223372036854775808 := by decide +kernel
  have e2 : IntKind.i64.max = 9223372036854775807 := by decide +kernel
  simp [Lit.wf] at h
  omega
def numOf : Value → Int
  | .int _ q => q
  | _ => 0
section
variable {H : Type} {enc : TypeId × Value → H} {W : World} {sp : Nat → Bool} {held : Bool}
instance : Inhabited (Value × Pl) := ⟨(undef, default)⟩
end
end Go.Proofs.YtpfpojehcjmfnaaGreat

/-
  An argument that is a slice of wants, opened: the pairs of ints that it reads as.
  Conditions: the reading itself.
-/
set_option linter.unusedVariables false
namespace Go.Proofs.YtpfpojehcjmfnaaGreat
open Go.ChangeShapes Go.WideShapes Go.RowKit Go.Deep

theorem Tryz.cellsWant : Tryz.prog.cellsOf 52 = 2 := by kernel_rfl
theorem wants_open {H : Type} {enc : TypeId × Value → H} {W : World} {sp : Nat → Bool} {held : Bool} {fuel : Nat} {sv : Value} {x : DataW H × List MemPlace}
    (h : DataW.trod enc Tryz.prog W 0 sp held fuel 23 [sv] = some x) : ∃ ps, ArgAt W sv ps ∧ IntsS ps := by
  rcases open_slice_pairs Tryz.underlying23 Tryz.underlying52 Tryz.cellsWant rfl rfl Tryz.cellsInt Tryz.cellsInt h with ⟨hcs, _⟩ | ⟨a, len, cap, m, n, V0, V1, D0, D1, P0, P1, hcs, _, hl, hm, hmm, _, hcell⟩
  · simp only [List.cons.injEq, and_true] at hcs
    subst hcs
    exact ⟨[], ⟨none, 0, rfl, Nat.le_refl _, by simp, fun _ => rfl, fun h => absurd h (by simp)⟩, by intro s hs; cases hs⟩
  · simp only [List.cons.injEq, and_true] at hcs
    subst hcs
    have hlm : len ≤ m := by rw [hmm]; split <;> omega
    have hint : ∀ i, i < len → (V0 i = .int .i64 (numOf (V0 i)) ∧ -9223372036854775808 ≤ numOf (V0 i) ∧ numOf (V0 i) ≤ 9223372036854775807) ∧ (V1 i = .int .i64 (numOf (V1 i)) ∧ -9223372036854775808 ≤ numOf (V1 i) ∧ numOf (V1 i) ≤ 9223372036854775807) := by
      intro i hi
      obtain ⟨_, _, g0, g1⟩ := hcell i (by omega)
      obtain ⟨n0, e0, _, w0⟩ := DataW.trod_int Tryz.underlying3 g0
      obtain ⟨n1, e1, _, w1⟩ := DataW.trod_int Tryz.underlying3 g1
      simp only [List.cons.injEq, and_true] at e0 e1
      rw [e0, e1]
      exact ⟨⟨rfl, bounds_i64 w0⟩, rfl, bounds_i64 w1⟩
    have hn : ((List.range len).map fun i => (numOf (V0 i), numOf (V1 i))).length = len := by simp
    refine ⟨(List.range len).map fun i => (numOf (V0 i), numOf (V1 i)), ⟨some a, cap, by rw [hn], by rw [hn]; exact hl, by unfold maxLen at hm; omega, (fun h => by cases h), fun h0 => ?_⟩, fun s hs => ?_⟩
    · rw [hn] at h0
      obtain ⟨b, off, spot⟩ := a
      have hspot : spot = none := by simpa [Addr.add] using World.cell?_spot (hcell 0 (by omega)).1
      subst hspot
      refine ⟨b, off, rfl, cell_lt (by have := (hcell 0 (by omega)).1; simpa [Addr.add] using this), fun j p hp => ?_⟩
      have hj : j < len := by
        have := (List.getElem?_eq_some_iff.1 hp).1
        omega
      have hp' : p = (numOf (V0 j), numOf (V1 j)) := by
        rw [List.getElem?_map, List.getElem?_range hj] at hp
        simpa using hp.symm
      subst hp'
      obtain ⟨q0, q1, _⟩ := hcell j (by omega)
      rw [add_plain] at q0 q1
      exact ⟨by rw [q0, ← (hint j hj).1.1], by rw [Nat.add_assoc, q1, ← (hint j hj).2.1]⟩
    · obtain ⟨i, hi, rfl⟩ := List.mem_map.1 hs
      have hi' : i < len := by simpa using hi
      exact ⟨(hint i hi').1.2, (hint i hi').2.2⟩
end Go.Proofs.YtpfpojehcjmfnaaGreat

/-
  owner, count, Loose, At and Busy of the program, At of the document.
  Conditions: the slice reads as tables.
-/
set_option linter.unusedVariables false
set_option linter.unusedSimpArgs false
namespace Go.Proofs.YtpfpojehcjmfnaaGreat
open Go.RowKit Go.Sort

/-- Whose a tick is, in a table. -/
def ownerT (x : Tb) (t : Int) : Int := if t < 0 then 0 else (x.ts[t.toNat]?).getD 0
def cntI (l : List Int) (e : Int) : Nat := l.countP fun x => decide (x = e)
/-- The first table of a core. -/
def atT : List Tb → Int → Int → Int
  | [], _, _ => 0
  | x :: r, c, t => if x.c = c then ownerT x t else atT r c t
def busyT (l : List Tb) (t : Int) : List Int := (l.map fun x => ownerT x t).filter fun u => !decide (u = 0)

set_option maxRecDepth 100000 in
set_option maxHeartbeats 2000000 in
theorem owner_any (r : Rt) (t : Int) (w : World) (h : IntsAt w (tV1 r) r.2.2.ts) (ht : Int64 t) :
    Calls Tryz.prog 65 #[tbA r, .int .i64 t] w (RetB (.int .i64 (ownerT r.2.2 t)) w) := by
  have HI := Lib.hid h
  obtain ⟨w1, P, hw1, hP, hPl, hb1, hbox⟩ := box_any w #[.int .i64 r.2.2.c, tV1 r, tV2 r] 65
  have HB1 := Lib.hid hb1
  obtain ⟨r0, r1, r2⟩ := three_heads hbox
  obtain ⟨ht1, ht2⟩ := ht
  unfold tbA
  unfold tV1 at *
  have hlen : r.2.2.ts.length ≤ 9223372036854775807 := by obtain ⟨_, _, _, h, _⟩ := HI.out; exact h
  obtain ⟨n, hn⟩ : ∃ n, r.2.2.ts.length = n := ⟨_, rfl⟩
  rw [hn] at HI hw1 r1 hlen ⊢
  have HN := Lib.hid hn
  have HOW := Lib.hid (show ownerT r.2.2 t = if t < 0 then 0 else (r.2.2.ts[t.toNat]?).getD 0 from rfl)
  clear h hb1 hbox hn
  by_cases h0 : t < 0
  · rw [if_pos h0] at HOW
    go_enter Tryz.func65, Tryz.ntmps65
    go_wp2_with fail
    go_ret
    exact ⟨ret_int HOW.out.symm, HB1.out⟩
  · rw [if_neg h0] at HOW
    obtain ⟨k, rfl⟩ : ∃ k : Nat, t = (k : Int) := ⟨t.toNat, by omega⟩
    rw [Int.toNat_natCast] at HOW
    by_cases hk : k < n
    · have hk1 : ¬ ((n : Int) ≤ (k : Int)) := by omega
      have hk2 : (k : Int) < (n : Int) := by omega
      have hk0 : (0 : Int) ≤ (k : Int) := by omega
      obtain ⟨q, hq⟩ := exP_at (xs := r.2.2.ts) (k := k) (by rw [HN.out]; exact hk)
      rw [hq, Option.getD_some] at HOW
      obtain ⟨A', c', e, _, h3⟩ := HI.out
      obtain ⟨b, off, e4, hbl, hc⟩ := h3 (by rw [HN.out]; omega)
      injection e with e1 e2 e3
      rw [e4] at e1
      rw [e1] at hw1 r1 ⊢
      have c0 := (HB1.out.cell (p := ⟨b, off + k, none⟩) hbl).trans (hc k q hq)
      clear h3 hc e2 e3 hq e4 e1
      go_enter Tryz.func65, Tryz.ntmps65
      go_wp2_with fail
      go_ret
      exact ⟨ret_int HOW.out.symm, HB1.out⟩
    · have hk1 : (n : Int) ≤ (k : Int) := by omega
      rw [List.getElem?_eq_none (by rw [HN.out]; omega), Option.getD_none] at HOW
      go_enter Tryz.func65, Tryz.ntmps65
      go_wp2_with fail
      go_ret
      exact ⟨ret_int HOW.out.symm, HB1.out⟩

theorem cntI_le (l : List Int) (e : Int) : cntI l e ≤ l.length := List.countP_le_length

theorem atPred_any (c : Int) (B : Nat) (r : Rt) (W : World) (hB : B < W.heap.size) (hc : W.cell? ⟨B, 0, none⟩ = some (.int .i64 c)) :
    Calls Tryz.prog 64 #[tbA r, .pointer (some ⟨B, 0, none⟩)] W (RetB (.bool (decide (r.2.2.c = c))) W) := by
  obtain ⟨w1, P, hw1, hP, hPl, hb1, hbox⟩ := box_any W #[.int .i64 r.2.2.c, tV1 r, tV2 r] 65
  have HB1 := Lib.hid hb1
  obtain ⟨r0, r1, r2⟩ := three_heads hbox
  have c0 := (hb1.cell (p := ⟨B, 0, none⟩) hB).trans hc
  have hd : (r.2.2.c == c) = decide (r.2.2.c = c) := by by_cases h : r.2.2.c = c <;> simp [h]
  have HD := Lib.hid hd
  clear hb1 hbox hd hc
  unfold tbA
  go_enter Tryz.func64, Tryz.ntmps64
  go_wp2_with fail
  go_ret
  exact ⟨by rw [← HD.out]; rfl, HB1.out⟩
def FirstTb (c : Int) (l : List Tb) (r : Int) : Prop :=
  (r = -1 ∧ ∀ x ∈ l, x.c ≠ c) ∨ ∃ (k : Nat) (x : Tb), r = k ∧ l[k]? = some x ∧ x.c = c ∧ ∀ (j : Nat) (y : Tb), j < k → l[j]? = some y → y.c ≠ c
theorem at_none {l : List Tb} {c t : Int} (h : ∀ x ∈ l, x.c ≠ c) : atT l c t = 0 := by
  induction l with
  | nil => rfl
  | cons x r ih =>
    rw [atT, if_neg (h x (by simp)), ih fun y hy => h y (by simp [hy])]
theorem at_first {c t : Int} : ∀ {l : List Tb} {k : Nat} {x : Tb}, l[k]? = some x → x.c = c → (∀ (j : Nat) (y : Tb), j < k → l[j]? = some y → y.c ≠ c) → atT l c t = ownerT x t
  | [], k, x, h, _, _ => by simp at h
  | y :: r, 0, x, h, hc, _ => by
    simp at h
    subst h
    rw [atT, if_pos hc]
  | y :: r, k + 1, x, h, hc, hn => by
    rw [atT, if_neg (hn 0 y (by omega) rfl)]
    exact at_first (by simpa using h) hc fun j z hj hz => hn (j + 1) z (by omega) (by simpa using hz)

set_option maxRecDepth 100000 in
set_option maxHeartbeats 2000000 in
theorem index_tb (c : Int) (B : Nat) (v : Value) (l : List Tb) (w : World) (h : TabsAt w v l) (hl : l.length ≤ 1000) (hB : B < w.heap.size) (hc : w.cell? ⟨B, 0, none⟩ = some (.int .i64 c)) :
    Calls Tryz.prog 63 #[v, .func (.func 64) #[] #[.pointer (some ⟨B, 0, none⟩)]] w (fun e w' => ∃ r, e = .returned (.int .i64 r) ∧ FirstTb c l r ∧ Below w.heap.size w w') := by
  have eg : ∀ args w, (callFunc 64 args).run Tryz.prog w = .ok (.enter 64 args) w := enters_of Tryz.func64 (by kernel_rfl) rfl
  obtain ⟨A, cA, rfl, hlc, hcm⟩ := h.form
  have HL := Lib.hid h
  obtain ⟨n, hn⟩ : ∃ n, l.length = n := ⟨_, rfl⟩
  rw [hn] at HL hl hlc ⊢
  have HN := Lib.hid hn
  have HBC := Lib.hid hc
  have HBL := Lib.hid hB
  clear h hn hc hB
  go_enter Tryz.func63, Tryz.ntmps63
  go_wp2
  go_loopg [5, 8] n (fun gg _ s8 wr => ∃ k : Nat, k ≤ n ∧ gg = n - k ∧ s8 = .int .i64 k ∧ Below w.heap.size w wr ∧ ∀ (j : Nat) (y : Tb), j < k → l[j]? = some y → y.c ≠ c)
  case atStart => exact ⟨0, Nat.zero_le _, by omega, rfl, Below.refl _ w, fun j t hj => absurd hj (Nat.not_lt_zero _)⟩
  case round =>
    obtain ⟨k, hk, hg, rfl, hbw, hall⟩ := hrel
    have HB := Lib.hid hbw
    have HALL := Lib.hid hall
    have HG := Lib.hid hg
    clear hbw hall hg
    by_cases hlt : k < n
    · have hltz : (k : Int) < (n : Int) := by omega
      have hk0 : (0 : Int) ≤ (k : Int) := by omega
      obtain ⟨x, hx⟩ := exP_at (xs := l) (k := k) (by rw [HN.out]; exact hlt)
      obtain ⟨b, off, A1, c1, A2, c2, hA, hbl, g0, g1, g2, _, _⟩ := (HL.out.keep HB.out).at_ hx
      subst hA
      have HX := Lib.hid hx
      have HCA := Lib.hid (atPred_any c B ((A1, c1), (A2, c2), x) wr (Nat.lt_of_lt_of_le HBL.out HB.out.size) ((HB.out.cell (p := ⟨B, 0, none⟩) HBL.out).trans HBC.out))
      unfold tbA tV1 tV2 at HCA
      simp only at HCA
      clear hx
      by_cases he : x.c = c
      · rw [decide_eq_true he] at HCA
        have HE := Lib.hid he
        clear he
        go_wp2_with (go_at_fn 64; refine HCA.out.mono ?_; rintro e w' ⟨rfl, hb'⟩)
        go_ret
        exact ⟨k, rfl, .inr ⟨k, _, rfl, HX.out, HE.out, HALL.out⟩, HB.out.trans (hb'.mono HB.out.size)⟩
      · rw [decide_eq_false he] at HCA
        have HE := Lib.hid he
        clear he
        go_wp2_with (go_at_fn 64; refine HCA.out.mono ?_; rintro e w' ⟨rfl, hb'⟩)
        go_roundg (n - (k + 1))
        case measure => have := HG.out; omega
        case rel =>
          refine ⟨k + 1, by omega, rfl, by go_num, HB.out.trans (hb'.mono HB.out.size), fun j t hj ht => ?_⟩
          by_cases e : j = k
          · subst e
            have := HX.out
            rw [this] at ht
            rw [← Option.some.inj ht]
            exact HE.out
          · exact HALL.out j t (by omega) ht
    · have hltz : ¬ (k : Int) < (n : Int) := by omega
      go_wp2
      go_ret
      refine ⟨-1, rfl, .inl ⟨rfl, fun s hs => ?_⟩, HB.out⟩
      obtain ⟨j, hj, e⟩ := List.getElem_of_mem hs
      exact HALL.out j s (by have := HN.out; omega) (by rw [List.getElem?_eq_getElem hj, e])

/-- What At tells. -/
def RetAt (u : Int) (w : World) (e : Ending) (w' : World) : Prop := ∃ b : Bool, e = .returned (.tuple #[.int .i64 u, .bool b]) ∧ Hid (b = decide (u ≠ 0)) ∧ Below w.heap.size w w'

set_option maxRecDepth 100000 in
set_option maxHeartbeats 2000000 in
theorem tabAt_any (v : Value) (l : List Tb) (c t : Int) (w : World) (h : TabsAt w v l) (hl : l.length ≤ 1000) (ht : Int64 t) :
    Calls Tryz.prog 32 #[v, .int .i64 c, .int .i64 t] w (RetAt (atT l c t) w) := by
  obtain ⟨A, cA, rfl, hlc, hcm⟩ := h.form
  obtain ⟨w1, B, hw1, hB, hBl, hb1, hbox⟩ := box_any w #[.int .i64 c] 3
  have r0 : w1.cell? ⟨B, 0, none⟩ = some (.int .i64 c) := by rw [cell_of_row w1 B 0 _ _ (0, 0) hbox]; rfl
  have HB1 := Lib.hid hb1
  have HL := Lib.hid (h.keep hb1)
  have HI := Lib.hid (index_tb c B _ l w1 (h.keep hb1) hl hBl r0)
  obtain ⟨n, hn⟩ : ∃ n, l.length = n := ⟨_, rfl⟩
  rw [hn] at HL HI hl hlc ⊢
  have HN := Lib.hid hn
  have HT := Lib.hid ht
  clear h hb1 hbox hn ht
  go_enter Tryz.func32, Tryz.ntmps32
  go_wp2_with fail
  refine HI.out.mono ?_
  rintro e w2 ⟨r, rfl, hf, hb2⟩
  have HB2 := Lib.hid (HB1.out.trans (hb2.mono HB1.out.size))
  have HL2 := Lib.hid (HL.out.keep hb2)
  clear r0 hb2 hw1 hB
  rcases hf with ⟨rfl, hf⟩ | ⟨k, x, rfl, hx, hxc, hf⟩
  · have HE := Lib.hid (at_none (t := t) hf)
    clear hf
    go_wp2_with fail
    go_ret2
    exact ⟨false, by rw [HE.out]; rfl, Lib.hid (by rw [HE.out]; rfl), HB2.out⟩
  · have HE := Lib.hid (at_first (t := t) hx hxc hf)
    obtain ⟨b, off, A1, c1, A2, c2, hA, hbl, g0, g1, g2, hit, _⟩ := HL2.out.at_ hx
    subst hA
    have hk := (List.getElem?_eq_some_iff.1 hx).1
    have hkn : k < n := by rw [← HN.out]; exact hk
    have hk0 : ¬ (k : Int) < 0 := by omega
    have hk1 : (0 : Int) ≤ (k : Int) := by omega
    have hkz : (k : Int) < (n : Int) := by omega
    have HOW := Lib.hid (owner_any ((A1, c1), (A2, c2), x) t w2 hit HT.out)
    unfold tbA tV1 tV2 at HOW
    simp only at HOW
    obtain ⟨u, hu⟩ : ∃ u, ownerT x t = u := ⟨_, rfl⟩
    rw [hu] at HOW HE
    clear hf hx hxc hit hu hk
    go_wp2_with fail
    refine HOW.out.mono ?_
    rintro e w3 ⟨rfl, hb3⟩
    have HB3 := Lib.hid (HB2.out.trans (hb3.mono HB2.out.size))
    clear hb3 g0 g1 g2
    by_cases hz : u = 0
    · have hz1 : (u != 0) = false := by simpa using hz
      have HZ := Lib.hid hz
      clear hz
      go_wp2_with fail
      go_ret2
      exact ⟨false, by rw [HE.out]; rfl, Lib.hid (by rw [HE.out, HZ.out]; rfl), HB3.out⟩
    · have hz1 : (u != 0) = true := by simpa using hz
      have HZ := Lib.hid hz
      clear hz
      go_wp2_with fail
      go_ret2
      exact ⟨true, by rw [HE.out]; rfl, Lib.hid (by rw [HE.out, decide_eq_true HZ.out]), HB3.out⟩
end Go.Proofs.YtpfpojehcjmfnaaGreat
