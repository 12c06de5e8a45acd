/-
  The stable sort of a row of indices that rise: a permutation, sorted by falling keys, then by themselves.
  Conditions: at most 64 indices; the comparison answers by keys.
-/
import Derived.Test.YtnigoojjbljibaaMergeC
set_option linter.unusedVariables false
namespace Go.Proofs.Ytnigoojjbljibaa
open Go.RowKit

section
variable (key : Nat → Int) (n : Nat)
/-- All below a sorted in blocks of 20; from a on nothing is turned. -/
structure Ph1 (a : Nat) (d : Nat → Nat) : Prop where
  rest : ∀ i, a ≤ i → d i = i
  srt : ∀ i j, i < j → j < a → i / 20 = j / 20 → bef key (d i) (d j)
  ins : ∀ i, i < n → d i / 20 = i / 20
  perm : PermOn 0 n id d
/-- Below a sorted in blocks of 40, from there on in blocks of 20. -/
structure Ph2 (a : Nat) (d : Nat → Nat) : Prop where
  lo : ∀ i j, i < j → j < n → j < a → i / 40 = j / 40 → bef key (d i) (d j)
  hi : ∀ i j, a ≤ i → i < j → j < n → i / 20 = j / 20 → bef key (d i) (d j)
  i40 : ∀ i, i < n → d i / 40 = i / 40
  i20 : ∀ i, a ≤ i → i < n → d i / 20 = i / 20
  perm : PermOn 0 n id d
/-- All sorted in blocks of 40. -/
structure Ph4 (d : Nat → Nat) : Prop where
  srt : ∀ i j, i < j → j < n → i / 40 = j / 40 → bef key (d i) (d j)
  i40 : ∀ i, i < n → d i / 40 = i / 40
  perm : PermOn 0 n id d
end

section
variable {key : Nat → Int} {n a : Nat} {d d' : Nat → Nat}
theorem ph1_start : Ph1 key n 0 id := ⟨fun _ _ => rfl, fun i j h1 h2 => by omega, fun _ _ => rfl, PermOn.refl _ _ _⟩
theorem Ph1.inb (h : Ph1 key n a d) : InB n d := h.perm.inB (Nat.le_refl _) (fun i hi => hi)
theorem Ph1.up (h : Ph1 key n a d) {b : Nat} : ∀ i j, a ≤ i → i < j → j < b → d i < d j := fun i j h1 h2 h3 => by rw [h.rest i h1, h.rest j (by omega)]; exact h2
theorem Ph1.next (h : Ph1 key n a d) {b : Nat} (hb : b ≤ n) (ha : a % 20 = 0) (hab : a ≤ b) (hb2 : b ≤ a + 20) (hp : PermOn a b d d') (hs : SortedIn key a b d') : Ph1 key n b d' := by
  refine ⟨fun i hi => by rw [hp.out (.inr hi)]; exact h.rest i (by omega), fun i j h1 h2 h3 => ?_, fun i hi => ?_, h.perm.trans (hp.mono (Nat.zero_le _) hb)⟩
  · by_cases c : j < a
    · rw [hp.out (i := i) (.inl (by omega)), hp.out (i := j) (.inl c)]; exact h.srt i j h1 c h3
    · exact hs i j (by omega) h1 h2
  · by_cases c : a ≤ i ∧ i < b
    · have := hp.all (Q := fun x => x / 20 = a / 20) (fun k h1 h2 => by rw [h.rest k h1]; omega) i c.1 c.2
      omega
    · rw [hp.out (i := i) (by omega)]; exact h.ins i hi
theorem Ph1.two (h : Ph1 key n n d) : Ph2 key n 0 d :=
  ⟨fun i j h1 h2 h3 => by omega, fun i j h0 h1 h2 h3 => h.srt i j h1 h2 h3, fun i hi => by have := h.ins i hi; omega, fun i _ hi => h.ins i hi, h.perm⟩
theorem Ph1.all (h : Ph1 key n n d) (hn : n ≤ 20) : SortedIn key 0 n d := fun i j h0 h1 h2 => h.srt i j h1 h2 (by omega)

theorem Ph2.inb (h : Ph2 key n a d) : InB n d := h.perm.inB (Nat.le_refl _) (fun i hi => hi)
theorem Ph2.one (h : Ph2 key n 0 d) (hn : 40 ≤ n) (hp : PermOn 0 40 d d') (hs : SortedIn key 0 40 d') : Ph2 key n 40 d' := by
  refine ⟨fun i j h1 h2 h3 h4 => hs i j (Nat.zero_le _) h1 h3, fun i j h0 h1 h2 h3 => ?_, fun i hi => ?_, fun i h0 hi => ?_, h.perm.trans (hp.mono (Nat.le_refl _) hn)⟩
  · rw [hp.out (i := i) (.inr h0), hp.out (i := j) (.inr (by omega))]; exact h.hi i j (Nat.zero_le _) h1 h2 h3
  · by_cases c : i < 40
    · have := hp.all (Q := fun x => x / 40 = 0) (fun k h1 h2 => by have := h.i40 k (by omega); omega) i (Nat.zero_le _) c
      omega
    · rw [hp.out (i := i) (.inr (by omega))]; exact h.i40 i hi
  · rw [hp.out (i := i) (.inr h0)]; exact h.i20 i (Nat.zero_le _) hi
/-- Behind the last merge of blocks of 20. -/
theorem Ph2.few (h : Ph2 key n 0 d) (hn : n < 40) (hp : PermOn 0 n d d') (hs : SortedIn key 0 n d') : Ph4 key n d' := by
  refine ⟨fun i j h1 h2 _ => hs i j (Nat.zero_le _) h1 h2, fun i hi => ?_, h.perm.trans hp⟩
  have := hp.all (Q := fun x => x / 40 = 0) (fun k h1 h2 => by have := h.i40 k h2; omega) i (Nat.zero_le _) hi
  omega
theorem Ph2.last (h : Ph2 key n 40 d) (hn : n ≤ 64) (h4 : 40 ≤ n) (hp : PermOn 40 n d d') (hs : SortedIn key 40 n d') : Ph4 key n d' := by
  refine ⟨fun i j h1 h2 h3 => ?_, fun i hi => ?_, h.perm.trans (hp.mono (Nat.zero_le _) (Nat.le_refl _))⟩
  · by_cases c : j < 40
    · rw [hp.out (i := i) (.inl (by omega)), hp.out (i := j) (.inl c)]; exact h.lo i j h1 h2 c h3
    · exact hs i j (by omega) h1 h2
  · by_cases c : i < 40
    · rw [hp.out (i := i) (.inl c)]; exact h.i40 i hi
    · have := hp.all (Q := fun x => x / 40 = 1) (fun k h1 h2 => by have := h.i40 k h2; omega) i (by omega) hi
      omega
theorem Ph2.none (h : Ph2 key n 40 d) (hn : n ≤ 60) : Ph4 key n d :=
  ⟨fun i j h1 h2 h3 => by
    by_cases c : j < 40
    · exact h.lo i j h1 h2 c h3
    · exact h.hi i j (by omega) h1 h2 (by omega), h.i40, h.perm⟩
theorem Ph4.inb (h : Ph4 key n d) : InB n d := h.perm.inB (Nat.le_refl _) (fun i hi => hi)
theorem Ph4.all (h : Ph4 key n d) (hn : n ≤ 40) : SortedIn key 0 n d := fun i j h0 h1 h2 => h.srt i j h1 h2 (by omega)
end

/-- Sorted, whole. -/
def Done (key : Nat → Int) (n : Nat) (d : Nat → Nat) : Prop := PermOn 0 n id d ∧ SortedIn key 0 n d

def Rel1 (W0 : World) (g n : Nat) (key : Nat → Int) (q : Nat) (s t : Value) (wr : World) : Prop :=
  ∃ (a : Nat) (d : Nat → Nat), s = .int .i64 a ∧ t = .int .i64 ((a + 20 : Nat) : Int) ∧ a % 20 = 0 ∧ a ≤ n ∧ q + a = n ∧ St W0 g n d wr ∧ Ph1 key n a d
/-- The block's size, and what holds at it. -/
def RelZ (W0 : World) (g n : Nat) (key : Nat → Int) (q : Nat) (s : Value) (wr : World) : Prop :=
  ∃ d : Nat → Nat, St W0 g n d wr ∧ ((s = .int .i64 20 ∧ q = 2 ∧ Ph1 key n n d) ∨ (s = .int .i64 40 ∧ q = 1 ∧ 20 < n ∧ Ph4 key n d) ∨ (s = .int .i64 80 ∧ q = 0 ∧ 40 < n ∧ Done key n d))
def Rel2 (W0 : World) (g n : Nat) (key : Nat → Int) (q : Nat) (s t : Value) (wr : World) : Prop :=
  ∃ d : Nat → Nat, St W0 g n d wr ∧ ((s = .int .i64 0 ∧ t = .int .i64 40 ∧ q = 1 ∧ Ph2 key n 0 d) ∨ (s = .int .i64 40 ∧ t = .int .i64 80 ∧ q = 0 ∧ 40 ≤ n ∧ Ph2 key n 40 d))

set_option maxRecDepth 100000 in
set_option maxHeartbeats 4000000 in
theorem stable_any (W0 W : World) (g n c : Nat) (cb : Value) (key : Nat → Int) (hcmp : CmpOk W0 g n cb key) (hs : St W0 g n id W) (hn : n ≤ 64) :
    Calls Try.prog 23 #[.slice (some ⟨g, 0, none⟩) n c, .int .i64 n, .func (.func 19) #[] #[cb]] W (SortPost (Done key n) W0 g n) := by
  have HC := Lib.hid hcmp
  have HS := Lib.hid hs
  clear hcmp hs
  go_enter Try.func23, Try.ntmps23
  go_wp2_with fail
  go_loopg [7, 8] n (fun q s t wr => Rel1 W0 g n key q s t wr)
  case atStart => exact ⟨0, id, rfl, rfl, rfl, Nat.zero_le _, rfl, HS.out, ph1_start⟩
  case round =>
    obtain ⟨a, d, rfl, rfl, ha, han, hq, hst, hph⟩ := hrel
    have HQ := Lib.hid hq
    have HST := Lib.hid hst
    have HPH := Lib.hid hph
    clear hq hst hph
    obtain ⟨b, hb⟩ : ∃ b, b = a + 20 := ⟨_, rfl⟩
    rw [← hb]
    have HA := Lib.hid ha
    have HB := Lib.hid hb
    have hb64 : b ≤ 84 := by omega
    clear ha hb
    by_cases hbn : b ≤ n
    · go_wp2_with fail
      refine (insertion_any W0 wr g n c a b cb key d HC.out HST.out HPH.out.inb (by have := HB.out; omega) hbn hn HPH.out.up).mono ?_
      rintro e w1 ⟨rfl, d1, hst1, hp1, hs1⟩
      have HST1 := Lib.hid hst1
      have HPH1 := Lib.hid (HPH.out.next hbn HA.out (by have := HB.out; omega) (by have := HB.out; omega) hp1 hs1)
      clear hst1 hp1 hs1
      go_wp2_with fail
      go_roundg (n - b)
      case measure => have := HQ.out; have := HB.out; omega
      case rel => exact ⟨b, d1, rfl, by go_num, by have := HA.out; have := HB.out; omega, hbn, by omega, HST1.out, HPH1.out⟩
    · have hbn' : n < b := by omega
      go_wp2_with fail
      refine (insertion_any W0 wr g n c a n cb key d HC.out HST.out HPH.out.inb han (Nat.le_refl _) hn HPH.out.up).mono ?_
      rintro e w1 ⟨rfl, d1, hst1, hp1, hs1⟩
      have HST1 := Lib.hid hst1
      have HPH1 := Lib.hid (HPH.out.next (Nat.le_refl _) HA.out han (by have := HB.out; omega) hp1 hs1)
      clear hst1 hp1 hs1
      go_wp2_with fail
      go_loopg [6] 2 (fun q s wr => RelZ W0 g n key q s wr)
      case atStart => exact ⟨d1, HST1.out, .inl ⟨rfl, rfl, HPH1.out⟩⟩
      case round =>
        obtain ⟨e, hst, hcase⟩ := hrel
        have HSTz := Lib.hid hst
        clear hst
        rcases hcase with ⟨rfl, hq, hph⟩ | ⟨rfl, hq, h20, hph⟩ | ⟨rfl, hq, h40, hdone⟩
        · have HQz := Lib.hid hq
          have HPz := Lib.hid hph
          clear hq hph
          by_cases h20 : 20 < n
          · have hP2 := Lib.hid HPz.out.two
            have t20 : decide ((20 : Int) < (n : Int)) = true := decide_eq_true (by omega)
            go_wp2_with fail
            go_loopg [7, 8] 1 (fun q s t wr => Rel2 W0 g n key q s t wr)
            case atStart => exact ⟨e, HSTz.out, .inl ⟨rfl, rfl, rfl, hP2.out⟩⟩
            case round =>
              obtain ⟨f, hst, hcase⟩ := hrel
              have HSTf := Lib.hid hst
              clear hst
              rcases hcase with ⟨rfl, rfl, hq, hph⟩ | ⟨rfl, rfl, hq, h40, hph⟩
              · have HQf := Lib.hid hq
                have HPf := Lib.hid hph
                clear hq hph
                by_cases h40 : 40 ≤ n
                · have hz : (0 : Int) + 20 = 20 := rfl
                  go_wp2_with fail
                  refine (sym_any W0 g n c cb key 65 wr 0 20 40 f (by omega) ⟨HC.out, HSTf.out, HPf.out.inb, by omega, by omega, h40, hn, (fun i j h1 h2 h3 => HPf.out.hi i j (Nat.zero_le _) h2 (by omega) (by omega)), (fun i j h1 h2 h3 => HPf.out.hi i j (Nat.zero_le _) h2 (by omega) (by omega)),
                    (fun p q h1 h2 h3 h4 => by have := HPf.out.i20 p (Nat.zero_le _) (by omega); have := HPf.out.i20 q (Nat.zero_le _) (by omega); omega)⟩).mono ?_
                  rintro e' w2 ⟨rfl, f1, hst2, hp2, hs2⟩
                  have HST2 := Lib.hid hst2
                  have HP2 := Lib.hid (HPf.out.one h40 hp2 hs2)
                  clear hst2 hp2 hs2
                  go_wp2_with fail
                  go_roundg 0
                  case measure => have := HQf.out; omega
                  case rel => exact ⟨f1, HST2.out, .inr ⟨rfl, rfl, rfl, h40, HP2.out⟩⟩
                · have h40' : n < 40 := by omega
                  clear h40
                  go_wp2_with fail
                  refine (sym_any W0 g n c cb key 65 wr 0 20 n f (by omega) ⟨HC.out, HSTf.out, HPf.out.inb, by omega, h20, Nat.le_refl _, hn, (fun i j h1 h2 h3 => HPf.out.hi i j (Nat.zero_le _) h2 (by omega) (by omega)), (fun i j h1 h2 h3 => HPf.out.hi i j (Nat.zero_le _) h2 (by omega) (by omega)),
                    (fun p q h1 h2 h3 h4 => by have := HPf.out.i20 p (Nat.zero_le _) (by omega); have := HPf.out.i20 q (Nat.zero_le _) (by omega); omega)⟩).mono ?_
                  rintro e' w2 ⟨rfl, f1, hst2, hp2, hs2⟩
                  have HST2 := Lib.hid hst2
                  have HP2 := Lib.hid (HPf.out.few h40' hp2 hs2)
                  clear hst2 hp2 hs2
                  go_wp2_with fail
                  go_roundg 1
                  case measure => have := HQz.out; omega
                  case rel => exact ⟨f1, HST2.out, .inr (.inl ⟨rfl, rfl, h20, HP2.out⟩)⟩
              · have HQf := Lib.hid hq
                have HPf := Lib.hid hph
                clear hq hph
                have h80 : n < 80 := by omega
                by_cases h60 : 60 < n
                · go_wp2_with fail
                  refine (sym_any W0 g n c cb key 65 wr 40 60 n f (by omega) ⟨HC.out, HSTf.out, HPf.out.inb, by omega, h60, Nat.le_refl _, hn, (fun i j h1 h2 h3 => HPf.out.hi i j h1 h2 (by omega) (by omega)), (fun i j h1 h2 h3 => HPf.out.hi i j (by omega) h2 (by omega) (by omega)),
                    (fun p q h1 h2 h3 h4 => by have := HPf.out.i20 p h1 (by omega); have := HPf.out.i20 q (by omega) (by omega); omega)⟩).mono ?_
                  rintro e' w2 ⟨rfl, f1, hst2, hp2, hs2⟩
                  have HST2 := Lib.hid hst2
                  have HP2 := Lib.hid (HPf.out.last hn h40 hp2 hs2)
                  clear hst2 hp2 hs2
                  go_wp2_with fail
                  go_roundg 1
                  case measure => have := HQz.out; omega
                  case rel => exact ⟨f1, HST2.out, .inr (.inl ⟨rfl, rfl, h20, HP2.out⟩)⟩
                · have h60' : n ≤ 60 := by omega
                  have HP2 := Lib.hid (HPf.out.none h60')
                  clear h60
                  go_wp2_with fail
                  go_roundg 1
                  case measure => have := HQz.out; omega
                  case rel => exact ⟨f, HSTf.out, .inr (.inl ⟨rfl, rfl, h20, HP2.out⟩)⟩
          · have h20' : n ≤ 20 := by omega
            have HD := Lib.hid (show Done key n e from ⟨HPz.out.perm, HPz.out.all h20'⟩)
            clear h20
            go_wp2_with fail
            go_end0
            exact ⟨rfl, _, HSTz.out, HD.out⟩
        · have HQz := Lib.hid hq
          have HPz := Lib.hid hph
          clear hq hph
          by_cases h40 : 40 < n
          · have h80 : n < 80 := by omega
            have t40 : decide ((40 : Int) < (n : Int)) = true := decide_eq_true (by omega)
            have t80 : decide ((80 : Int) ≤ (n : Int)) = false := decide_eq_false (by omega)
            go_wp2_with fail
            refine wp_loop_rounds 1 ?_
            rw [rounds_succ]
            go_wp2_with fail
            refine (sym_any W0 g n c cb key 65 wr 0 40 n e (by omega) ⟨HC.out, HSTz.out, HPz.out.inb, by omega, h40, Nat.le_refl _, hn, (fun i j h1 h2 h3 => HPz.out.srt i j h2 (by omega) (by omega)), (fun i j h1 h2 h3 => HPz.out.srt i j h2 (by omega) (by omega)),
              (fun p q h1 h2 h3 h4 => by have := HPz.out.i40 p (by omega); have := HPz.out.i40 q (by omega); omega)⟩).mono ?_
            rintro e' w2 ⟨rfl, f1, hst2, hp2, hs2⟩
            have HST2 := Lib.hid hst2
            have HD := Lib.hid (show Done key n f1 from ⟨HPz.out.perm.trans hp2, hs2⟩)
            clear hst2 hp2 hs2
            go_wp2_with fail
            go_roundg 0
            case measure => have := HQz.out; omega
            case rel => exact ⟨f1, HST2.out, .inr (.inr ⟨rfl, rfl, h40, HD.out⟩)⟩
          · have h40' : n ≤ 40 := by omega
            have HD := Lib.hid (show Done key n e from ⟨HPz.out.perm, HPz.out.all h40'⟩)
            clear h40
            go_wp2_with fail
            go_end0
            exact ⟨rfl, _, HSTz.out, HD.out⟩
        · have HD := Lib.hid hdone
          have h80 : n < 80 := by omega
          clear hdone
          go_wp2_with fail
          go_end0
          exact ⟨rfl, _, HSTz.out, HD.out⟩

theorem sortStable_any (W0 W : World) (g n c : Nat) (cb : Value) (key : Nat → Int) (hcmp : CmpOk W0 g n cb key) (hs : St W0 g n id W) (hn : n ≤ 64) :
    Calls Try.prog 18 #[.slice (some ⟨g, 0, none⟩) n c, .func (.func 19) #[] #[cb]] W (SortPost (Done key n) W0 g n) := by
  have HC := Lib.hid (stable_any W0 W g n c cb key hcmp hs hn)
  clear hcmp hs
  go_enter Try.func18, Try.ntmps18
  go_wp2_with fail
  refine HC.out.mono ?_
  rintro e w1 ⟨rfl, h⟩
  have H := Lib.hid h
  clear h
  go_wp2_with fail
  go_end0
  exact ⟨rfl, H.out⟩
end Go.Proofs.Ytnigoojjbljibaa
