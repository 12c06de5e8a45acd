/-
  A reader behind a pointer: where it lies; Open, Err, Left, End, fail, Num; of no reader nothing is read.
  Conditions: Open for no more than 100000 bytes.
-/
import Derived.Test.YtaffcpjhaacadaaPut
import Derived.Test.YtaffcpjhaacadaaLead
set_option linter.unusedVariables false
namespace Go.Proofs.Ytaffcpjhaacadaa
open Go.RowKit

/-- But for the blocks of F, what was there is as it was. -/
structure Apart (F : Nat → Prop) (w w' : World) : Prop where
  os : w'.os = w.os
  tape : w'.tape = w.tape
  output : w'.output = w.output
  size : w.heap.size ≤ w'.heap.size
  block : ∀ k, k < w.heap.size → ¬ F k → w'.heap[k]? = w.heap[k]?
theorem Apart.refl (F : Nat → Prop) (w : World) : Apart F w w := ⟨rfl, rfl, rfl, Nat.le_refl _, fun _ _ _ => rfl⟩
theorem Apart.trans {F F' : Nat → Prop} {a b c : World} (h : Apart F a b) (k : Apart F' b c) (hF : ∀ x, x < a.heap.size → F' x → F x) : Apart F a c :=
  ⟨k.os.trans h.os, k.tape.trans h.tape, k.output.trans h.output, Nat.le_trans h.size k.size, fun x hx hn => (k.block x (Nat.lt_of_lt_of_le hx h.size) (fun hf => hn (hF x hx hf))).trans (h.block x hx hn)⟩
theorem Apart.of_below {F : Nat → Prop} {w w' : World} (h : Below w.heap.size w w') : Apart F w w' := ⟨h.os, h.tape, h.output, h.size, fun k hk _ => h.block k hk⟩
theorem Apart.below {F : Nat → Prop} {B : Nat} {w w' : World} (h : Apart F w w') (hB : B ≤ w.heap.size) (hF : ∀ k, k < B → ¬ F k) : Below B w w' :=
  ⟨h.os, h.tape, h.output, h.size, fun k hk => h.block k (by omega) (hF k hk)⟩
theorem Apart.set {F : Nat → Prop} {a w : World} (h : Apart F a w) {p : Addr} (hp : F p.block ∨ a.heap.size ≤ p.block) (u : Value) : Apart F a (w.setCell p u) :=
  h.trans (F' := fun k => k = p.block) ⟨rfl, rfl, rfl, by simp [World.setCell], fun k hk hn => Below.heap_setCell _ _ _ _ hn⟩ (fun x hx e => by
    subst e
    rcases hp with hp | hp
    · exact hp
    · omega)
theorem Apart.drewN {F : Nat → Prop} {a w : World} (h : Apart F a w) (n : Nat) : Apart F a (w.drewN n) := ⟨h.os, h.tape, h.output, h.size, h.block⟩

theorem BytesAt.apart {F : Nat → Prop} {W W' : World} {v : Value} {xs : List Nat} (h : BytesAt W v xs) (ha : Apart F W W') (hF : ∀ k, v.ownBlock = some k → ¬ F k) : BytesAt W' v xs := by
  obtain ⟨A, c, rfl, h2, h3, h4, h5, h6⟩ := h
  refine ⟨A, c, rfl, h2, h3, h4, h5, fun hn => ?_⟩
  obtain ⟨b, off, e, hlt, hc⟩ := h6 hn
  subst e
  refine ⟨b, off, rfl, Nat.lt_of_lt_of_le hlt ha.size, fun j x hx => ?_⟩
  have e := ha.block b hlt (hF b rfl)
  rw [← hc j x hx]
  simp [World.cell?, e]

/-- The reader at g: the bytes that are left, and the first error. -/
def ReaderAt (W : World) (g : Nat) (bs : List Nat) (e : Int) : Prop :=
  ∃ v, W.heap[g]? = some (.cells #[v, .int .i64 e] 68 (0, 0)) ∧ BytesAt W v bs ∧ ∀ k, v.ownBlock = some k → k < g
theorem ReaderAt.lt {W : World} {g : Nat} {bs : List Nat} {e : Int} (h : ReaderAt W g bs e) : g < W.heap.size := by obtain ⟨v, h1, _⟩ := h; exact heap_lt h1
theorem ReaderAt.keep {W W' : World} {g : Nat} {bs : List Nat} {e : Int} (h : ReaderAt W g bs e) (hb : Below W.heap.size W W') : ReaderAt W' g bs e := by
  have hlt := h.lt
  obtain ⟨v, h1, h2, h3⟩ := h
  exact ⟨v, (hb.block g hlt).trans h1, h2.keep hb, h3⟩
theorem ReaderAt.stay {W W' : World} {g B : Nat} {bs : List Nat} {e : Int} (h : ReaderAt W g bs e) (hb : Below B W W') (hB : g < B) : ReaderAt W' g bs e := by
  obtain ⟨v, h1, h2, h3⟩ := h
  refine ⟨v, (hb.block g hB).trans h1, h2.apart (F := fun k => B ≤ k) ⟨hb.os, hb.tape, hb.output, hb.size, fun k _ hk => hb.block k (by omega)⟩ (fun k hk e => by have := h3 k hk; omega), h3⟩
theorem ReaderAt.elsewhere {W : World} {g b o : Nat} {bs : List Nat} {e : Int} (h : ReaderAt W g bs e) (hb : g < b) (u : Value) : ReaderAt (W.setCell ⟨b, o, none⟩ u) g bs e :=
  h.stay ((Below.refl b W).setCell (p := ⟨b, o, none⟩) (Nat.le_refl _) _) hb
theorem reader_cells {W : World} {g : Nat} {v : Value} {e : Int} (h : W.heap[g]? = some (.cells #[v, .int .i64 e] 68 (0, 0))) :
    W.cell? ⟨g, 0, none⟩ = some v ∧ W.cell? ⟨g, 1, none⟩ = some (.int .i64 e) ∧ W.frozen? ⟨g, 0, none⟩ = false ∧ W.frozen? ⟨g, 1, none⟩ = false := by
  refine ⟨?_, ?_, ?_, ?_⟩ <;> simp [World.cell?, World.frozen?, h]
theorem reader_set {W : World} {g : Nat} {v : Value} {e : Int} (h : W.heap[g]? = some (.cells #[v, .int .i64 e] 68 (0, 0))) (u : Value) :
    (W.setCell ⟨g, 0, none⟩ u).heap[g]? = some (.cells #[u, .int .i64 e] 68 (0, 0)) := by
  simp [World.setCell, Array.getElem?_modify, h]
theorem reader_set1 {W : World} {g : Nat} {v : Value} {e : Int} (h : W.heap[g]? = some (.cells #[v, .int .i64 e] 68 (0, 0))) (e' : Int) :
    (W.setCell ⟨g, 1, none⟩ (.int .i64 e')).heap[g]? = some (.cells #[v, .int .i64 e'] 68 (0, 0)) := by
  simp [World.setCell, Array.getElem?_modify, h]

/-- What a call answers that changes the reader. -/
def Moved (g : Nat) (v : Value) (bs : List Nat) (e : Int) (w : World) (x : Ending) (w' : World) : Prop := x = .returned v ∧ Apart (fun k => k = g) w w' ∧ ReaderAt w' g bs e

set_option maxRecDepth 100000 in
set_option maxHeartbeats 1000000 in
theorem open_any (v : Value) (bs : List Nat) (w : World) (hl : bs.length ≤ 900000) (hv : BytesAt w v bs) :
    Calls Try.prog 26 #[v] w (fun x w' => ∃ g, x = .returned (.pointer (some ⟨g, 0, none⟩)) ∧ w.heap.size ≤ g ∧ Below w.heap.size w w' ∧ ReaderAt w' g bs 0) := by
  have HC := Lib.hid (clone_any v bs w hl hv)
  clear hv
  go_enter Try.func26, Try.ntmps26
  go_wp2_with fail
  refine HC.out.mono ?_
  rintro e w1 ⟨v1, rfl, hown, hb⟩
  have HV := Lib.hid hown.bytes
  have HB := Lib.hid hb
  have HO := Lib.hid hown
  clear hown hb
  have hsz := HB.out.size
  have hA := HV.out
  obtain ⟨A, c, rfl, _⟩ := hA
  go_wp2_with fail
  go_ret
  refine ⟨w1.heap.size, rfl, hsz, HB.out.alloc hsz _, _, heap_alloc_new w1 _, HV.out.keep ((Below.refl _ _).alloc (Nat.le_refl _) _), ?_⟩
  intro k e
  rcases HO.out.1.2 with ⟨h1, _⟩ | ⟨g, cap, cur, h1, h2, h3, _⟩
  · injection h1 with h1 _ _
    subst h1
    cases e
  · injection h1 with h1 _ _
    subst h1
    injection e with e
    have hlt := heap_lt h3
    have e' : g = k := e
    omega

set_option maxRecDepth 100000 in
set_option maxHeartbeats 1000000 in
theorem err_any (g : Nat) (bs : List Nat) (e : Int) (w : World) (h : ReaderAt w g bs e) : Calls Try.prog 38 #[.pointer (some ⟨g, 0, none⟩)] w (Ret (.int .i64 e) w) := by
  obtain ⟨v, h1, _⟩ := h
  obtain ⟨c0, c1, _⟩ := reader_cells h1
  clear h1
  go_enter Try.func38, Try.ntmps38
  go_wp2
  go_ret
  exact ⟨rfl, rfl⟩

set_option maxRecDepth 100000 in
set_option maxHeartbeats 1000000 in
theorem left_any (g : Nat) (bs : List Nat) (e : Int) (w : World) (h : ReaderAt w g bs e) : Calls Try.prog 43 #[.pointer (some ⟨g, 0, none⟩)] w (Ret (.int .i64 bs.length) w) := by
  obtain ⟨v, h1, h2, _⟩ := h
  obtain ⟨c0, c1, _⟩ := reader_cells h1
  obtain ⟨A, c, rfl, _⟩ := h2
  clear h1
  go_enter Try.func43, Try.ntmps43
  go_wp2
  go_ret
  exact ⟨rfl, rfl⟩

def endI (bs : List Nat) (e : Int) : Int := if e = 0 ∧ 0 < bs.length then 3 else e
set_option maxRecDepth 100000 in
set_option maxHeartbeats 1000000 in
theorem fail_any (g : Nat) (bs : List Nat) (e e' : Int) (w : World) (h : ReaderAt w g bs e) : Calls Try.prog 40 #[.pointer (some ⟨g, 0, none⟩), .int .i64 e'] w (Moved g (.tuple #[]) [] e' w) := by
  obtain ⟨v, h1, h2, h3⟩ := h
  obtain ⟨c0, c1, f0, f1⟩ := reader_cells h1
  have H1 := Lib.hid h1
  clear h1 h2 h3
  go_enter Try.func40, Try.ntmps40
  go_wp2
  refine bodyPost_end (results_none rfl _ _ _) rfl ?_
  exact ⟨rfl, ((Apart.refl (fun k => k = g) w).set (p := ⟨g, 0, none⟩) (.inl rfl) _).set (p := ⟨g, 1, none⟩) (.inl rfl) _, _, reader_set1 (reader_set H1.out _) e', BytesAt.nil _, fun k e => by cases e⟩

theorem add_block (a : Addr) (k : Nat) : (a.add k).block = a.block := by unfold Addr.add; split <;> rfl
/-- What is left behind the first k bytes: where the room ends there, and where it does not. -/
theorem behind_end {W : World} {A : Option Addr} {n c : Nat} {bs : List Nat} (h : BytesAt W (.slice A n c) bs) {k : Nat} (hk : k ≤ bs.length) (hc : c = k) : BytesAt W (.slice A (n - k) 0) (bs.drop k) := by
  obtain ⟨A0, c0, e, h2, h3, h4, h5, h6⟩ := h
  injection e with e1 e2 e3
  subst e1 e2 e3
  subst hc
  have e : bs.drop c = [] := List.drop_of_length_le h2
  rw [e, show bs.length - c = 0 by omega]
  exact ⟨A, 0, rfl, Nat.le_refl _, by decide, fun _ => rfl, fun x h => (by cases h), fun h => absurd h (by decide)⟩
theorem behind_more {W : World} {A : Option Addr} {n c : Nat} {bs : List Nat} (h : BytesAt W (.slice A n c) bs) {k : Nat} (hk : k ≤ bs.length) : BytesAt W (.slice (Option.map (fun x => x.add k) A) (n - k) (c - k)) (bs.drop k) := by
  obtain ⟨A0, c0, e, h2, h3, h4, h5, h6⟩ := h
  injection e with e1 e2 e3
  subst e1 e2 e3
  refine ⟨_, c - k, by rw [List.length_drop], by rw [List.length_drop]; omega, by omega, fun h => by rw [h4 (by simpa using h)]; omega, fun x hx => h5 x (List.mem_of_mem_drop hx), fun hp => ?_⟩
  rw [List.length_drop] at hp
  obtain ⟨b, off, e, hlt, hc⟩ := h6 (by omega)
  subst e
  refine ⟨b, off + k, by rw [Option.map_some, Addr.add_lit], hlt, fun j x hx => ?_⟩
  rw [List.getElem?_drop] at hx
  rw [Nat.add_assoc]
  exact hc _ x hx
theorem map_block {A : Option Addr} {k n c n' c' g : Nat} (h : ∀ q, (Value.slice A n c).ownBlock = some q → q < g) : ∀ q, (Value.slice (Option.map (fun x => x.add k) A) n' c').ownBlock = some q → q < g := by
  rcases A with _ | a
  · intro q e; cases e
  · intro q e
    apply h
    have e' : some (a.add k).block = some q := e
    rw [add_block] at e'
    exact e'
theorem same_block {A : Option Addr} {n c n' c' g : Nat} (h : ∀ q, (Value.slice A n c).ownBlock = some q → q < g) : ∀ q, (Value.slice A n' c').ownBlock = some q → q < g := by
  rcases A with _ | a
  · intro q e; cases e
  · exact h
/-- The reader goes on. -/
theorem reader_on {w : World} {g : Nat} {v u : Value} {e : Int} {bs : List Nat} (h : w.heap[g]? = some (.cells #[v, .int .i64 e] 68 (0, 0))) (hu : BytesAt w u bs) (hg : ∀ k, u.ownBlock = some k → k < g) :
    Apart (fun k => k = g) w (w.setCell ⟨g, 0, none⟩ u) ∧ ReaderAt (w.setCell ⟨g, 0, none⟩ u) g bs e := by
  have ha : Apart (fun k => k = g) w (w.setCell ⟨g, 0, none⟩ u) := (Apart.refl (fun k => k = g) w).set (p := ⟨g, 0, none⟩) (.inl rfl) _
  exact ⟨ha, u, reader_set h u, hu.apart ha (fun k hk e => by have := hg k hk; omega), hg⟩

/-- What Num answers, what is left, and the first error. -/
def numT (bs : List Nat) (e : Int) (most : Nat) : Nat × List Nat × Int :=
  if e ≠ 0 then (0, bs, e) else if (lead 0 0 bs).2 = 0 then (0, [], 3) else if most < (lead 0 0 bs).1 then (0, [], 5) else ((lead 0 0 bs).1, bs.drop (lead 0 0 bs).2, 0)

theorem lead_bounds : ∀ (l : List Nat) (i acc : Nat), (∀ x ∈ l, x < 256) → (i < 10 → acc < 128 ^ i) → (lead i acc l).1 < 18446744073709551616 ∧ (lead i acc l).2 ≤ i + l.length := by
  intro l
  induction l with
  | nil => intro i acc _ _; rw [lead_nil]; exact ⟨by decide, Nat.zero_le _⟩
  | cons x r ih =>
    intro i acc hl ha
    rcases Nat.lt_or_ge i 10 with hi | hi
    · have hx := hl x (by simp)
      rcases Nat.lt_or_ge x 128 with h1 | h1
      · by_cases hb : (0 < i ∧ x = 0) ∨ (i = 9 ∧ 1 < x)
        · rw [lead_bad hi h1 hb]; exact ⟨by decide, Nat.zero_le _⟩
        · rw [lead_last hi h1 hb]
          exact ⟨x_room (ha hi) hi h1 (fun h => by omega), by simp⟩
      · rw [lead_more hi h1]
        have := ih (i + 1) (acc + (x - 128) * 128 ^ i) (fun y hy => hl y (by simp [hy])) (fun _ => acc_more (ha hi) (by omega))
        rw [List.length_cons]
        exact ⟨this.1, by omega⟩
    · rw [lead_ten hi]; exact ⟨by decide, Nat.zero_le _⟩

set_option maxRecDepth 100000 in
set_option maxHeartbeats 1000000 in
theorem read_any (g : Nat) (bs : List Nat) (e : Int) (most : Nat) (w : World) (hm : most < 18446744073709551616) (h : ReaderAt w g bs e) :
    Calls Try.prog 27 #[.pointer (some ⟨g, 0, none⟩), .int .u64 most] w (Moved g (.int .u64 (numT bs e most).1) (numT bs e most).2.1 (numT bs e most).2.2 w) := by
  have HE := Lib.hid (err_any g bs e w h)
  have HR := Lib.hid h
  by_cases h0 : e = 0
  · subst h0
    have HF := Lib.hid (fun e' => fail_any g bs 0 e' w h)
    obtain ⟨v, h1, h2, h3⟩ := h
    have HLD := Lib.hid (leading_any v bs w h2)
    have hlb := lead_bounds bs 0 0 (by obtain ⟨_, _, _, _, _, _, h, _⟩ := h2; exact h) (fun _ => by decide)
    have ht : numT bs 0 most = if (lead 0 0 bs).2 = 0 then (0, [], 3) else if most < (lead 0 0 bs).1 then (0, [], 5) else ((lead 0 0 bs).1, bs.drop (lead 0 0 bs).2, 0) := by
      unfold numT
      rw [if_neg (by simp)]
    generalize numT bs 0 most = T at *
    generalize (lead 0 0 bs).1 = n at *
    generalize (lead 0 0 bs).2 = len at *
    obtain ⟨c0, c1, f0, f1⟩ := reader_cells h1
    have H1 := Lib.hid h1
    have H2 := Lib.hid h2
    have H3 := Lib.hid h3
    by_cases hl0 : len = 0
    · rw [if_pos hl0] at ht
      subst ht
      subst hl0
      clear h1 h2 h3 hlb
      go_enter Try.func27, Try.ntmps27
      go_wp2_with (first | (go_at_call 38; refine HE.out.mono ?_; rintro e w' ⟨rfl, rfl⟩) | (go_at_call 39; refine HLD.out.mono ?_; rintro e w' ⟨rfl, rfl⟩) | (go_at_call 40; refine (HF.out _).mono ?_; rintro e w' ⟨rfl, ha, hr⟩))
      go_ret
      exact ⟨rfl, ha, hr⟩
    · rw [if_neg hl0] at ht
      have hlz : ((len : Int) == 0) = false := by simp; omega
      by_cases hmo : most < n
      · rw [if_pos hmo] at ht
        subst ht
        have hmz : (most : Int) < (n : Int) := by omega
        clear h1 h2 h3 hlb hl0
        go_enter Try.func27, Try.ntmps27
        go_wp2_with (first | (go_at_call 38; refine HE.out.mono ?_; rintro e w' ⟨rfl, rfl⟩) | (go_at_call 39; refine HLD.out.mono ?_; rintro e w' ⟨rfl, rfl⟩) | (go_at_call 40; refine (HF.out _).mono ?_; rintro e w' ⟨rfl, ha, hr⟩))
        go_ret
        exact ⟨rfl, ha, hr⟩
      · rw [if_neg hmo] at ht
        subst ht
        have hmz : ¬ (most : Int) < (n : Int) := by omega
        obtain ⟨A, c, rfl, a1, a2, a3, _⟩ := h2
        have hlc : (len : Int) ≤ (bs.length : Int) := by have := hlb.2; omega
        have hlc2 : (len : Int) ≤ (c : Int) := by omega
        have hl00 : (0 : Int) ≤ (len : Int) := by omega
        have HLC := Lib.hid hlc
        generalize hn : bs.length = q at *
        have HQ := Lib.hid hn
        clear h1 h3 hlb hl0 hn
        go_enter Try.func27, Try.ntmps27
        go_wp2_with (first | (go_at_call 38; refine HE.out.mono ?_; rintro e w' ⟨rfl, rfl⟩) | (go_at_call 39; refine HLD.out.mono ?_; rintro e w' ⟨rfl, rfl⟩) | (go_at_call 40; refine (HF.out _).mono ?_; rintro e w' ⟨rfl, ha, hr⟩))
        all_goals go_ret
        · exact ⟨rfl, reader_on H1.out (behind_end H2.out (by have := HLC.out; have := HQ.out; omega) (by assumption)) (same_block H3.out)⟩
        · exact ⟨rfl, reader_on H1.out (behind_more H2.out (by have := HLC.out; have := HQ.out; omega)) (map_block H3.out)⟩
  · have ht : numT bs e most = (0, bs, e) := if_pos h0
    rw [ht]
    have he : (e != 0) = true := by simpa using h0
    clear ht h0 h
    go_enter Try.func27, Try.ntmps27
    go_wp2_with (first | (go_at_call 38; refine HE.out.mono ?_; rintro e w' ⟨rfl, rfl⟩))
    go_ret
    exact ⟨rfl, Apart.refl _ _, HR.out⟩
end Go.Proofs.Ytaffcpjhaacadaa
