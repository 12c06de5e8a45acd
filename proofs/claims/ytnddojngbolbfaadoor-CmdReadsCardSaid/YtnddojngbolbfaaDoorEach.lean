/-
  eachField: over a command's fields, in order, whatever is called with each, by what that call keeps.
  Conditions: none.
-/
import Derived.Test.YtnddojngbolbfaaDoorCmdAt
set_option linter.unusedVariables false
namespace Go.Proofs.YtnddojngbolbfaaDoor
open Go.RowKit

/-- What is called with each field: from what holds behind i calls to what holds behind one more. -/
def StepI (g : Nat) (lb : Array Value) (b : Nat) (fs : List Nat) (I : Nat → World → Prop) : Prop :=
  ∀ (i j : Nat) (W : World), fs[i]? = some j → I i W → Calls Tryd.prog g (#[.pointer (some ⟨b, j, none⟩)] ++ lb) W (fun e W' => e = .returned (.tuple #[]) ∧ I (i + 1) W')
def EachPost (I : Nat → World → Prop) (n : Nat) (e : Ending) (w' : World) : Prop := e = .returned (.bool true) ∧ I n w'
abbrev EG (g : Nat) : Prop := ∀ args w, (callFunc g args).run Tryd.prog w = .ok (.enter g args) w

set_option maxRecDepth 100000 in
set_option maxHeartbeats 1000000 in
theorem each_9 (g : Nat) (lb : Array Value) (eg : EG g) (b : Nat) (w : World) (hop : w.cell? ⟨b, 0, none⟩ = some (.int .i64 9)) (I : Nat → World → Prop) (h0 : I 0 w) (hs : StepI g lb b [5, 4, 2, 1] I) :
    Calls Tryd.prog 26 #[.pointer (some ⟨b, 0, none⟩), .func (.func g) #[] lb] w (EachPost I 4) := by
  have HS := Lib.hid hs
  have H0 := Lib.hid h0
  unfold EG at eg
  clear hs h0
  go_enter Tryd.func26, Tryd.ntmps26
  go_wp2_with fail
  go_at_fn g
  refine (HS.out 0 5 _ rfl H0.out).mono ?_
  rintro e w1 ⟨rfl, h1⟩
  have H1 := Lib.hid h1
  clear h1
  go_wp2_with fail
  go_at_fn g
  refine (HS.out 1 4 _ rfl H1.out).mono ?_
  rintro e w2 ⟨rfl, h2⟩
  have H2 := Lib.hid h2
  clear h2
  go_wp2_with fail
  go_at_fn g
  refine (HS.out 2 2 _ rfl H2.out).mono ?_
  rintro e w3 ⟨rfl, h3⟩
  have H3 := Lib.hid h3
  clear h3
  go_wp2_with fail
  go_at_fn g
  refine (HS.out 3 1 _ rfl H3.out).mono ?_
  rintro e w4 ⟨rfl, h4⟩
  have H4 := Lib.hid h4
  clear h4
  go_wp2
  go_ret
  exact ⟨rfl, H4.out⟩

set_option maxRecDepth 100000 in
set_option maxHeartbeats 1000000 in
theorem each_12 (g : Nat) (lb : Array Value) (eg : EG g) (b : Nat) (w : World) (hop : w.cell? ⟨b, 0, none⟩ = some (.int .i64 12)) (I : Nat → World → Prop) (h0 : I 0 w) (hs : StepI g lb b [2, 1] I) :
    Calls Tryd.prog 26 #[.pointer (some ⟨b, 0, none⟩), .func (.func g) #[] lb] w (EachPost I 2) := by
  have HS := Lib.hid hs
  have H0 := Lib.hid h0
  unfold EG at eg
  clear hs h0
  go_enter Tryd.func26, Tryd.ntmps26
  go_wp2_with fail
  go_at_fn g
  refine (HS.out 0 2 _ rfl H0.out).mono ?_
  rintro e w1 ⟨rfl, h1⟩
  have H1 := Lib.hid h1
  clear h1
  go_wp2_with fail
  go_at_fn g
  refine (HS.out 1 1 _ rfl H1.out).mono ?_
  rintro e w2 ⟨rfl, h2⟩
  have H2 := Lib.hid h2
  clear h2
  go_wp2
  go_ret
  exact ⟨rfl, H2.out⟩

set_option maxRecDepth 100000 in
set_option maxHeartbeats 1000000 in
theorem each_2 (g : Nat) (lb : Array Value) (eg : EG g) (b : Nat) (w : World) (hop : w.cell? ⟨b, 0, none⟩ = some (.int .i64 2)) (I : Nat → World → Prop) (h0 : I 0 w) (hs : StepI g lb b [1] I) :
    Calls Tryd.prog 26 #[.pointer (some ⟨b, 0, none⟩), .func (.func g) #[] lb] w (EachPost I 1) := by
  have HS := Lib.hid hs
  have H0 := Lib.hid h0
  unfold EG at eg
  clear hs h0
  go_enter Tryd.func26, Tryd.ntmps26
  go_wp2_with fail
  go_at_fn g
  refine (HS.out 0 1 _ rfl H0.out).mono ?_
  rintro e w1 ⟨rfl, h1⟩
  have H1 := Lib.hid h1
  clear h1
  go_wp2
  go_ret
  exact ⟨rfl, H1.out⟩

set_option maxRecDepth 100000 in
set_option maxHeartbeats 1000000 in
theorem each_4 (g : Nat) (lb : Array Value) (eg : EG g) (b : Nat) (w : World) (hop : w.cell? ⟨b, 0, none⟩ = some (.int .i64 4)) (I : Nat → World → Prop) (h0 : I 0 w) (hs : StepI g lb b [1] I) :
    Calls Tryd.prog 26 #[.pointer (some ⟨b, 0, none⟩), .func (.func g) #[] lb] w (EachPost I 1) := by
  have HS := Lib.hid hs
  have H0 := Lib.hid h0
  unfold EG at eg
  clear hs h0
  go_enter Tryd.func26, Tryd.ntmps26
  go_wp2_with fail
  go_at_fn g
  refine (HS.out 0 1 _ rfl H0.out).mono ?_
  rintro e w1 ⟨rfl, h1⟩
  have H1 := Lib.hid h1
  clear h1
  go_wp2
  go_ret
  exact ⟨rfl, H1.out⟩

set_option maxRecDepth 100000 in
set_option maxHeartbeats 1000000 in
theorem each_5 (g : Nat) (lb : Array Value) (eg : EG g) (b : Nat) (w : World) (hop : w.cell? ⟨b, 0, none⟩ = some (.int .i64 5)) (I : Nat → World → Prop) (h0 : I 0 w) (hs : StepI g lb b [1] I) :
    Calls Tryd.prog 26 #[.pointer (some ⟨b, 0, none⟩), .func (.func g) #[] lb] w (EachPost I 1) := by
  have HS := Lib.hid hs
  have H0 := Lib.hid h0
  unfold EG at eg
  clear hs h0
  go_enter Tryd.func26, Tryd.ntmps26
  go_wp2_with fail
  go_at_fn g
  refine (HS.out 0 1 _ rfl H0.out).mono ?_
  rintro e w1 ⟨rfl, h1⟩
  have H1 := Lib.hid h1
  clear h1
  go_wp2
  go_ret
  exact ⟨rfl, H1.out⟩

set_option maxRecDepth 100000 in
set_option maxHeartbeats 1000000 in
theorem each_17 (g : Nat) (lb : Array Value) (eg : EG g) (b : Nat) (w : World) (hop : w.cell? ⟨b, 0, none⟩ = some (.int .i64 17)) (I : Nat → World → Prop) (h0 : I 0 w) (hs : StepI g lb b [1] I) :
    Calls Tryd.prog 26 #[.pointer (some ⟨b, 0, none⟩), .func (.func g) #[] lb] w (EachPost I 1) := by
  have HS := Lib.hid hs
  have H0 := Lib.hid h0
  unfold EG at eg
  clear hs h0
  go_enter Tryd.func26, Tryd.ntmps26
  go_wp2_with fail
  go_at_fn g
  refine (HS.out 0 1 _ rfl H0.out).mono ?_
  rintro e w1 ⟨rfl, h1⟩
  have H1 := Lib.hid h1
  clear h1
  go_wp2
  go_ret
  exact ⟨rfl, H1.out⟩

set_option maxRecDepth 100000 in
set_option maxHeartbeats 1000000 in
theorem each_1 (g : Nat) (lb : Array Value) (eg : EG g) (b : Nat) (w : World) (hop : w.cell? ⟨b, 0, none⟩ = some (.int .i64 1)) (I : Nat → World → Prop) (h0 : I 0 w) (hs : StepI g lb b [3, 1] I) :
    Calls Tryd.prog 26 #[.pointer (some ⟨b, 0, none⟩), .func (.func g) #[] lb] w (EachPost I 2) := by
  have HS := Lib.hid hs
  have H0 := Lib.hid h0
  unfold EG at eg
  clear hs h0
  go_enter Tryd.func26, Tryd.ntmps26
  go_wp2_with fail
  go_at_fn g
  refine (HS.out 0 3 _ rfl H0.out).mono ?_
  rintro e w1 ⟨rfl, h1⟩
  have H1 := Lib.hid h1
  clear h1
  go_wp2_with fail
  go_at_fn g
  refine (HS.out 1 1 _ rfl H1.out).mono ?_
  rintro e w2 ⟨rfl, h2⟩
  have H2 := Lib.hid h2
  clear h2
  go_wp2
  go_ret
  exact ⟨rfl, H2.out⟩

set_option maxRecDepth 100000 in
set_option maxHeartbeats 1000000 in
theorem each_3 (g : Nat) (lb : Array Value) (eg : EG g) (b : Nat) (w : World) (hop : w.cell? ⟨b, 0, none⟩ = some (.int .i64 3)) (I : Nat → World → Prop) (h0 : I 0 w) (hs : StepI g lb b [3, 1] I) :
    Calls Tryd.prog 26 #[.pointer (some ⟨b, 0, none⟩), .func (.func g) #[] lb] w (EachPost I 2) := by
  have HS := Lib.hid hs
  have H0 := Lib.hid h0
  unfold EG at eg
  clear hs h0
  go_enter Tryd.func26, Tryd.ntmps26
  go_wp2_with fail
  go_at_fn g
  refine (HS.out 0 3 _ rfl H0.out).mono ?_
  rintro e w1 ⟨rfl, h1⟩
  have H1 := Lib.hid h1
  clear h1
  go_wp2_with fail
  go_at_fn g
  refine (HS.out 1 1 _ rfl H1.out).mono ?_
  rintro e w2 ⟨rfl, h2⟩
  have H2 := Lib.hid h2
  clear h2
  go_wp2
  go_ret
  exact ⟨rfl, H2.out⟩

set_option maxRecDepth 100000 in
set_option maxHeartbeats 1000000 in
theorem each_10 (g : Nat) (lb : Array Value) (eg : EG g) (b : Nat) (w : World) (hop : w.cell? ⟨b, 0, none⟩ = some (.int .i64 10)) (I : Nat → World → Prop) (h0 : I 0 w) (hs : StepI g lb b [4, 1] I) :
    Calls Tryd.prog 26 #[.pointer (some ⟨b, 0, none⟩), .func (.func g) #[] lb] w (EachPost I 2) := by
  have HS := Lib.hid hs
  have H0 := Lib.hid h0
  unfold EG at eg
  clear hs h0
  go_enter Tryd.func26, Tryd.ntmps26
  go_wp2_with fail
  go_at_fn g
  refine (HS.out 0 4 _ rfl H0.out).mono ?_
  rintro e w1 ⟨rfl, h1⟩
  have H1 := Lib.hid h1
  clear h1
  go_wp2_with fail
  go_at_fn g
  refine (HS.out 1 1 _ rfl H1.out).mono ?_
  rintro e w2 ⟨rfl, h2⟩
  have H2 := Lib.hid h2
  clear h2
  go_wp2
  go_ret
  exact ⟨rfl, H2.out⟩

set_option maxRecDepth 100000 in
set_option maxHeartbeats 1000000 in
theorem each_11 (g : Nat) (lb : Array Value) (eg : EG g) (b : Nat) (w : World) (hop : w.cell? ⟨b, 0, none⟩ = some (.int .i64 11)) (I : Nat → World → Prop) (h0 : I 0 w) (hs : StepI g lb b [5, 1] I) :
    Calls Tryd.prog 26 #[.pointer (some ⟨b, 0, none⟩), .func (.func g) #[] lb] w (EachPost I 2) := by
  have HS := Lib.hid hs
  have H0 := Lib.hid h0
  unfold EG at eg
  clear hs h0
  go_enter Tryd.func26, Tryd.ntmps26
  go_wp2_with fail
  go_at_fn g
  refine (HS.out 0 5 _ rfl H0.out).mono ?_
  rintro e w1 ⟨rfl, h1⟩
  have H1 := Lib.hid h1
  clear h1
  go_wp2_with fail
  go_at_fn g
  refine (HS.out 1 1 _ rfl H1.out).mono ?_
  rintro e w2 ⟨rfl, h2⟩
  have H2 := Lib.hid h2
  clear h2
  go_wp2
  go_ret
  exact ⟨rfl, H2.out⟩

set_option maxRecDepth 100000 in
set_option maxHeartbeats 1000000 in
theorem each_6 (g : Nat) (lb : Array Value) (eg : EG g) (b : Nat) (w : World) (hop : w.cell? ⟨b, 0, none⟩ = some (.int .i64 6)) (I : Nat → World → Prop) (h0 : I 0 w) (hs : StepI g lb b [3, 2] I) :
    Calls Tryd.prog 26 #[.pointer (some ⟨b, 0, none⟩), .func (.func g) #[] lb] w (EachPost I 2) := by
  have HS := Lib.hid hs
  have H0 := Lib.hid h0
  unfold EG at eg
  clear hs h0
  go_enter Tryd.func26, Tryd.ntmps26
  go_wp2_with fail
  go_at_fn g
  refine (HS.out 0 3 _ rfl H0.out).mono ?_
  rintro e w1 ⟨rfl, h1⟩
  have H1 := Lib.hid h1
  clear h1
  go_wp2_with fail
  go_at_fn g
  refine (HS.out 1 2 _ rfl H1.out).mono ?_
  rintro e w2 ⟨rfl, h2⟩
  have H2 := Lib.hid h2
  clear h2
  go_wp2
  go_ret
  exact ⟨rfl, H2.out⟩

set_option maxRecDepth 100000 in
set_option maxHeartbeats 1000000 in
theorem each_7 (g : Nat) (lb : Array Value) (eg : EG g) (b : Nat) (w : World) (hop : w.cell? ⟨b, 0, none⟩ = some (.int .i64 7)) (I : Nat → World → Prop) (h0 : I 0 w) (hs : StepI g lb b [3, 2] I) :
    Calls Tryd.prog 26 #[.pointer (some ⟨b, 0, none⟩), .func (.func g) #[] lb] w (EachPost I 2) := by
  have HS := Lib.hid hs
  have H0 := Lib.hid h0
  unfold EG at eg
  clear hs h0
  go_enter Tryd.func26, Tryd.ntmps26
  go_wp2_with fail
  go_at_fn g
  refine (HS.out 0 3 _ rfl H0.out).mono ?_
  rintro e w1 ⟨rfl, h1⟩
  have H1 := Lib.hid h1
  clear h1
  go_wp2_with fail
  go_at_fn g
  refine (HS.out 1 2 _ rfl H1.out).mono ?_
  rintro e w2 ⟨rfl, h2⟩
  have H2 := Lib.hid h2
  clear h2
  go_wp2
  go_ret
  exact ⟨rfl, H2.out⟩

set_option maxRecDepth 100000 in
set_option maxHeartbeats 1000000 in
theorem each_8 (g : Nat) (lb : Array Value) (eg : EG g) (b : Nat) (w : World) (hop : w.cell? ⟨b, 0, none⟩ = some (.int .i64 8)) (I : Nat → World → Prop) (h0 : I 0 w) (hs : StepI g lb b [2] I) :
    Calls Tryd.prog 26 #[.pointer (some ⟨b, 0, none⟩), .func (.func g) #[] lb] w (EachPost I 1) := by
  have HS := Lib.hid hs
  have H0 := Lib.hid h0
  unfold EG at eg
  clear hs h0
  go_enter Tryd.func26, Tryd.ntmps26
  go_wp2_with fail
  go_at_fn g
  refine (HS.out 0 2 _ rfl H0.out).mono ?_
  rintro e w1 ⟨rfl, h1⟩
  have H1 := Lib.hid h1
  clear h1
  go_wp2
  go_ret
  exact ⟨rfl, H1.out⟩

set_option maxRecDepth 100000 in
set_option maxHeartbeats 1000000 in
theorem each_13 (g : Nat) (lb : Array Value) (eg : EG g) (b : Nat) (w : World) (hop : w.cell? ⟨b, 0, none⟩ = some (.int .i64 13)) (I : Nat → World → Prop) (h0 : I 0 w) (hs : StepI g lb b [6] I) :
    Calls Tryd.prog 26 #[.pointer (some ⟨b, 0, none⟩), .func (.func g) #[] lb] w (EachPost I 1) := by
  have HS := Lib.hid hs
  have H0 := Lib.hid h0
  unfold EG at eg
  clear hs h0
  go_enter Tryd.func26, Tryd.ntmps26
  go_wp2_with fail
  go_at_fn g
  refine (HS.out 0 6 _ rfl H0.out).mono ?_
  rintro e w1 ⟨rfl, h1⟩
  have H1 := Lib.hid h1
  clear h1
  go_wp2
  go_ret
  exact ⟨rfl, H1.out⟩

set_option maxRecDepth 100000 in
set_option maxHeartbeats 1000000 in
theorem each_14 (g : Nat) (lb : Array Value) (eg : EG g) (b : Nat) (w : World) (hop : w.cell? ⟨b, 0, none⟩ = some (.int .i64 14)) (I : Nat → World → Prop) (h0 : I 0 w) (hs : StepI g lb b [6] I) :
    Calls Tryd.prog 26 #[.pointer (some ⟨b, 0, none⟩), .func (.func g) #[] lb] w (EachPost I 1) := by
  have HS := Lib.hid hs
  have H0 := Lib.hid h0
  unfold EG at eg
  clear hs h0
  go_enter Tryd.func26, Tryd.ntmps26
  go_wp2_with fail
  go_at_fn g
  refine (HS.out 0 6 _ rfl H0.out).mono ?_
  rintro e w1 ⟨rfl, h1⟩
  have H1 := Lib.hid h1
  clear h1
  go_wp2
  go_ret
  exact ⟨rfl, H1.out⟩

set_option maxRecDepth 100000 in
set_option maxHeartbeats 1000000 in
theorem each_16 (g : Nat) (lb : Array Value) (eg : EG g) (b : Nat) (w : World) (hop : w.cell? ⟨b, 0, none⟩ = some (.int .i64 16)) (I : Nat → World → Prop) (h0 : I 0 w) (hs : StepI g lb b [7] I) :
    Calls Tryd.prog 26 #[.pointer (some ⟨b, 0, none⟩), .func (.func g) #[] lb] w (EachPost I 1) := by
  have HS := Lib.hid hs
  have H0 := Lib.hid h0
  unfold EG at eg
  clear hs h0
  go_enter Tryd.func26, Tryd.ntmps26
  go_wp2_with fail
  go_at_fn g
  refine (HS.out 0 7 _ rfl H0.out).mono ?_
  rintro e w1 ⟨rfl, h1⟩
  have H1 := Lib.hid h1
  clear h1
  go_wp2
  go_ret
  exact ⟨rfl, H1.out⟩

set_option maxRecDepth 100000 in
set_option maxHeartbeats 1000000 in
theorem each_15 (g : Nat) (lb : Array Value) (eg : EG g) (b : Nat) (w : World) (hop : w.cell? ⟨b, 0, none⟩ = some (.int .i64 15)) (I : Nat → World → Prop) (h0 : I 0 w) (hs : StepI g lb b [] I) :
    Calls Tryd.prog 26 #[.pointer (some ⟨b, 0, none⟩), .func (.func g) #[] lb] w (EachPost I 0) := by
  have HS := Lib.hid hs
  have H0 := Lib.hid h0
  unfold EG at eg
  clear hs h0
  go_enter Tryd.func26, Tryd.ntmps26
  go_wp2
  go_ret
  exact ⟨rfl, H0.out⟩

set_option maxRecDepth 100000 in
set_option maxHeartbeats 1000000 in
theorem each_none (f : Value) (b : Nat) (op : Int) (w : World) (hop : w.cell? ⟨b, 0, none⟩ = some (.int .i64 op)) (hn : fieldsT op = none) :
    Calls Tryd.prog 26 #[.pointer (some ⟨b, 0, none⟩), f] w (Ret (.bool false) w) := by
  have hk := fieldsT_none hn
  have k9 : (op == 9) = false := by simpa using hk 9 (by decide)
  have k12 : (op == 12) = false := by simpa using hk 12 (by decide)
  have k2 : (op == 2) = false := by simpa using hk 2 (by decide)
  have k4 : (op == 4) = false := by simpa using hk 4 (by decide)
  have k5 : (op == 5) = false := by simpa using hk 5 (by decide)
  have k17 : (op == 17) = false := by simpa using hk 17 (by decide)
  have k1 : (op == 1) = false := by simpa using hk 1 (by decide)
  have k3 : (op == 3) = false := by simpa using hk 3 (by decide)
  have k10 : (op == 10) = false := by simpa using hk 10 (by decide)
  have k11 : (op == 11) = false := by simpa using hk 11 (by decide)
  have k6 : (op == 6) = false := by simpa using hk 6 (by decide)
  have k7 : (op == 7) = false := by simpa using hk 7 (by decide)
  have k8 : (op == 8) = false := by simpa using hk 8 (by decide)
  have k13 : (op == 13) = false := by simpa using hk 13 (by decide)
  have k14 : (op == 14) = false := by simpa using hk 14 (by decide)
  have k16 : (op == 16) = false := by simpa using hk 16 (by decide)
  have k15 : (op == 15) = false := by simpa using hk 15 (by decide)
  clear hk hn
  go_enter Tryd.func26, Tryd.ntmps26
  go_wp2
  go_ret
  exact ⟨rfl, rfl⟩

theorem each_any (g : Nat) (lb : Array Value) (eg : EG g) (b : Nat) (op : Int) (fs : List Nat) (hfs : fieldsT op = some fs) (w : World) (hop : w.cell? ⟨b, 0, none⟩ = some (.int .i64 op)) (I : Nat → World → Prop) (h0 : I 0 w) (hs : StepI g lb b fs I) :
    Calls Tryd.prog 26 #[.pointer (some ⟨b, 0, none⟩), .func (.func g) #[] lb] w (EachPost I fs.length) := by
  have hm := fieldsT_some hfs
  unfold opsT at hm
  simp only [List.mem_cons, List.not_mem_nil, or_false] at hm
  rcases hm with rfl | rfl | rfl | rfl | rfl | rfl | rfl | rfl | rfl | rfl | rfl | rfl | rfl | rfl | rfl | rfl | rfl
  · obtain rfl : fs = [5, 4, 2, 1] := (Option.some.inj hfs).symm
    exact each_9 g lb eg b w hop I h0 hs
  · obtain rfl : fs = [2, 1] := (Option.some.inj hfs).symm
    exact each_12 g lb eg b w hop I h0 hs
  · obtain rfl : fs = [1] := (Option.some.inj hfs).symm
    exact each_2 g lb eg b w hop I h0 hs
  · obtain rfl : fs = [1] := (Option.some.inj hfs).symm
    exact each_4 g lb eg b w hop I h0 hs
  · obtain rfl : fs = [1] := (Option.some.inj hfs).symm
    exact each_5 g lb eg b w hop I h0 hs
  · obtain rfl : fs = [1] := (Option.some.inj hfs).symm
    exact each_17 g lb eg b w hop I h0 hs
  · obtain rfl : fs = [3, 1] := (Option.some.inj hfs).symm
    exact each_1 g lb eg b w hop I h0 hs
  · obtain rfl : fs = [3, 1] := (Option.some.inj hfs).symm
    exact each_3 g lb eg b w hop I h0 hs
  · obtain rfl : fs = [4, 1] := (Option.some.inj hfs).symm
    exact each_10 g lb eg b w hop I h0 hs
  · obtain rfl : fs = [5, 1] := (Option.some.inj hfs).symm
    exact each_11 g lb eg b w hop I h0 hs
  · obtain rfl : fs = [3, 2] := (Option.some.inj hfs).symm
    exact each_6 g lb eg b w hop I h0 hs
  · obtain rfl : fs = [3, 2] := (Option.some.inj hfs).symm
    exact each_7 g lb eg b w hop I h0 hs
  · obtain rfl : fs = [2] := (Option.some.inj hfs).symm
    exact each_8 g lb eg b w hop I h0 hs
  · obtain rfl : fs = [6] := (Option.some.inj hfs).symm
    exact each_13 g lb eg b w hop I h0 hs
  · obtain rfl : fs = [6] := (Option.some.inj hfs).symm
    exact each_14 g lb eg b w hop I h0 hs
  · obtain rfl : fs = [7] := (Option.some.inj hfs).symm
    exact each_16 g lb eg b w hop I h0 hs
  · obtain rfl : fs = [] := (Option.some.inj hfs).symm
    exact each_15 g lb eg b w hop I h0 hs
end Go.Proofs.YtnddojngbolbfaaDoor
