/-
  Blocks of the letter a, a thousand at a time. Plain mathematics.
-/
import Derived.Test.YtpabooocbileiaaDoorShaQ
namespace Go.Proofs.YtpabooocbileiaaDoor

theorem it_8 : iterB kws_A 1000 st_8 = st_9 := iter_lit _ _ ks_A_eq _ _ _ (by decide +kernel)
theorem it_9 : iterB kws_A 1000 st_9 = st_10 := iter_lit _ _ ks_A_eq _ _ _ (by decide +kernel)
theorem it_10 : iterB kws_A 1000 st_10 = st_11 := iter_lit _ _ ks_A_eq _ _ _ (by decide +kernel)
theorem it_11 : iterB kws_A 1000 st_11 = st_12 := iter_lit _ _ ks_A_eq _ _ _ (by decide +kernel)
end Go.Proofs.YtpabooocbileiaaDoor
