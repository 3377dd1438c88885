"""Functions handed over: rows gone through, put together, searched by them."""
